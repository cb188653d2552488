/-
  The contract of class.Parts: of every list of classes it makes the reference's list of parts, in a row of its own.
-/
import Derived.Test.YtgoejdakmbpcmaaSorts
import Derived.Maps.OwnSet
import Derived.Maps.Own
import Derived.DeepKeys4
namespace Go.Proofs.Ytgoejdakmbpcmaa
open Go.RowKit
open Go.Maps
open Cls

theorem laidOut' : laidOutB Try.prog = true := by kernel_rfl
theorem law24 : Maps.Keyed Try.prog 24 := Maps.Keyed.of_law (deep_law_laid laidOut' (m := 2) (by omega) (of_decide_eq_true (by kernel_rfl)) (by kernel_rfl) (by rw [Try.underlying24]))
theorem zero50 (w : World) : (zeroValue 50).run Try.prog w = .ok (.agg #[]) w := by kernel_rfl
theorem wd_wf (a : Wd) : (Lit.int .u64 (a.toNat : Int)).wf = true := by
  have := a.isLt
  simp [Lit.wf, IntKind.min, IntKind.max, IntKind.signed, IntKind.bits]; omega
theorem key24 (c : Cl) : ∃ kl, keyOf Try.prog 24 (.agg #[.int .u64 (c.1.toNat : Int), .int .u64 (c.2.1.toNat : Int), .int .u64 (c.2.2.1.toNat : Int), .int .u64 (c.2.2.2.toNat : Int)]) = some kl := by
  have hk : Try.prog.keyType 24 = true := by kernel_rfl
  obtain ⟨m, hm⟩ : ∃ m, Try.prog.types.size = m + 1 := ⟨Try.prog.types.size - 1, by have : 0 < Try.prog.types.size := of_decide_eq_true (by kernel_rfl); omega⟩
  unfold keyOf
  rw [Try.underlying24]
  simp only [hk, Bool.true_and]
  rw [if_pos (by simp [Value.formed, Try.underlying24, cells24])]
  rw [hm]
  have e0 : Try.prog.keyLits (m + 1 + 1) 24 (Value.agg #[.int .u64 (c.1.toNat : Int), .int .u64 (c.2.1.toNat : Int), .int .u64 (c.2.2.1.toNat : Int), .int .u64 (c.2.2.2.toNat : Int)]).cells.toList = some [.int .u64 (c.1.toNat : Int), .int .u64 (c.2.1.toNat : Int), .int .u64 (c.2.2.1.toNat : Int), .int .u64 (c.2.2.2.toNat : Int)] := by
    simp [Program.keyLits, Try.underlying24, Try.underlying22, cells24, cells22, List.range_succ, wd_wf, Value.cells]
  rw [e0]
  exact ⟨_, rfl⟩
theorem key_inj {c d : Cl} {kl : Lit} (h1 : keyOf Try.prog 24 (.agg #[.int .u64 (c.1.toNat : Int), .int .u64 (c.2.1.toNat : Int), .int .u64 (c.2.2.1.toNat : Int), .int .u64 (c.2.2.2.toNat : Int)]) = some kl) (h2 : keyOf Try.prog 24 (.agg #[.int .u64 (d.1.toNat : Int), .int .u64 (d.2.1.toNat : Int), .int .u64 (d.2.2.1.toNat : Int), .int .u64 (d.2.2.2.toNat : Int)]) = some kl) : c = d := by
  have := law24.inj h1 h2
  simp only [Value.agg.injEq, Array.mk.injEq, List.cons.injEq, Value.int.injEq, true_and, and_true] at this
  obtain ⟨a, b, e, f⟩ := this
  exact Prod.ext (BitVec.eq_of_toNat_eq (by omega)) (Prod.ext (BitVec.eq_of_toNat_eq (by omega)) (Prod.ext (BitVec.eq_of_toNat_eq (by omega)) (BitVec.eq_of_toNat_eq (by omega))))

/-- The set's keys are classes that have been met. -/
def Met (D : DataW Unit) (l : List Cl) : Prop := ∀ c kl, keyOf Try.prog 24 (.agg #[.int .u64 (c.1.toNat : Int), .int .u64 (c.2.1.toNat : Int), .int .u64 (c.2.2.1.toNat : Int), .int .u64 (c.2.2.2.toNat : Int)]) = some kl → Maps.has D kl = true → c ∈ l
theorem Met.none : Met (.map []) [] := fun c kl _ h => by simp [Maps.has_eq] at h
theorem Met.put {D : DataW Unit} {l : List Cl} (h : Met D l) {c : Cl} {kl : Lit} (hk : keyOf Try.prog 24 (.agg #[.int .u64 (c.1.toNat : Int), .int .u64 (c.2.1.toNat : Int), .int .u64 (c.2.2.1.toNat : Int), .int .u64 (c.2.2.2.toNat : Int)]) = some kl) : Met (D.put kl (.agg [])) (l ++ [c]) := fun d kd hd hh => by
  by_cases e : kd = kl
  · subst e; rw [key_inj hd hk]; simp
  · rw [Maps.has_put_other e] at hh
    exact List.mem_append_left _ (h d kd hd hh)
theorem Met.more {D : DataW Unit} {l : List Cl} (h : Met D l) (c : Cl) : Met D (l ++ [c]) := fun d kd hd hh => List.mem_append_left _ (h d kd hd hh)

theorem own_base {w : World} {base g n cap e size : Nat} {xs : List Value} (h : w.ownsRow base e size (.slice (some ⟨g, 0, none⟩) n cap) n xs) : base ≤ g := by
  obtain ⟨_, ⟨h1, _⟩ | ⟨g', cap', cur, hv, hb, _⟩⟩ := h
  · cases h1
  · simp only [Value.slice.injEq, Option.some.injEq, Addr.mk.injEq] at hv
    obtain ⟨⟨rfl, _⟩, _⟩ := hv
    exact hb
/-- What Parts' loop keeps. -/
structure PR (l : List Cl) (w : World) (M k g' cap' : Nat) (ps : List Cl) (D : DataW Unit) (wr : World) : Prop where
  inv : Inv (l.take k) ps
  own : wr.ownsRow w.heap.size 24 4 (.slice (some ⟨g', 0, none⟩) ps.length cap') ps.length (cs ps)
  map : wr.ownsMap Try.prog 24 unitElem M k D
  met : Met D (l.take k)
  below : Below w.heap.size w wr
  lo : w.heap.size ≤ M
  hi : M < wr.heap.size
  ne : g' ≠ M
theorem cell_grown' {W W' : World} {row : Option Nat} {b o : Nat} {v : Value} (h : W.cell? ⟨b, o, none⟩ = some v) (hg : W.grownBy W' row) (hne : some b ≠ row) : W'.cell? ⟨b, o, none⟩ = some v :=
  (hg.cell_far ⟨b, o, none⟩ (World.block_lt_of_cell? W ⟨b, o, none⟩ h) hne).trans h
theorem row_far {w : World} {base g n cap : Nat} {xs : List Value} {W : World} {M : Nat} (h : w.ownsRow base 24 4 (.slice (some ⟨g, 0, none⟩) n cap) n xs) (hg : w.grownBy W (some M)) (hne : g ≠ M) : W.ownsRow base 24 4 (.slice (some ⟨g, 0, none⟩) n cap) n xs :=
  h.kept hg (Or.inr (fun e => hne (Option.some.inj e)))

set_option maxHeartbeats 4000000 in
set_option maxRecDepth 20000 in
theorem parts_any (l : List Cl) (v : Value) (w : World) (hv : Cs w v l) :
    Calls Try.prog 23 #[v] w fun e w' => ∃ g cap, e = .returned (.slice (some ⟨g, 0, none⟩) (ref l).length cap) ∧ w'.ownsRow w.heap.size 24 4 (.slice (some ⟨g, 0, none⟩) (ref l).length cap) (ref l).length (cs (ref l)) ∧ Below w.heap.size w w' := by
  obtain ⟨ao, cap, rfl, hmax, hc⟩ := hv
  have HC : Hid (∀ k (hk : k < l.length), ∃ b o, ao = some ⟨b, o, none⟩ ∧ b < w.heap.size ∧ ∀ j, j < 4 → w.cell? ⟨b, o + k * 4 + j, none⟩ = some (.int .u64 ((wd l[k] j).toNat : Int))) := fun k hk => by
    rcases hc with h | ⟨b, o, h1, h2, h3⟩
    · subst h; cases hk
    · exact ⟨b, o, h1, h2, fun j hj => h3 k hk j hj⟩
  clear hc
  have hmm := @run_makeMap Try.prog
  go_enter Try.func23, Try.ntmps23
  go_wp2_with fail
  refine (not_any empty _).mono ?_
  rintro e w1 ⟨rfl, hb1⟩
  have hs1 := hb1.size
  go_wp2_with fail
  go_loopw [3, 15] (fun v3 i wr => ∃ (k g' cap' : Nat) (ps : List Cl) (D : DataW Unit), k ≤ l.length ∧ i = .int .i64 (k : Int) ∧ v3 = .slice (some ⟨g', 0, none⟩) ps.length cap' ∧ Hid (PR l w (w1.heap.size + 1) k g' cap' ps D wr)) (fun _ i _ => l.length - (intOf i).toNat)
  case atStart =>
    refine ⟨0, w1.heap.size, 1, [neg empty], .map [], by omega, rfl, rfl, ⟨Inv.start, ?_, ?_, Met.none, ?_, by omega, by simp, by omega⟩⟩
    · refine World.ownsRow.alloc ?_ _
      refine ⟨by rw [cs_length], Or.inr ⟨w1.heap.size, 1, #[.int .u64 ((neg empty).1.toNat : Int), .int .u64 ((neg empty).2.1.toNat : Int), .int .u64 ((neg empty).2.2.1.toNat : Int), .int .u64 ((neg empty).2.2.2.toNat : Int)], rfl, hs1, heap_alloc_new w1 _, Nat.le_refl _, by unfold maxLen; omega, rfl, rfl⟩⟩
    · have h := World.ownsMap_made (w1.alloc (bk (neg empty))) Try.prog 24 (unitElem (H := Unit))
      have e : (w1.alloc (bk (neg empty))).heap.size = w1.heap.size + 1 := by simp
      rw [e] at h
      exact h
    · exact (hb1.alloc (by omega) _).alloc (by simp; omega) _
  case round =>
    obtain ⟨k, g', cap', ps, D, hk, rfl, rfl, HR⟩ := hrel
    by_cases hlt : k < l.length
    · obtain ⟨b, o, hao, hbw, hcw⟩ := HC.out k hlt
      obtain ⟨c, HP⟩ : ∃ c, Hid (l[k] = c) := ⟨_, (rfl : l[k] = l[k])⟩
      rw [HP.out] at hcw
      have htk : Hid (l.take (k + 1) = l.take k ++ [c]) := by
        show l.take (k + 1) = _
        rw [List.take_succ_eq_append_getElem hlt, HP.out]
      have q0 : wr.cell? ⟨b, o + k * 4, none⟩ = some (.int .u64 (c.1.toNat : Int)) := (HR.out.below.cell hbw).trans (hcw 0 (by omega))
      have q1 : wr.cell? ⟨b, o + k * 4 + 1, none⟩ = some (.int .u64 (c.2.1.toNat : Int)) := (HR.out.below.cell hbw).trans (hcw 1 (by omega))
      have q2 : wr.cell? ⟨b, o + k * 4 + 2, none⟩ = some (.int .u64 (c.2.2.1.toNat : Int)) := (HR.out.below.cell hbw).trans (hcw 2 (by omega))
      have q3 : wr.cell? ⟨b, o + k * 4 + 3, none⟩ = some (.int .u64 (c.2.2.2.toNat : Int)) := (HR.out.below.cell hbw).trans (hcw 3 (by omega))
      clear hcw
      subst hao
      have hpl := HR.out.inv.length
      have hwr := HR.out.below.size
      by_cases h256 : ps.length = 256
      · have hb256 : ((ps.length : Int) == 256) = true := by simp [h256]
        have H256 : Hid (ps.length = 256) := h256
        clear h256
        go_upto_region 12 with fail
        have hs1 := HR.out.own
        have hsort := sort_any w.heap.size g' ps.length cap' ps (wr.alloc (bk c)) HR.out.inv.length (HR.out.own.alloc (bk c))
        go_wp2_with (go_at_call 34; refine hsort.mono ?_; rintro e w2 ⟨rfl, l', hperm, hpw, hown2, hgr2⟩)
        go_ret
        have hEq : l' = ref l := by have h1 := (HR.out.inv.done H256.out (l.drop k)).sorted hperm hpw; rwa [List.take_append_drop] at h1
        subst hEq
        have hll : ps.length = (ref l).length := by have := hown2.1; rw [cs_length] at this; omega
        exact ⟨g', cap', by rw [← hll]; rfl, by rw [← hll]; exact hown2, (HR.out.below.alloc HR.out.below.size _).grown hgr2 (by simp; omega) (fun j hj => by cases hj; exact own_base HR.out.own)⟩
      · have hb256 : ((ps.length : Int) == 256) = false := by simp; omega
        obtain ⟨kl, hkey⟩ := key24 c
        have HK : Hid (keyOf Try.prog 24 (.agg #[.int .u64 (c.1.toNat : Int), .int .u64 (c.2.1.toNat : Int), .int .u64 (c.2.2.1.toNat : Int), .int .u64 (c.2.2.2.toNat : Int)]) = some kl) := hkey
        clear hkey
        cases hh : Maps.has D kl with
        | true =>
          go_wp2_with (first
            | (at_lookup; refine wpList_lookup_own_unit _ rfl _ _ 49 rfl 24 50 law24 Try.underlying49 (zero50 _) (w1.heap.size + 1) k D rfl (HR.out.map.alloc _) _ _ rfl HK.out ?_)
            | go_in)
          go_roundw
          case rel =>
            refine ⟨k + 1, g', cap', ps, D, by omega, by go_num, rfl, ⟨?_, (HR.out.own.alloc _).alloc _, ((HR.out.map.alloc _).alloc _).mono (Nat.le_succ _), ?_, (HR.out.below.alloc HR.out.below.size _).alloc (by simp; omega) _, HR.out.lo, by have := HR.out.hi; simp; omega, HR.out.ne⟩⟩
            · rw [htk.out]; exact HR.out.inv.again (HR.out.met c kl HK.out hh)
            · rw [htk.out]; exact HR.out.met.more c
          case measure => simp [intOf]; omega
        | false =>
          go_wp2_with (first
            | (at_lookup; refine wpList_lookup_own_unit _ rfl _ _ 49 rfl 24 50 law24 Try.underlying49 (zero50 _) (w1.heap.size + 1) k D rfl (HR.out.map.alloc _) _ _ rfl HK.out ?_)
            | (at_mapUpdate; refine wpList_mapUpdate_own _ rfl _ _ _ 49 rfl 24 50 law24 Try.underlying49 (unitElem (H := Unit)) (w1.heap.size + 1) k D rfl ((HR.out.map.alloc _).alloc _) (by unfold maxLen; omega) _ _ _ rfl rfl HK.out _ [] unitElem_mk ?_; intro w3 hmap3 hgr3; have s0 := cell_grown' (row := some (w1.heap.size + 1)) (b := wr.heap.size) (o := 0) (v := .int .u64 (c.1.toNat : Int)) (by simp) hgr3 (by simpa using (Nat.ne_of_gt HR.out.hi)); have s1 := cell_grown' (row := some (w1.heap.size + 1)) (b := wr.heap.size) (o := 1) (v := .int .u64 (c.2.1.toNat : Int)) (by simp) hgr3 (by simpa using (Nat.ne_of_gt HR.out.hi)); have s2 := cell_grown' (row := some (w1.heap.size + 1)) (b := wr.heap.size) (o := 2) (v := .int .u64 (c.2.2.1.toNat : Int)) (by simp) hgr3 (by simpa using (Nat.ne_of_gt HR.out.hi)); have s3 := cell_grown' (row := some (w1.heap.size + 1)) (b := wr.heap.size) (o := 3) (v := .int .u64 (c.2.2.2.toNat : Int)) (by simp) hgr3 (by simpa using (Nat.ne_of_gt HR.out.hi)))
            | (go_at_call 33; refine (cut_any w.heap.size ps c g' cap' w3 (by have := HR.out.inv.cover 0 (by omega); obtain ⟨p, hp, _⟩ := this; exact List.length_pos_of_mem hp) hpl (by have := hgr3.size; simp at this; omega) (row_far ((HR.out.own.alloc _).alloc _) hgr3 HR.out.ne)).mono ?_; rintro e w4 ⟨g'', cap'', rfl, hown4, hgr4, hfar4⟩)
            | go_in)
          have hz3 := hgr3.size
          have hz4 := hgr4.size
          simp at hz3
          go_roundw
          case rel =>
            refine ⟨k + 1, g'', cap'', Cls.cut ps c, D.put kl (.agg []), by omega, by go_num, rfl, ⟨?_, hown4, hmap3.kept hgr4 (fun e => HR.out.ne (Option.some.inj e).symm), ?_, ?_, HR.out.lo, by have := HR.out.hi; omega, ?_⟩⟩
            · rw [htk.out]; exact HR.out.inv.cut c
            · rw [htk.out]; exact HR.out.met.put HK.out
            · exact ((((HR.out.below.alloc HR.out.below.size _).alloc (by simp; omega) _).grown hgr3 (by simp; omega) (fun j hj => by cases hj; exact HR.out.lo)).grown hgr4 (by omega) (fun j hj => by cases hj; exact own_base HR.out.own))
            · rcases hfar4 with h | h
              · rw [h]; exact HR.out.ne
              · have := HR.out.hi; omega
          case measure => simp [intOf]; omega
    · have e : k = l.length := by omega
      subst e
      have hs1 := HR.out.own
      have hsort := sort_any w.heap.size g' ps.length cap' ps wr HR.out.inv.length HR.out.own
      go_wp2_with (go_at_call 34; refine hsort.mono ?_; rintro e w2 ⟨rfl, l', hperm, hpw, hown2, hgr2⟩)
      go_ret
      have hEq : l' = ref l := HR.out.inv.sorted hperm hpw |>.trans (by rw [List.take_length])
      subst hEq
      have hll : ps.length = (ref l).length := by have := hown2.1; rw [cs_length] at this; omega
      exact ⟨g', cap', by rw [← hll]; rfl, by rw [← hll]; exact hown2, HR.out.below.grown hgr2 HR.out.below.size (fun j hj => by cases hj; exact own_base HR.out.own)⟩

end Go.Proofs.Ytgoejdakmbpcmaa
