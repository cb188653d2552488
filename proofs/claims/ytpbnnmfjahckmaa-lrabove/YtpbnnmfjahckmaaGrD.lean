/-
  The contracts of slices.Equal at items (where both sides hold the same), slices.Index and Contains. The contract of items.moved. The contract of slices.Equal at items. A bag of items in memory: a map's keys, and a row. No function is walked here.
-/
import Derived.Test.YtpbnnmfjahckmaaGrB
import Derived.Deep.QuietTactic
import Derived.Lib.SmallJoins
import Derived.Deep.Cut
import Derived.Test.YtpbnnmfjahckmaaGrA
import Derived.Test.YtpbnnmfjahckmaaIxAheadW
import Derived.BigQuiet
import Derived.Deep.AppendLies
import Derived.Maps.OwnSet
import Derived.Maps.Own
import Derived.DeepKeys4
namespace Go.Proofs.Ytpbnnmfjahckmaa
open Go.RowKit
open Cg

theorem Its.at {w W : World} {ao : Option Addr} {l : List It} (h : l.map up = [] ∨ ∃ b o, ao = some ⟨b, o, none⟩ ∧ b < w.heap.size ∧ ∀ i (hi : i < (l.map up).length), w.cell? ⟨b, o + i * 3, none⟩ = some (.int .i64 (l.map up)[i].1) ∧ w.cell? ⟨b, o + i * 3 + 1, none⟩ = some (.int .i64 (l.map up)[i].2.1) ∧ w.cell? ⟨b, o + i * 3 + 2, none⟩ = some (.int .i64 (l.map up)[i].2.2)) (hb : Below w.heap.size w W) {k : Nat} (hk : k < l.length) :
    ∃ b o, ao = some ⟨b, o, none⟩ ∧ W.cell? ⟨b, o + k * 3, none⟩ = some (.int .i64 (l[k].1 : Int)) ∧ W.cell? ⟨b, o + k * 3 + 1, none⟩ = some (.int .i64 (l[k].2.1 : Int)) ∧ W.cell? ⟨b, o + k * 3 + 2, none⟩ = some (.int .i64 (l[k].2.2 : Int)) := by
  rcases h with h | ⟨b, o, h1, h2, h3⟩
  · rw [List.map_eq_nil_iff.1 h] at hk; simp at hk
  · obtain ⟨a0, a1, a2⟩ := h3 k (by simpa using hk)
    rw [List.getElem_map] at a0 a1 a2
    exact ⟨b, o, h1, (hb.cell (p := ⟨b, o + k * 3, none⟩) h2).trans a0, (hb.cell (p := ⟨b, o + k * 3 + 1, none⟩) h2).trans a1, (hb.cell (p := ⟨b, o + k * 3 + 2, none⟩) h2).trans a2⟩
end Go.Proofs.Ytpbnnmfjahckmaa

namespace Go.Proofs.Ytpbnnmfjahckmaa
open Go.RowKit
open Cg

/-- The boxes of a grammar and of a symbol. -/
structure Gsb (w0 : World) (t n : Int) (pv : Value) (ps : List Pd) (s0 s1 : Int) (W : World) : Prop where
  gb : Gb w0 w0.heap.size t n pv ps W
  lt : w0.heap.size + 1 < W.heap.size
  d0 : W.cell? ⟨w0.heap.size + 1, 0, none⟩ = some (.int .i64 s0)
  d1 : W.cell? ⟨w0.heap.size + 1, 1, none⟩ = some (.int .i64 s1)
theorem Gsb.next {w0 : World} {t n : Int} {pv : Value} {ps : List Pd} {s0 s1 : Int} {W W' : World} (h : Gsb w0 t n pv ps s0 s1 W) (hb : Below W.heap.size W W') : Gsb w0 t n pv ps s0 s1 W' :=
  ⟨h.gb.next hb, Nat.lt_of_lt_of_le h.lt hb.size, (hb.cell (p := ⟨w0.heap.size + 1, 0, none⟩) h.lt).trans h.d0, (hb.cell (p := ⟨w0.heap.size + 1, 1, none⟩) h.lt).trans h.d1⟩
theorem Gsb.box {w : World} {pv : Value} {ps : List Pd} (h : Pds w pv ps) (t n s0 s1 : Int) : Gsb w t n pv ps s0 s1 ((w.alloc (Obj.cells #[.int .i64 t, .int .i64 n, pv] 24)).alloc (Obj.cells #[.int .i64 s0, .int .i64 s1] 80)) := by
  have h1 := Gb.box h t n
  have e : (w.alloc (Obj.cells #[.int .i64 t, .int .i64 n, pv] 24)).heap.size = w.heap.size + 1 := by simp
  refine ⟨h1.next (below_alloc _ _), by simp, ?_, ?_⟩
  · rw [← e]; exact cell_new _ _ 80 0
  · rw [← e]; exact cell_new _ _ 80 1
theorem Gsb.grown {w0 : World} {t n : Int} {pv : Value} {ps : List Pd} {s0 s1 : Int} {W W' : World} (h : Gsb w0 t n pv ps s0 s1 W) (hp : Pds w0 pv ps) {row : Option Nat} (hg : W.grownBy W' row) (hr : ∀ q, row = some q → w0.heap.size + 2 ≤ q) : Gsb w0 t n pv ps s0 s1 W' := by
  have hbw : Below w0.heap.size w0 W' := Below.grown h.gb.below hg h.gb.below.size (fun q hq => by have := hr q hq; omega)
  have hgc : ∀ k j, k = w0.heap.size ∨ k = w0.heap.size + 1 → W'.cell? ⟨k, j, none⟩ = W.cell? ⟨k, j, none⟩ := fun k j hk => World.cell?_of_block (hg.block k (by have := h.lt; rcases hk with rfl | rfl <;> omega) (fun e => by have := hr _ e.symm; rcases hk with rfl | rfl <;> omega))
  exact ⟨⟨hbw, Nat.lt_of_lt_of_le h.gb.lt hg.size, Nat.le_refl _, (hgc _ 0 (Or.inl rfl)).trans h.gb.c0, (hgc _ 1 (Or.inl rfl)).trans h.gb.c1, (hgc _ 2 (Or.inl rfl)).trans h.gb.c2, hp.below hbw⟩, Nat.lt_of_lt_of_le h.lt hg.size, (hgc _ 0 (Or.inr rfl)).trans h.d0, (hgc _ 1 (Or.inr rfl)).trans h.d1⟩
theorem mv_lower {W : World} {B B' e k m : Nat} {v : Value} {xs : List Value} (h : W.ownsRow B e k v m xs) (hb : B' ≤ B) : W.ownsRow B' e k v m xs := by
  obtain ⟨h1, h2 | ⟨q, cap, cur, hv, hg, h3⟩⟩ := h
  · exact ⟨h1, Or.inl h2⟩
  · exact ⟨h1, Or.inr ⟨q, cap, cur, hv, Nat.le_trans hb hg, h3⟩⟩
set_option maxHeartbeats 6400000 in
set_option maxRecDepth 20000 in
theorem moved_any (T n : Nat) (pv : Value) (ps : List Pd) (lv : Value) (l : List It) (s : Sy) (w : World) (hp : Pds w pv ps) (hk : chk (T : Int) (n : Int) ps = 0) (hl : Its w lv l) (ok : ∀ x ∈ l, OkIt T ps x) (hlen : l.length ≤ 100000) :
    Calls Try.prog 86 #[.agg #[.int .i64 (T : Int), .int .i64 (n : Int), pv], lv, .agg #[.int .i64 s.1, .int .i64 s.2]] w fun e w' => ∃ v, e = .returned v ∧ w'.ownsRow w.heap.size 145 3 v (mvd ps s l).length (ics (mvd ps s l)) ∧ Below w.heap.size w w' := by
  obtain ⟨i40, a1, a2, a3, a4⟩ := info_parts info145
  have H40 : Hid (Try.prog.info? 145 = some i40 ∧ i40.zero = some (.agg #[.int .i64 0, .int .i64 0, .int .i64 0]) ∧ i40.size = 3 ∧ i40.bytes = 24) := ⟨a1, a2, a3, a4⟩
  obtain ⟨s0, s1⟩ := s
  have HG0 : Hid _ := Gsb.box hp (T : Int) (n : Int) s0 s1
  have HP : Hid (Pds w pv ps) := hp
  have HLS : Hid (Its w lv l) := hl
  have HOK : Hid (∀ x ∈ l, OkIt T ps x) := ok
  have HLEN : Hid (l.length ≤ 100000) := hlen
  have HBL : Hid (∀ x, OkIt T ps x → x.1 ≤ 40 ∧ x.2.1 ≤ 8 ∧ x.2.2 ≤ 30) := fun x hx => by
    have h1 := bod_le hk x.1
    have h2 := okTN_le (chk_zero hk).1
    have h3 := (chk_zero hk).2.1
    have := hx.p; have := hx.d; have := hx.k
    omega
  obtain ⟨po, pc, rfl⟩ := hp.len
  obtain ⟨lo, lc, rfl, hlm, hlc⟩ := hl
  rw [List.length_map] at hlm ⊢
  have hlm := hlm.1
  have HLC : Hid _ := hlc
  clear a1 a2 a3 a4 hp hk ok hlen hlc
  go_enter Try.func86, Try.ntmps86
  go_upto_region 1 with fail
  obtain ⟨w1, HW1⟩ : ∃ z, Hid ((w.alloc (Obj.cells #[.int .i64 (T : Int), .int .i64 (n : Int), .slice po ps.length pc] 24)).alloc (Obj.cells #[.int .i64 s0, .int .i64 s1] 80) = z) := ⟨_, (rfl : (w.alloc (Obj.cells #[.int .i64 (T : Int), .int .i64 (n : Int), .slice po ps.length pc] 24)).alloc (Obj.cells #[.int .i64 s0, .int .i64 s1] 80) = _)⟩
  rw [HW1.out] at HG0 ⊢
  clear HW1
  go_wp2_with fail
  go_loopw [7, 13] (fun tv y wr => ∃ (i : Nat) (to_ : Option Addr) (tn tc : Nat), i ≤ l.length ∧ tv = .slice to_ tn tc ∧ y = .int .i64 (i : Int) ∧ Hid (Gsb w (T : Int) (n : Int) (.slice po ps.length pc) ps s0 s1 wr ∧ wr.ownsRow (w.heap.size + 2) 145 3 (.slice to_ tn tc) (mvd ps (s0, s1) (l.take i)).length (ics (mvd ps (s0, s1) (l.take i))))) (fun _ y _ => l.length - (intOf y).toNat)
  case atStart => exact ⟨0, none, 0, 0, by omega, rfl, rfl, HG0.out, World.ownsRow_nil _ _ _ _⟩
  case round =>
    obtain ⟨i, to_, tn, tc, hi, rfl, rfl, HI⟩ := hrel
    clear HG0
    by_cases hlt : i < l.length
    · obtain ⟨b1, o1, rfl, x0, x1, x2⟩ := Its.at HLC.out HI.out.1.gb.below hlt
      have hk1 : (i : Int) < (l.length : Int) := by omega
      have hk0 : (0 : Int) ≤ (i : Int) := by omega
      have HOX := HOK.out l[i] (List.getElem_mem hlt)
      have HNX : Hid (mvd ps (s0, s1) (l.take (i + 1)) = mvd ps (s0, s1) (l.take i) ++ (if (rst ps l[i]).head? = some (s0, s1) then [(l[i].1, l[i].2.1 + 1, l[i].2.2)] else [])) := mvd_next hlt
      generalize l[i] = x at x0 x1 x2 HOX HNX
      obtain ⟨M, HM⟩ : ∃ M, Hid (mvd ps (s0, s1) (l.take i) = M) := ⟨_, (rfl : mvd ps (s0, s1) (l.take i) = _)⟩
      have HML : Hid (M.length ≤ 100000) := by
        have h1 := mvd_le ps (s0, s1) (l.take i)
        rw [HM.out, List.length_take] at h1
        have := HLEN.out
        show _ ≤ _; omega
      rw [HM.out] at HI HNX
      have hab := below_alloc wr (Obj.cells #[.int .i64 (x.1 : Int), .int .i64 (x.2.1 : Int), .int .i64 (x.2.2 : Int)] 145)
      have HI1 : Hid (Gsb w (T : Int) (n : Int) (.slice po ps.length pc) ps s0 s1 (wr.alloc (Obj.cells #[.int .i64 (x.1 : Int), .int .i64 (x.2.1 : Int), .int .i64 (x.2.2 : Int)] 145)) ∧ (wr.alloc (Obj.cells #[.int .i64 (x.1 : Int), .int .i64 (x.2.1 : Int), .int .i64 (x.2.2 : Int)] 145)).ownsRow (w.heap.size + 2) 145 3 (.slice to_ tn tc) M.length (ics M)) := ⟨HI.out.1.next hab, own_below HI.out.2 hab⟩
      have HQ : Hid (∀ j, (wr.alloc (Obj.cells #[.int .i64 (x.1 : Int), .int .i64 (x.2.1 : Int), .int .i64 (x.2.2 : Int)] 145)).cell? ⟨wr.heap.size, j, none⟩ = (#[.int .i64 (x.1 : Int), .int .i64 (x.2.1 : Int), .int .i64 (x.2.2 : Int)] : Array Value)[j]?) := fun j => cell_new wr _ 145 j
      have HQL : Hid (wr.heap.size < (wr.alloc (Obj.cells #[.int .i64 (x.1 : Int), .int .i64 (x.2.1 : Int), .int .i64 (x.2.2 : Int)] 145)).heap.size ∧ w.heap.size + 2 ≤ wr.heap.size) := ⟨by simp, HI.out.1.lt⟩
      clear hab HI
      go_upto_region 5 with fail
      obtain ⟨q, HQQ⟩ : ∃ z, Hid (wr.heap.size = z) := ⟨_, (rfl : wr.heap.size = _)⟩
      obtain ⟨w2, HW2⟩ : ∃ z, Hid (wr.alloc (Obj.cells #[.int .i64 (x.1 : Int), .int .i64 (x.2.1 : Int), .int .i64 (x.2.2 : Int)] 145) = z) := ⟨_, (rfl : wr.alloc _ = _)⟩
      rw [HW2.out] at HI1 HQ HQL ⊢
      rw [HQQ.out] at HQ HQL ⊢
      clear HW2 HQQ x0 x1 x2
      have k0 := HI1.out.1.gb.c0
      have k1 := HI1.out.1.gb.c1
      have k2 := HI1.out.1.gb.c2
      have y0 := HQ.out 0
      have y1 := HQ.out 1
      have y2 := HQ.out 2
      simp only [List.getElem?_toArray, List.getElem?_cons_zero, List.getElem?_cons_succ] at y0 y1 y2
      have hcall := ahead_any (T : Int) (n : Int) _ ps T x HOX w2 HI1.out.1.gb.pds
      go_wp2_with fail
      refine hcall.mono ?_
      rintro _ w3 ⟨rv, rfl, hsy, hb3⟩
      have HI2 : Hid (Gsb w (T : Int) (n : Int) (.slice po ps.length pc) ps s0 s1 w3 ∧ w3.ownsRow (w.heap.size + 2) 145 3 (.slice to_ tn tc) M.length (ics M)) := ⟨HI1.out.1.next hb3, own_below HI1.out.2 hb3⟩
      have z0 : w3.cell? ⟨q, 0, none⟩ = some (.int .i64 (x.1 : Int)) := (hb3.cell (p := ⟨q, 0, none⟩) HQL.out.1).trans y0
      have z1 : w3.cell? ⟨q, 1, none⟩ = some (.int .i64 (x.2.1 : Int)) := (hb3.cell (p := ⟨q, 1, none⟩) HQL.out.1).trans y1
      have z2 : w3.cell? ⟨q, 2, none⟩ = some (.int .i64 (x.2.2 : Int)) := (hb3.cell (p := ⟨q, 2, none⟩) HQL.out.1).trans y2
      have HZ : Hid (w3.cell? ⟨q, 0, none⟩ = some (.int .i64 (x.1 : Int)) ∧ w3.cell? ⟨q, 1, none⟩ = some (.int .i64 (x.2.1 : Int)) ∧ w3.cell? ⟨q, 2, none⟩ = some (.int .i64 (x.2.2 : Int)) ∧ q < w3.heap.size ∧ w.heap.size + 2 ≤ w3.heap.size) := ⟨z0, z1, z2, Nat.lt_of_lt_of_le HQL.out.1 hb3.size, Nat.le_trans HQL.out.2 (Nat.le_trans (Nat.le_of_lt HQL.out.1) hb3.size)⟩
      clear hcall k0 k1 k2 y0 y1 y2 z0 z1 z2 HQ HQL HI1 hb3
      have d0 := HI2.out.1.d0
      have d1 := HI2.out.1.d1
      obtain ⟨ro, rc, rfl, hrm, hrc⟩ := hsy
      have SKIP : (rst ps x).head? ≠ some (s0, s1) → mvd ps (s0, s1) (l.take (i + 1)) = M := fun e => by rw [HNX.out, if_neg e, List.append_nil]
      have TAKE : (rst ps x).head? = some (s0, s1) → mvd ps (s0, s1) (l.take (i + 1)) = M ++ [(x.1, x.2.1 + 1, x.2.2)] := fun e => by rw [HNX.out, if_pos e]
      cases hr : rst ps x with
      | nil =>
        have HEQ : Hid (mvd ps (s0, s1) (l.take (i + 1)) = M) := SKIP (by rw [hr]; simp)
        have hd : decide ((0 : Int) > 0) = false := by decide
        clear SKIP TAKE HNX hrc
        simp only [List.length_nil]
        rw [hr] at hrm
        go_wp2_with fail
        go_quiet (fail)
        have HI3 : Hid (Gsb w (T : Int) (n : Int) (.slice po ps.length pc) ps s0 s1 (w3.drewN nq) ∧ (w3.drewN nq).ownsRow (w.heap.size + 2) 145 3 (.slice to_ tn tc) (mvd ps (s0, s1) (l.take (i + 1))).length (ics (mvd ps (s0, s1) (l.take (i + 1))))) := by
          rw [HEQ.out]
          exact ⟨HI2.out.1.next (Go.Joins.below_draws _ _ _), own_below HI2.out.2 (Go.Joins.below_draws _ _ _)⟩
        generalize w3.drewN nq = w4 at HI3 ⊢
        clear d0 d1 HI2 HZ
        go_wp2_with fail
        go_roundw
        case rel => exact ⟨i + 1, to_, tn, tc, by omega, rfl, by go_num, HI3⟩
        case measure => simp [intOf]; omega
      | cons a tl =>
        obtain ⟨a0, a1⟩ := a
        rw [hr] at hrc hrm SKIP TAKE
        obtain ⟨b2, o2, rfl, hb2, hcc⟩ := hrc.resolve_left (by simp)
        obtain ⟨c0, c1⟩ := hcc 0 (by simp)
        simp only [Nat.zero_mul, Nat.add_zero, List.getElem_cons_zero] at c0 c1
        obtain ⟨N, HN⟩ : ∃ N, Hid (((a0, a1) :: tl).length = N) := ⟨_, (rfl : ((a0, a1) :: tl).length = _)⟩
        have hN0 : (0 : Int) < (N : Int) := by have := HN.out; simp at this; omega
        rw [HN.out] at hrm ⊢
        have hd : decide (0 < N) = true := by simp; omega
        clear hcc hr HNX
        by_cases h0 : a0 = s0
        · by_cases h1 : a1 = s1
          · subst h0 h1
            have HEQ : Hid (mvd ps (a0, a1) (l.take (i + 1)) = M ++ [(x.1, x.2.1 + 1, x.2.2)]) := TAKE rfl
            clear SKIP TAKE
            go_wp2_with fail
            go_quiet (fail)
            have hbd : Below w3.heap.size w3 (w3.drewN nq) := Go.Joins.below_draws _ _ _
            have HI3 : Hid (Gsb w (T : Int) (n : Int) (.slice po ps.length pc) ps a0 a1 (w3.drewN nq) ∧ (w3.drewN nq).ownsRow (w.heap.size + 2) 145 3 (.slice to_ tn tc) M.length (ics M)) := ⟨HI2.out.1.next (Go.Joins.below_draws _ _ _), own_below HI2.out.2 (Go.Joins.below_draws _ _ _)⟩
            have z0 : (w3.drewN nq).cell? ⟨q, 0, none⟩ = some (.int .i64 (x.1 : Int)) := (hbd.cell (p := ⟨q, 0, none⟩) HZ.out.2.2.2.1).trans HZ.out.1
            have z1 : (w3.drewN nq).cell? ⟨q, 1, none⟩ = some (.int .i64 (x.2.1 : Int)) := (hbd.cell (p := ⟨q, 1, none⟩) HZ.out.2.2.2.1).trans HZ.out.2.1
            have z2 : (w3.drewN nq).cell? ⟨q, 2, none⟩ = some (.int .i64 (x.2.2 : Int)) := (hbd.cell (p := ⟨q, 2, none⟩) HZ.out.2.2.2.1).trans HZ.out.2.2.1
            have HSZ : Hid (w.heap.size + 2 ≤ (w3.drewN nq).heap.size) := Nat.le_trans HZ.out.2.2.2.2 hbd.size
            generalize w3.drewN nq = w4 at HI3 z0 z1 z2 HSZ ⊢
            clear d0 d1 c0 c1 HI2 HZ hbd
            have hxb := HBL.out x HOX
            have hx1 : -9223372036854775808 ≤ (x.2.1 : Int) + 1 := by omega
            have hx2 : (x.2.1 : Int) + 1 ≤ 9223372036854775807 := by omega
            have hwr : IntKind.i64.wrap ((x.2.1 : Int) + 1) = (x.2.1 : Int) + 1 := by simp [IntKind.wrap, IntKind.bits, IntKind.signed]; omega
            have HO3 : Hid ((w4.alloc (Obj.cells #[.int .i64 (x.1 : Int), .int .i64 ((x.2.1 : Int) + 1), .int .i64 (x.2.2 : Int)] 145)).ownsRow (w.heap.size + 2) 145 3 (.slice to_ tn tc) M.length (ics M)) := HI3.out.2.alloc _
            have hsz := HSZ.out
            have hml := HML.out
            clear hxb
            go_wp2_with (at_builtin; refine wpList_append_own _ rfl _ _ 103 rfl (w.heap.size + 2) 145 i40 (.agg #[.int .i64 0, .int .i64 0, .int .i64 0]) 3 24 Try.underlying103 H40.out.1 H40.out.2.1 H40.out.2.2.1 H40.out.2.2.2 rfl (by decide) _ _ _ rfl HO3.out ⟨w4.heap.size, 0, none⟩ 1 1 [.int .i64 (x.1 : Int), .int .i64 ((x.2.1 : Int) + 1), .int .i64 (x.2.2 : Int)] rfl rfl (World.news_of_block (t := 145) (fr := (0, 0)) (heap_alloc_new w4 _)) (by simp [Value.oneCell']) (by unfold maxLen; omega) (by omega) (by simp; omega) ?_)
            intro v' w7 hown' hgrow _
            have HI7 : Hid (Gsb w (T : Int) (n : Int) (.slice po ps.length pc) ps a0 a1 w7 ∧ w7.ownsRow (w.heap.size + 2) 145 3 v' (mvd ps (a0, a1) (l.take (i + 1))).length (ics (mvd ps (a0, a1) (l.take (i + 1))))) := by
              refine ⟨(HI3.out.1.next (below_alloc w4 _)).grown HP.out hgrow (fun q hq => (HO3.out.lt q hq).1), ?_⟩
              rw [HEQ.out, List.length_append, ics_app]
              have : ics [(x.1, x.2.1 + 1, x.2.2)] = [.int .i64 (x.1 : Int), .int .i64 ((x.2.1 : Int) + 1), .int .i64 (x.2.2 : Int)] := by simp [ics]
              rw [this]; exact hown'
            obtain ⟨va, vn, vc, rfl⟩ := own_form hown'
            clear hown' hgrow HI3 HO3 HSZ hsz z0 z1 z2 hx1 hx2 hwr
            go_wp2_with fail
            go_roundw
            case rel => exact ⟨i + 1, va, vn, vc, by omega, rfl, by go_num, HI7⟩
            case measure => simp [intOf]; omega
          · have HEQ : Hid (mvd ps (s0, s1) (l.take (i + 1)) = M) := SKIP (by simp; intro _ e; exact h1 e)
            have hd1 : (a1 == s1) = false := by simpa using h1
            subst h0
            clear SKIP TAKE h1
            go_wp2_with fail
            go_quiet (fail)
            have HI3 : Hid (Gsb w (T : Int) (n : Int) (.slice po ps.length pc) ps a0 s1 (w3.drewN nq) ∧ (w3.drewN nq).ownsRow (w.heap.size + 2) 145 3 (.slice to_ tn tc) (mvd ps (a0, s1) (l.take (i + 1))).length (ics (mvd ps (a0, s1) (l.take (i + 1))))) := by
              rw [HEQ.out]
              exact ⟨HI2.out.1.next (Go.Joins.below_draws _ _ _), own_below HI2.out.2 (Go.Joins.below_draws _ _ _)⟩
            generalize w3.drewN nq = w4 at HI3 ⊢
            clear d0 d1 c0 c1 HI2 HZ
            go_wp2_with fail
            go_roundw
            case rel => exact ⟨i + 1, to_, tn, tc, by omega, rfl, by go_num, HI3⟩
            case measure => simp [intOf]; omega
        · have HEQ : Hid (mvd ps (s0, s1) (l.take (i + 1)) = M) := SKIP (by simp; intro e; exact absurd e h0)
          have hd1 : (a0 == s0) = false := by simpa using h0
          clear SKIP TAKE h0
          go_wp2_with fail
          go_quiet (fail)
          have HI3 : Hid (Gsb w (T : Int) (n : Int) (.slice po ps.length pc) ps s0 s1 (w3.drewN nq) ∧ (w3.drewN nq).ownsRow (w.heap.size + 2) 145 3 (.slice to_ tn tc) (mvd ps (s0, s1) (l.take (i + 1))).length (ics (mvd ps (s0, s1) (l.take (i + 1))))) := by
            rw [HEQ.out]
            exact ⟨HI2.out.1.next (Go.Joins.below_draws _ _ _), own_below HI2.out.2 (Go.Joins.below_draws _ _ _)⟩
          generalize w3.drewN nq = w4 at HI3 ⊢
          clear d0 d1 c0 c1 HI2 HZ
          go_wp2_with fail
          go_roundw
          case rel => exact ⟨i + 1, to_, tn, tc, by omega, rfl, by go_num, HI3⟩
          case measure => simp [intOf]; omega
    · obtain rfl : i = l.length := by omega
      have HF : Hid (_) := HI.out
      rw [List.take_length] at HF
      have hk1 : ¬ ((l.length : Int) < (l.length : Int)) := by omega
      clear HI
      go_wp2_with fail
      go_ret
      exact ⟨_, by simp, mv_lower HF.out.2 (by omega), HF.out.1.gb.below⟩
end Go.Proofs.Ytpbnnmfjahckmaa

namespace Go.Proofs.Ytpbnnmfjahckmaa
open Go.RowKit
open Cg

theorem up_inj {x y : It} (h0 : (x.1 : Int) = (y.1 : Int)) (h1 : (x.2.1 : Int) = (y.2.1 : Int)) (h2 : (x.2.2 : Int) = (y.2.2 : Int)) : x = y := Prod.ext (by omega) (Prod.ext (by omega) (by omega))
set_option maxHeartbeats 6400000 in
set_option maxRecDepth 20000 in
theorem equalIt_any (a b : Value) (l m : List It) (w : World) (ha : Its w a l) (hb : Its w b m) :
    Calls Try.prog 84 #[a, b] w fun e w' => e = .returned (.bool (decide (l = m))) ∧ Below w.heap.size w w' := by
  obtain ⟨aa, ac, e1, ham, hac⟩ := ha
  obtain ⟨ba, bc, e2, hbm, hbc⟩ := hb
  rw [List.length_map] at e1 e2 ham hbm
  subst e1 e2
  obtain ⟨r, HR⟩ : ∃ r, Hid (decide (l = m) = r) := ⟨_, (rfl : decide (l = m) = _)⟩
  rw [HR.out]
  have ham := ham.1
  by_cases hl : l.length = m.length
  · obtain ⟨n, HN⟩ : ∃ n, Hid (l.length = n) := ⟨_, (rfl : l.length = _)⟩
    have HM : Hid (m.length = n) := by show _ = _; rw [← hl]; exact HN.out
    rw [HN.out, HM.out]
    rw [HN.out] at ham
    clear hl hbm
    have hb1 : ((n : Int) != (n : Int)) = false := by simp
    have HAC : Hid (_) := hac
    have HBC : Hid (_) := hbc
    clear hac hbc
    go_enter Try.func84, Try.ntmps84
    go_wp2_with fail
    go_loopw [13] (fun y wr => ∃ i : Nat, i ≤ n ∧ y = .int .i64 (i : Int) ∧ Hid (Below w.heap.size w wr ∧ l.take i = m.take i)) (fun y _ => n - (intOf y).toNat)
    case atStart => exact ⟨0, by omega, rfl, Below.refl _ _, by simp⟩
    case round =>
      obtain ⟨i, hi, rfl, HI⟩ := hrel
      by_cases hlt : i < n
      · have hil : i < l.length := by rw [HN.out]; exact hlt
        have him : i < m.length := by rw [HM.out]; exact hlt
        obtain ⟨b1, o1, rfl, x0, x1, x2⟩ := Its.at HAC.out HI.out.1 hil
        obtain ⟨b2, o2, rfl, y0, y1, y2⟩ := Its.at HBC.out HI.out.1 him
        have hk1 : (i : Int) < (n : Int) := by omega
        have hk0 : (0 : Int) ≤ (i : Int) := by omega
        have HS1 : Hid ((l[i].1 : Int) = (m[i].1 : Int) → (l[i].2.1 : Int) = (m[i].2.1 : Int) → (l[i].2.2 : Int) = (m[i].2.2 : Int) → l.take (i + 1) = m.take (i + 1)) := fun f0 f1 f2 => by
          rw [List.take_succ_eq_append_getElem hil, List.take_succ_eq_append_getElem him, HI.out.2, up_inj f0 f1 f2]
        have HS2 : Hid (¬ ((l[i].1 : Int) = (m[i].1 : Int) ∧ (l[i].2.1 : Int) = (m[i].2.1 : Int) ∧ (l[i].2.2 : Int) = (m[i].2.2 : Int)) → r = false) := fun e => by
          rw [← HR.out]; simp; intro e2; subst e2; exact e ⟨rfl, rfl, rfl⟩
        generalize (l[i].1 : Int) = f0 at x0 HS1 HS2
        generalize (l[i].2.1 : Int) = f1 at x1 HS1 HS2
        generalize (l[i].2.2 : Int) = f2 at x2 HS1 HS2
        generalize (m[i].1 : Int) = g0 at y0 HS1 HS2
        generalize (m[i].2.1 : Int) = g1 at y1 HS1 HS2
        generalize (m[i].2.2 : Int) = g2 at y2 HS1 HS2
        by_cases e0 : f0 = g0
        · by_cases e1 : f1 = g1
          · by_cases e2 : f2 = g2
            · subst e0 e1 e2
              have HS3 : Hid (l.take (i + 1) = m.take (i + 1)) := HS1.out rfl rfl rfl
              clear HS1 HS2
              go_wp2_with fail
              go_quiet (fail)
              have HB2 : Hid (Below w.heap.size w (wr.drewN nq)) := HI.out.1.trans (Go.Joins.below_draws _ _ _)
              generalize wr.drewN nq = w2 at HB2 ⊢
              clear x0 x1 x2 y0 y1 y2
              go_wp2_with fail
              go_roundw
              case rel => exact ⟨i + 1, by omega, by go_num, HB2.out, HS3.out⟩
              case measure => simp [intOf]; omega
            · obtain rfl := HS2.out (fun e => e2 e.2.2)
              have d2 : (f2 == g2) = false := by simpa using e2
              subst e0 e1
              clear HS1 HS2 e2
              go_wp2_with fail
              go_quiet (fail)
              have HB2 : Hid (Below w.heap.size w (wr.drewN nq)) := HI.out.1.trans (Go.Joins.below_draws _ _ _)
              generalize wr.drewN nq = w2 at HB2 ⊢
              clear x0 x1 x2 y0 y1 y2
              go_wp2_with fail
              go_ret
              exact ⟨by simp, HB2.out⟩
          · obtain rfl := HS2.out (fun e => e1 e.2.1)
            have d1 : (f1 == g1) = false := by simpa using e1
            subst e0
            clear HS1 HS2 e1
            go_wp2_with fail
            go_quiet (fail)
            have HB2 : Hid (Below w.heap.size w (wr.drewN nq)) := HI.out.1.trans (Go.Joins.below_draws _ _ _)
            generalize wr.drewN nq = w2 at HB2 ⊢
            clear x0 x1 x2 y0 y1 y2
            go_wp2_with fail
            go_ret
            exact ⟨by simp, HB2.out⟩
        · obtain rfl := HS2.out (fun e => e0 e.1)
          have d0 : (f0 == g0) = false := by simpa using e0
          clear HS1 HS2 e0
          go_wp2_with fail
          go_quiet (fail)
          have HB2 : Hid (Below w.heap.size w (wr.drewN nq)) := HI.out.1.trans (Go.Joins.below_draws _ _ _)
          generalize wr.drewN nq = w2 at HB2 ⊢
          clear x0 x1 x2 y0 y1 y2
          go_wp2_with fail
          go_ret
          exact ⟨by simp, HB2.out⟩
      · have hk1 : ¬ (i : Int) < (n : Int) := by omega
        obtain rfl : r = true := by
          have := HI.out.2
          rw [List.take_of_length_le (by rw [HN.out]; omega), List.take_of_length_le (by rw [HM.out]; omega)] at this
          rw [← HR.out]; simp [this]
        have HB := HI.out.1
        clear HI
        go_wp2_with fail
        go_ret
        exact ⟨by simp, HB⟩
  · obtain rfl : r = false := by rw [← HR.out]; simp; intro e; subst e; exact hl rfl
    obtain ⟨x, HN⟩ : ∃ n, Hid (l.length = n) := ⟨_, (rfl : l.length = _)⟩
    obtain ⟨y, HM⟩ : ∃ n, Hid (m.length = n) := ⟨_, (rfl : m.length = _)⟩
    rw [HN.out, HM.out] at hl
    rw [HN.out, HM.out]
    have hb1 : ((x : Int) != (y : Int)) = true := by simp; omega
    clear hl
    go_enter Try.func84, Try.ntmps84
    go_wp2_with fail
    go_ret
    exact ⟨by simp, Below.refl _ _⟩
end Go.Proofs.Ytpbnnmfjahckmaa

namespace Go.Proofs.Ytpbnnmfjahckmaa
open Go.RowKit
open Go.Maps
open Cg

theorem laidOut' : laidOutB Try.prog = true := by kernel_rfl
theorem law40 : Maps.Keyed Try.prog 145 := Maps.Keyed.of_law (deep_law_laid laidOut' (m := 2) (by omega) (of_decide_eq_true (by kernel_rfl)) (by kernel_rfl) (by rw [Try.underlying145]))
theorem zero160 (w : World) : (zeroValue 171).run Try.prog w = .ok (.agg #[]) w := by kernel_rfl
theorem nat_wf (n : Nat) (h : n ≤ 9223372036854775807) : (Lit.int .i64 (n : Int)).wf = true := by
  simp [Lit.wf, IntKind.min, IntKind.max, IntKind.signed, IntKind.bits]; omega
/-- An item whose numbers are small. -/
def Sml (x : It) : Prop := x.1 ≤ 1000 ∧ x.2.1 ≤ 1000 ∧ x.2.2 ≤ 1000
theorem key40 (x : It) (h : Sml x) : ∃ kl, keyOf Try.prog 145 (.agg #[.int .i64 (x.1 : Int), .int .i64 (x.2.1 : Int), .int .i64 (x.2.2 : Int)]) = some kl := by
  obtain ⟨h1, h2, h3⟩ := h
  have hk : Try.prog.keyType 145 = true := by kernel_rfl
  obtain ⟨m, hm⟩ : ∃ m, Try.prog.types.size = m + 1 := ⟨Try.prog.types.size - 1, by have : 0 < Try.prog.types.size := of_decide_eq_true (by kernel_rfl); omega⟩
  unfold keyOf
  rw [Try.underlying145]
  simp only [hk, Bool.true_and]
  rw [if_pos (by simp [Value.formed, Try.underlying145, kcells145])]
  rw [hm]
  have e0 : Try.prog.keyLits (m + 1 + 1) 145 (Value.agg #[.int .i64 (x.1 : Int), .int .i64 (x.2.1 : Int), .int .i64 (x.2.2 : Int)]).cells.toList = some [.int .i64 (x.1 : Int), .int .i64 (x.2.1 : Int), .int .i64 (x.2.2 : Int)] := by
    simp [Program.keyLits, Try.underlying145, Try.underlying3, kcells145, kcells3, nat_wf x.1 (by omega), nat_wf x.2.1 (by omega), nat_wf x.2.2 (by omega), Value.cells]
  rw [e0]
  exact ⟨_, rfl⟩
theorem key40_inj {x y : It} {kl : Lit} (h1 : keyOf Try.prog 145 (.agg #[.int .i64 (x.1 : Int), .int .i64 (x.2.1 : Int), .int .i64 (x.2.2 : Int)]) = some kl) (h2 : keyOf Try.prog 145 (.agg #[.int .i64 (y.1 : Int), .int .i64 (y.2.1 : Int), .int .i64 (y.2.2 : Int)]) = some kl) : x = y := by
  have := law40.inj h1 h2
  simp only [Value.agg.injEq, Array.mk.injEq, List.cons.injEq, Value.int.injEq, true_and, and_true] at this
  exact Prod.ext (by omega) (Prod.ext (by omega) (by omega))
/-- The map's keys are the items of b. -/
def Seen (D : DataW Unit) (b : List It) : Prop := IsMap D ∧ ∀ (x : It) kl, keyOf Try.prog 145 (.agg #[.int .i64 (x.1 : Int), .int .i64 (x.2.1 : Int), .int .i64 (x.2.2 : Int)]) = some kl → (Maps.has D kl = true ↔ x ∈ b)
theorem Seen.none : Seen (.map []) [] := ⟨⟨[], rfl⟩, fun u kl _ => by simp [Maps.has_eq]⟩
theorem Seen.put {D : DataW Unit} {b : List It} (h : Seen D b) {x : It} {kl : Lit} (hk : keyOf Try.prog 145 (.agg #[.int .i64 (x.1 : Int), .int .i64 (x.2.1 : Int), .int .i64 (x.2.2 : Int)]) = some kl) : Seen (D.put kl (.agg [])) (b ++ [x]) := by
  refine ⟨?_, fun y kv hv => ?_⟩
  · obtain ⟨es, rfl⟩ := h.1
    exact ⟨_, rfl⟩
  · by_cases e : kv = kl
    · subst e
      rw [key40_inj hv hk]
      simp [Maps.has_put_same h.1 (law40.key hk)]
    · rw [Maps.has_put_other e, h.2 y kv hv]
      have hne : y ≠ x := fun z => by
        subst z
        rw [hk] at hv
        exact e (Option.some.inj hv).symm
      simp [hne]
def bv (mb : Nat) (v : Value) (i : Nat) : Value := if i = 0 then .map (some mb) else v
/-- A bag. -/
structure Ba (B g mb : Nat) (v : Value) (b c : List It) (D : DataW Unit) (W : World) : Prop where
  bx : W.rowIs g 163 2 (bv mb v)
  own : W.ownsRow B 145 3 v b.length (ics b)
  mp : W.ownsMap Try.prog 145 unitElem mb c.length D
  sn : Seen D c
  ge : B ≤ g ∧ B ≤ mb ∧ B ≤ W.heap.size
  ne : g ≠ mb ∧ ∀ k, v.ownBlock = some k → k ≠ g ∧ k ≠ mb
variable {B g mb : Nat} {v : Value} {b c : List It} {D : DataW Unit} {W W' : World}
theorem map_keep {n : Nat} (h : W.ownsMap Try.prog 145 unitElem mb n D) (e : W'.heap[mb]? = W.heap[mb]?) : W'.ownsMap Try.prog 145 unitElem mb n D := by
  obtain ⟨es, clock, hb, F, hs, hd⟩ := h
  exact ⟨es, clock, e.trans hb, F, hs, hd⟩
theorem row_keep {e n k : Nat} {xs : List Value} (h : W.ownsRow B e k v n xs) (hb : ∀ q, v.ownBlock = some q → W'.heap[q]? = W.heap[q]?) : W'.ownsRow B e k v n xs := by
  obtain ⟨h1, h2 | ⟨q, cap, cur, hv, hg, hh, h3⟩⟩ := h
  · exact ⟨h1, Or.inl h2⟩
  · exact ⟨h1, Or.inr ⟨q, cap, cur, hv, hg, (hb q (by rw [hv]; rfl)).trans hh, h3⟩⟩
theorem Ba.lt (h : Ba B g mb v b c D W) : g < W.heap.size ∧ mb < W.heap.size ∧ ∀ k, v.ownBlock = some k → k < W.heap.size := by
  refine ⟨h.bx.lt, ?_, fun k hk => (h.own.lt k hk).2⟩
  obtain ⟨es, clock, hb, -⟩ := h.mp
  exact (Array.getElem?_eq_some_iff.1 hb).1
theorem Ba.keep (h : Ba B g mb v b c D W) (e : ∀ k, k = g ∨ k = mb ∨ v.ownBlock = some k → W'.heap[k]? = W.heap[k]?) (hs : W.heap.size ≤ W'.heap.size) : Ba B g mb v b c D W' :=
  ⟨h.bx.of_block (e g (Or.inl rfl)), row_keep h.own (fun q hq => e q (Or.inr (Or.inr hq))), map_keep h.mp (e mb (Or.inr (Or.inl rfl))), h.sn, ⟨h.ge.1, h.ge.2.1, Nat.le_trans h.ge.2.2 hs⟩, h.ne⟩
theorem Ba.next (h : Ba B g mb v b c D W) (hb : Below W.heap.size W W') : Ba B g mb v b c D W' := by
  obtain ⟨l1, l2, l3⟩ := h.lt
  refine h.keep (fun k hk => hb.block k ?_) hb.size
  rcases hk with rfl | rfl | hk
  · exact l1
  · exact l2
  · exact l3 k hk
/-- The map is ahead by one. -/
theorem Ba.put (h : Ba B g mb v b b D W) {x : It} {kl : Lit} (hk : keyOf Try.prog 145 (.agg #[.int .i64 (x.1 : Int), .int .i64 (x.2.1 : Int), .int .i64 (x.2.2 : Int)]) = some kl) (hm : W'.ownsMap Try.prog 145 unitElem mb (b.length + 1) (D.put kl (.agg []))) (hg : W.grownBy W' (some mb)) : Ba B g mb v b (b ++ [x]) (D.put kl (.agg [])) W' := by
  obtain ⟨l1, l2, l3⟩ := h.lt
  have e : ∀ k, k < W.heap.size → k ≠ mb → W'.heap[k]? = W.heap[k]? := fun k hk hn => hg.block k hk (fun e => hn (Option.some.inj e))
  exact ⟨h.bx.of_block (e g l1 h.ne.1), row_keep h.own (fun q hq => e q (l3 q hq) (h.ne.2 q hq).2), by simpa using hm, h.sn.put hk, ⟨h.ge.1, h.ge.2.1, Nat.le_trans h.ge.2.2 hg.size⟩, h.ne⟩
/-- The row has grown, and its slice is written. -/
theorem Ba.grow {x : It} {gr cr : Nat} (h : Ba B g mb v b (b ++ [x]) D W) (hg : W.grownBy W' v.ownBlock) (ho : W'.ownsRow B 145 3 (.slice (some ⟨gr, 0, none⟩) (b.length + 1) cr) (b.length + 1) (ics b ++ [.int .i64 (x.1 : Int), .int .i64 (x.2.1 : Int), .int .i64 (x.2.2 : Int)])) (hr : v.ownBlock = some gr ∨ W.heap.size ≤ gr) :
    W'.rowIs g 163 2 (bv mb v) ∧ Ba B g mb (.slice (some ⟨gr, 0, none⟩) (b.length + 1) cr) (b ++ [x]) (b ++ [x]) D (W'.setCell ⟨g, 1, none⟩ (.slice (some ⟨gr, 0, none⟩) (b.length + 1) cr)) := by
  obtain ⟨l1, l2, l3⟩ := h.lt
  have e : ∀ k, k < W.heap.size → (∀ q, v.ownBlock = some q → q ≠ k) → W'.heap[k]? = W.heap[k]? := fun k hk hn => hg.block k hk (fun x => hn k x.symm rfl)
  have ngr : ∀ k, k = g ∨ k = mb → k ≠ gr := fun k hk => by
    rcases hr with r | r
    · have := h.ne.2 gr r
      rcases hk with rfl | rfl
      · exact Ne.symm this.1
      · exact Ne.symm this.2
    · rcases hk with rfl | rfl <;> omega
  have e2 : ∀ k, k ≠ g → (W'.setCell ⟨g, 1, none⟩ (.slice (some ⟨gr, 0, none⟩) (b.length + 1) cr)).heap[k]? = W'.heap[k]? := fun k hk => Below.heap_setCell _ _ _ _ hk
  have hb1 := h.bx.of_block (e g l1 (fun q hq => (h.ne.2 q hq).1))
  have hlen : (b ++ [x]).length = b.length + 1 := by simp
  refine ⟨hb1, ⟨?_, ?_, ?_, h.sn, ⟨h.ge.1, h.ge.2.1, ?_⟩, ⟨h.ne.1, fun k hk => ?_⟩⟩⟩
  · exact (hb1.set 1 _).congr fun i hi => by
      unfold bv
      by_cases e : i = 1
      · subst e; simp
      · have : i = 0 := by omega
        subst this; simp
  · rw [hlen, ics_app]
    refine row_keep ho (fun q hq => e2 q ?_)
    have : q = gr := by simpa [Value.ownBlock, eq_comm] using hq
    subst this
    exact Ne.symm (ngr g (Or.inl rfl))
  · exact map_keep h.mp ((e2 mb (Ne.symm h.ne.1)).trans (e mb l2 (fun q hq => (h.ne.2 q hq).2)))
  · have := hg.size
    have := h.ge.2.2
    simp [World.setCell]; omega
  · have : k = gr := by simpa [Value.ownBlock, eq_comm] using hk
    subst this
    exact ⟨Ne.symm (ngr g (Or.inl rfl)), Ne.symm (ngr mb (Or.inr rfl))⟩
/-- The blocks of a bag. -/
def Xb (g mb : Nat) (v : Value) (k : Nat) : Prop := k = g ∨ k = mb ∨ v.ownBlock = some k
/-- What add leaves. -/
def AddP (B g mb : Nat) (v : Value) (b : List It) (w w' : World) : Prop := ∃ v' D', Ba B g mb v' b b D' w' ∧ Fm (Xb g mb v) w w' ∧ (∃ ao cap, v' = .slice ao b.length cap) ∧ ∀ k, v'.ownBlock = some k → v.ownBlock = some k ∨ w.heap.size ≤ k
theorem Ba.look (h : Ba B g mb v b c D W) {x : It} {kl : Lit} (hk : keyOf Try.prog 145 (.agg #[.int .i64 (x.1 : Int), .int .i64 (x.2.1 : Int), .int .i64 (x.2.2 : Int)]) = some kl) : (Instr.lookup 161 (.map (some mb)) (.agg #[.int .i64 (x.1 : Int), .int .i64 (x.2.1 : Int), .int .i64 (x.2.2 : Int)]) true).run Try.prog W = .ok (.tuple #[.agg #[], .bool (Maps.has D kl)]) W := by
  obtain ⟨u, ps, hrun, hu⟩ := h.mp.look_ok law40 Try.underlying161 (zero160 W) (unitElem_mk (H := Unit)) hk
  rw [(unitElem_inv hu).1] at hrun
  exact hrun
theorem Ba.stored (h : Ba B g mb v b b D W) {x : It} {kl : Lit} (hk : keyOf Try.prog 145 (.agg #[.int .i64 (x.1 : Int), .int .i64 (x.2.1 : Int), .int .i64 (x.2.2 : Int)]) = some kl) (hl : b.length ≤ 1000000) : ∃ W', (Instr.mapUpdate 161 (.map (some mb)) (.agg #[.int .i64 (x.1 : Int), .int .i64 (x.2.1 : Int), .int .i64 (x.2.2 : Int)]) (.agg #[])).run Try.prog W = .ok () W' ∧ Ba B g mb v b (b ++ [x]) (D.put kl (.agg [])) W' ∧ W.grownBy W' (some mb) := by
  obtain ⟨W1, hrun, hm, hg⟩ := h.mp.update law40 Try.underlying161 (by unfold maxLen; omega) hk (unitElem_mk (H := Unit))
  exact ⟨W1, hrun, h.put hk hm hg, hg⟩
theorem step_mapUpdate {P : Program} {ops : Array Oper} {o : Oper} {a : Act} {K : Act → World → Prop} {Q : Exit → Act → World → Prop} {E : Prop} {W W1 : World} {mx xv yv : Value} (hgd : o.guard = none) (m x y : Operand) (t : TypeId) (ho : o.op = .mapUpdate t m x y)
    (hm : a.eval m = mx) (hx : a.eval x = xv) (hy : a.eval y = yv) (hr : (Instr.mapUpdate t mx xv yv).run P W = .ok () W1) (h : K (a.put o.dst undef) W1) : if Region.wanted o (yielded ops a.tmps) = true then Oper.wp P o a W K Q else E := by
  have hw : Region.wanted o (yielded ops a.tmps) = true := by simp [Region.wanted, hgd]
  rw [if_pos hw]
  unfold Oper.wp
  simp [execOp, ho, hm, hx, hy, hr, Result.andThen]
  exact h
theorem step_lookup {P : Program} {ops : Array Oper} {o : Oper} {a : Act} {K : Act → World → Prop} {Q : Exit → Act → World → Prop} {E : Prop} {W : World} {mx xv u : Value} (hgd : o.guard = none) (m x : Operand) (t : TypeId) (ho : o.op = .lookup t m x true)
    (hm : a.eval m = mx) (hx : a.eval x = xv) (hr : (Instr.lookup t mx xv true).run P W = .ok u W) (h : K (a.put o.dst u) W) : if Region.wanted o (yielded ops a.tmps) = true then Oper.wp P o a W K Q else E := by
  have hw : Region.wanted o (yielded ops a.tmps) = true := by simp [Region.wanted, hgd]
  rw [if_pos hw]
  unfold Oper.wp
  simp [execOp, ho, hm, hx, hr, Result.andThen]
  exact h
end Go.Proofs.Ytpbnnmfjahckmaa
