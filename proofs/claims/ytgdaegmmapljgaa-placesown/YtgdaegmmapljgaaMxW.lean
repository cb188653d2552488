/-
  Spots as keys of a map, held against each other, and taken off the end of a row; a least measure. No function is walked here. The contract of plan.leads: is there a way by all of the text from the first step to the end? The contract of rex.Matches. The contracts of pushkeep's star and two: a tree of trees. The contract of pushkeep.is: does it match, and is there an error? The contract of pushkeep.letter.
-/
import Derived.Test.YtgdaegmmapljgaaSearch
import Derived.Maps.OwnSet
import Derived.Maps.Own
import Derived.DeepKeys4
import Derived.Laws.AppendOwnNone
namespace Go.Proofs.Ytgdaegmmapljgaa
open Go.RowKit
open Go.Maps
open Cls Rex

theorem laidOut' : laidOutB Try.prog = true := by kernel_rfl
theorem law62 : Maps.Keyed Try.prog 108 := Maps.Keyed.of_law (deep_law_laid laidOut' (m := 2) (by omega) (of_decide_eq_true (by kernel_rfl)) (by kernel_rfl) (by rw [Try.underlying108]))
theorem zero64 (w : World) : (zeroValue 110).run Try.prog w = .ok (.agg #[]) w := by kernel_rfl
theorem cells108 : Try.prog.cellsOf 108 = 2 := by kernel_rfl
theorem nat_wf (n : Nat) (h : n ≤ 9223372036854775807) : (Lit.int .i64 (n : Int)).wf = true := by
  simp [Lit.wf, IntKind.min, IntKind.max, IntKind.signed, IntKind.bits]; omega
theorem key62 (u : Nat × Nat) (h1 : u.1 ≤ 9223372036854775807) (h2 : u.2 ≤ 9223372036854775807) : ∃ kl, keyOf Try.prog 108 (.agg #[.int .i64 (u.1 : Int), .int .i64 (u.2 : Int)]) = some kl := by
  have hk : Try.prog.keyType 108 = true := by kernel_rfl
  obtain ⟨m, hm⟩ : ∃ m, Try.prog.types.size = m + 1 := ⟨Try.prog.types.size - 1, by have : 0 < Try.prog.types.size := of_decide_eq_true (by kernel_rfl); omega⟩
  unfold keyOf
  rw [Try.underlying108]
  simp only [hk, Bool.true_and]
  rw [if_pos (by simp [Value.formed, Try.underlying108, cells108])]
  rw [hm]
  have e0 : Try.prog.keyLits (m + 1 + 1) 108 (Value.agg #[.int .i64 (u.1 : Int), .int .i64 (u.2 : Int)]).cells.toList = some [.int .i64 (u.1 : Int), .int .i64 (u.2 : Int)] := by
    simp [Program.keyLits, Try.underlying108, Try.underlying3, cells108, rxcells3, nat_wf _ h1, nat_wf _ h2, Value.cells]
  rw [e0]
  exact ⟨_, rfl⟩
theorem key62_inj {u v : Nat × Nat} {kl : Lit} (h1 : keyOf Try.prog 108 (.agg #[.int .i64 (u.1 : Int), .int .i64 (u.2 : Int)]) = some kl) (h2 : keyOf Try.prog 108 (.agg #[.int .i64 (v.1 : Int), .int .i64 (v.2 : Int)]) = some kl) : u = v := by
  have := law62.inj h1 h2
  simp only [Value.agg.injEq, Array.mk.injEq, List.cons.injEq, Value.int.injEq, true_and, and_true] at this
  exact Prod.ext (by omega) (by omega)
/-- The map's keys are the spots of S. -/
def Seen (D : DataW Unit) (S : List (Nat × Nat)) : Prop := IsMap D ∧ ∀ u kl, keyOf Try.prog 108 (.agg #[.int .i64 (u.1 : Int), .int .i64 (u.2 : Int)]) = some kl → (Maps.has D kl = true ↔ u ∈ S)
theorem Seen.none : Seen (.map []) [] := ⟨⟨[], rfl⟩, fun u kl _ => by simp [Maps.has_eq]⟩
theorem Seen.put {D : DataW Unit} {S : List (Nat × Nat)} (h : Seen D S) {u : Nat × Nat} {kl : Lit} (hk : keyOf Try.prog 108 (.agg #[.int .i64 (u.1 : Int), .int .i64 (u.2 : Int)]) = some kl) : Seen (D.put kl (.agg [])) (u :: S) := by
  refine ⟨?_, fun v kv hv => ?_⟩
  · obtain ⟨es, rfl⟩ := h.1
    exact ⟨_, rfl⟩
  · by_cases e : kv = kl
    · subst e
      rw [key62_inj hv hk]
      simp [Maps.has_put_same h.1 (law62.key hk)]
    · rw [Maps.has_put_other e, h.2 v kv hv]
      have hne : v ≠ u := fun x => by
        subst x
        rw [hk] at hv
        exact e (Option.some.inj hv).symm
      simp [hne]
/-- A row's beginning. -/
theorem own_front {w : World} {B g k m cap : Nat} {xs ys : List Value} (h : w.ownsRow B 108 2 (.slice (some ⟨g, 0, none⟩) m cap) m (xs ++ ys)) (hx : xs.length = k * 2) (hk : k ≤ m) : w.ownsRow B 108 2 (.slice (some ⟨g, 0, none⟩) k cap) k xs := by
  refine ⟨hx, ?_⟩
  rcases h.2 with ⟨h', _⟩ | ⟨g', cap', cur, h', hb, hg, hnc, hcm, hcs, htake⟩
  · simp at h'
  · simp only [Value.slice.injEq, Option.some.injEq, Addr.mk.injEq, and_true, true_and] at h'
    obtain ⟨rfl, rfl⟩ := h'
    refine Or.inr ⟨g, cap, cur, rfl, hb, hg, by omega, hcm, hcs, ?_⟩
    have := congrArg (List.take (k * 2)) htake
    rw [List.take_take, Nat.min_eq_left (by omega), ← hx, List.take_left] at this
    rw [← hx]; exact this
theorem exists_least {P : Nat → Prop} (h : ∃ n, P n) : ∃ n, P n ∧ ∀ m, P m → n ≤ m := by
  obtain ⟨n, hn⟩ := h
  induction n using Nat.strongRecOn with
  | _ n ih =>
    by_cases h : ∃ m, m < n ∧ P m
    · obtain ⟨m, h1, h2⟩ := h
      exact ih m h1 h2
    · exact ⟨n, hn, fun m hm => Nat.le_of_not_lt fun hl => h ⟨m, hl, hm⟩⟩
open Classical in
/-- The least number of which it holds, for a loop whose measure is not read off the world. -/
noncomputable def leastOf (P : Nat → Prop) : Nat := if h : ∃ n, P n then Classical.choose (exists_least h) else 0
theorem leastOf_holds {P : Nat → Prop} (h : ∃ n, P n) : P (leastOf P) := by
  unfold leastOf; rw [dif_pos h]; exact (Classical.choose_spec (exists_least h)).1
theorem leastOf_le {P : Nat → Prop} {n : Nat} (h : P n) : leastOf P ≤ n := by
  have h' : ∃ n, P n := ⟨n, h⟩
  unfold leastOf; rw [dif_pos h']; exact (Classical.choose_spec (exists_least h')).2 n h
theorem guard62 : Try.prog.eqGuardType Try.prog.depth 108 = false := by kernel_rfl
end Go.Proofs.Ytgdaegmmapljgaa

namespace Go.Proofs.Ytgdaegmmapljgaa
open Go.RowKit
open Go.Maps
open Cls Rex

/-- What leads' loop keeps. -/
structure LD (F : List St) (f0 en : Nat) (s : ByteArray) (w : World) (g cap : Nat) (S W : List (Nat × Nat)) (D : DataW Unit) (wr : World) : Prop where
  own : wr.ownsRow w.heap.size 108 2 (.slice (some ⟨g, 0, none⟩) W.length cap) W.length (sp W)
  map : wr.ownsMap Try.prog 108 unitElem w.heap.size S.length D
  seen : Seen D S
  srch : Srch F en s (f0, 0) S W
  below : Below w.heap.size w wr
  hi : w.heap.size < wr.heap.size
  ne : g ≠ w.heap.size
/-- .. with what is left to do. -/
def LDm (F : List St) (f0 en : Nat) (s : ByteArray) (w : World) (v : Value) (wr : World) (m : Nat) : Prop := ∃ g cap S W D, v = .slice (some ⟨g, 0, none⟩) W.length cap ∧ m = 3 * (F.length * (s.size + 1) - S.length) + W.length ∧ LD F f0 en s w g cap S W D wr
theorem cell_grown' {W W' : World} {row : Option Nat} {b o : Nat} {v : Value} (h : W.cell? ⟨b, o, none⟩ = some v) (hg : W.grownBy W' row) (hne : some b ≠ row) : W'.cell? ⟨b, o, none⟩ = some v :=
  (hg.cell_far ⟨b, o, none⟩ (World.block_lt_of_cell? W ⟨b, o, none⟩ h) hne).trans h
theorem row_below {W W' : World} {B g n cap : Nat} {xs : List Value} (h : W.ownsRow B 108 2 (.slice (some ⟨g, 0, none⟩) n cap) n xs) (hb : Below W.heap.size W W') : W'.ownsRow B 108 2 (.slice (some ⟨g, 0, none⟩) n cap) n xs := by
  refine ⟨h.1, h.2.imp id ?_⟩
  rintro ⟨g', cap', cur, h1, h2, h3, h4⟩
  exact ⟨g', cap', cur, h1, h2, blk_next hb h3, h4⟩
theorem map_below {W W' : World} {M n : Nat} {D : DataW Unit} (h : W.ownsMap Try.prog 108 unitElem M n D) (hb : Below W.heap.size W W') : W'.ownsMap Try.prog 108 unitElem M n D :=
  h.kept (row := none) ⟨hb.os, hb.tape, hb.output, hb.size, fun k hk _ => hb.block k hk⟩ (by simp)
theorem sp_one (l : List (Nat × Nat)) : ∀ x ∈ sp l, x.oneCell' = true := fun x hx => by
  simp only [sp, List.mem_flatMap, List.mem_cons, List.not_mem_nil, or_false] at hx
  obtain ⟨q, _, rfl | rfl⟩ := hx <;> rfl
theorem Pl.nums {B pp : Nat} {f e : Value} {ps : List St} {W : World} (h : Pl B pp f e ps W) : W.cell? ⟨pp, 1, none⟩ = some f ∧ W.cell? ⟨pp, 2, none⟩ = some e := by
  obtain ⟨sv, qs, h1, _⟩ := h
  exact ⟨by simp [World.cell?, h1], by simp [World.cell?, h1]⟩
theorem sp_last (W0 : List (Nat × Nat)) (u : Nat × Nat) : (sp (W0 ++ [u]))[W0.length * 2]? = some (.int .i64 (u.1 : Int)) ∧ (sp (W0 ++ [u]))[W0.length * 2 + 1]? = some (.int .i64 (u.2 : Int)) := by
  have h := sp_len W0
  rw [sp_append, List.getElem?_append_right (by omega), List.getElem?_append_right (by omega)]
  have e1 : W0.length * 2 - (sp W0).length = 0 := by omega
  have e2 : W0.length * 2 + 1 - (sp W0).length = 1 := by omega
  rw [e1, e2]
  simp [sp]

set_option maxHeartbeats 4000000 in
set_option maxRecDepth 20000 in
theorem leads_any (B pp f0 en : Nat) (F : List St) (s : ByteArray) (w : World) (hP : Pl B pp (.int .i64 (f0 : Int)) (.int .i64 (en : Int)) F w) (hF : Fine F) (hlen : F.length ≤ 201) (hs : s.size ≤ 200) (hf : f0 < F.length) :
    Calls Try.prog 64 #[.pointer (some ⟨pp, 0, none⟩), .string s] w fun e' w' => ∃ b, e' = .returned (.bool b) ∧ (b = true ↔ Acc F en s.data.toList f0 0) ∧ Below w.heap.size w w' := by
  have HP : Hid (Pl B pp (.int .i64 (f0 : Int)) (.int .i64 (en : Int)) F w ∧ Fine F) := ⟨hP, hF⟩
  obtain ⟨c1, c2⟩ := hP.nums
  have hmm := @run_makeMap Try.prog
  obtain ⟨i0, hi, hz0, hz1, hz2⟩ := info_parts info108
  have hpp := World.block_lt_of_cell? _ _ c1
  simp only at hpp
  clear hP hF
  go_enter Try.func64, Try.ntmps64
  go_wp2_with fail
  go_loopw [6] (fun v6 wr => ∃ m, LDm F f0 en s w v6 wr m) (fun v6 wr => leastOf (LDm F f0 en s w v6 wr))
  case atStart =>
    refine ⟨_, w.heap.size + 1, 1, [], [(f0, 0)], .map [], rfl, rfl, ⟨?_, ?_, Seen.none, Srch.init ⟨hf, Nat.zero_le _⟩, ?_, by simp; omega, by omega⟩⟩
    · refine ⟨rfl, Or.inr ⟨w.heap.size + 1, 1, #[.int .i64 (f0 : Int), .int .i64 0], rfl, by omega, ?_, Nat.le_refl _, by unfold maxLen; omega, rfl, rfl⟩⟩
      have h := block_new (w.alloc (.map #[] 0)) (.cells #[.int .i64 (f0 : Int), .int .i64 0] 108)
      have e : (w.alloc (.map #[] 0)).heap.size = w.heap.size + 1 := by simp
      rw [e] at h; exact h
    · exact (World.ownsMap_made w Try.prog 108 (unitElem (H := Unit))).alloc _
    · exact ((Below.refl _ w).alloc (Nat.le_refl _) _).alloc (by simp) _
  case round =>
    obtain ⟨g, cap, S, W, D, rfl, HM, HR⟩ := leastOf_holds hrel
    have hcases : W = [] ∨ ∃ W0 u, W = W0 ++ [u] := by
      rcases List.eq_nil_or_concat W with h | ⟨W0, u, h⟩
      · exact Or.inl h
      · exact Or.inr ⟨W0, u, by rw [h, List.concat_eq_append]⟩
    rcases hcases with rfl | ⟨W0, u, rfl⟩
    · go_wp2_with fail
      go_ret
      exact ⟨false, rfl, by simpa using HR.srch.gone, HR.below⟩
    · have hlk : (W0 ++ [u]).length = W0.length + 1 := by simp
      rw [hlk] at HM ⊢
      have hown := HR.own
      rw [hlk] at hown
      have HRH : Hid (LD F f0 en s w g cap S (W0 ++ [u]) D wr) := HR
      have HOWN : Hid (wr.ownsRow w.heap.size 108 2 (.slice (some ⟨g, 0, none⟩) (W0.length + 1) cap) (W0.length + 1) (sp (W0 ++ [u]))) := hown
      have q0 := (HOWN.out.cellAt (W0.length * 2) (by omega)).trans (sp_last W0 u).1
      have q1 := (HOWN.out.cellAt (W0.length * 2 + 1) (by omega)).trans (sp_last W0 u).2
      have huk := HR.srch.okW u (by simp)
      obtain ⟨hu1, hu2⟩ := huk
      obtain ⟨kl, hkey⟩ := key62 u (by omega) (by omega)
      have HK : Hid (keyOf Try.prog 108 (.agg #[.int .i64 (u.1 : Int), .int .i64 (u.2 : Int)]) = some kl) := hkey
      have hsm := HR.srch.small
      have hwl := HR.srch.len
      rw [hlk] at hwl
      have hbig : F.length * (s.size + 1) ≤ 201 * 201 := Nat.mul_le_mul hlen (by omega)
      have HMM : Hid (leastOf (LDm F f0 en s w (.slice (some ⟨g, 0, none⟩) (W0.length + 1) cap) wr) = 3 * (F.length * (s.size + 1) - S.length) + (W0.length + 1)) := HM
      have hwr := HR.below.size
      have hcap : W0.length + 1 ≤ cap := by
        rcases hown.2 with ⟨h, _⟩ | ⟨g', c', cur, h, _, _, h2, _⟩
        · cases h
        · simp only [Value.slice.injEq] at h
          omega
      have HF0 : Hid (wr.ownsRow w.heap.size 108 2 (.slice (some ⟨g, 0, none⟩) W0.length cap) W0.length (sp W0)) := by
        have h := hown
        rw [sp_append] at h
        exact own_front h (sp_len W0) (by omega)
      clear hkey HR hown HM hrel hlk
      obtain ⟨k, HKL⟩ : ∃ k, Hid (W0.length = k) := ⟨_, (rfl : W0.length = W0.length)⟩
      rw [HKL.out] at q0 q1 hwl HMM hcap HF0 HOWN ⊢
      cases hh : Maps.has D kl with
      | true =>
        go_wp2_with (first
          | (at_lookup; refine wpList_lookup_own_unit _ rfl _ _ 106 rfl 108 110 law62 Try.underlying106 (zero64 _) w.heap.size S.length D rfl (HRH.out.map.alloc _) _ _ rfl HK.out ?_)
          | go_in)
        have hG : LDm F f0 en s w (.slice (some ⟨g, 0, none⟩) k cap) ((wr.alloc (.cells #[.int .i64 (u.1 : Int), .int .i64 (u.2 : Int)] 108)).alloc (.cells #[] 110)) (3 * (F.length * (s.size + 1) - S.length) + k) := by
          refine ⟨g, cap, S, W0, D, by rw [HKL.out], by rw [HKL.out], ⟨?_, (HRH.out.map.alloc _).alloc _, HRH.out.seen, HRH.out.srch.again ((HRH.out.seen.2 u kl HK.out).1 hh), (HRH.out.below.alloc hwr _).alloc (by simp; omega) _, by have := HRH.out.hi; simp; omega, HRH.out.ne⟩⟩
          rw [HKL.out]; exact (HF0.out.alloc _).alloc _
        exact ⟨⟨_, hG⟩, Nat.lt_of_le_of_lt (leastOf_le hG) (by rw [HMM.out]; omega)⟩
      | false =>
        have hnS : u ∉ S := fun h => by have := (HRH.out.seen.2 u kl HK.out).2 h; rw [hh] at this; cases this
        have c2' := cell_next (cell_next ((HRH.out.below.cell hpp).trans c2) (box_keep wr (.cells #[.int .i64 (u.1 : Int), .int .i64 (u.2 : Int)] 108))) (box_keep _ (.cells #[] 110))
        have hgd := guard62
        go_upto_region 9 with (first
          | (at_lookup; refine wpList_lookup_own_unit _ rfl _ _ 106 rfl 108 110 law62 Try.underlying106 (zero64 _) w.heap.size S.length D rfl (HRH.out.map.alloc _) _ _ rfl HK.out ?_)
          | (at_mapUpdate; refine wpList_mapUpdate_own _ rfl _ _ _ 106 rfl 108 110 law62 Try.underlying106 (unitElem (H := Unit)) w.heap.size S.length D rfl ((HRH.out.map.alloc _).alloc _) (by unfold maxLen; omega) _ _ _ rfl rfl HK.out _ [] unitElem_mk ?_; intro w3 hmap3 hgr3; have s0 := cell_grown' (row := some w.heap.size) (b := wr.heap.size) (o := 0) (v := .int .i64 (u.1 : Int)) (by simp) hgr3 (by simpa using (Nat.ne_of_gt HRH.out.hi)); have s1 := cell_grown' (row := some w.heap.size) (b := wr.heap.size) (o := 1) (v := .int .i64 (u.2 : Int)) (by simp) hgr3 (by simpa using (Nat.ne_of_gt HRH.out.hi)); have s2 := cell_grown' c2' hgr3 (by simpa using (Nat.ne_of_lt hpp)))
          | go_in)
        have HO3 : Hid (w3.ownsRow w.heap.size 108 2 (.slice (some ⟨g, 0, none⟩) k cap) k (sp W0)) := ((HF0.out.alloc _).alloc _).kept hgr3 (Or.inr (fun e => HRH.out.ne (Option.some.inj e)))
        have HZ3 : Hid (wr.heap.size + 2 ≤ w3.heap.size) := by
          have := hgr3.size
          simp at this
          exact this
        have HB3 : Hid (Below w.heap.size w w3) := ((HRH.out.below.alloc hwr _).alloc (by simp; omega) _).grown hgr3 (by simp; omega) (fun j hj => by cases hj; exact Nat.le_refl _)
        by_cases hut : u = (en, s.size)
        · have e1 : ((u.1 : Int) == (en : Int)) = true := by simp [hut]
          have e2 : ((u.2 : Int) == (s.size : Int)) = true := by simp [hut]
          have HUT : Hid (u = (en, s.size)) := hut
          clear hut
          go_quiet (fail)
          go_wp2_with fail
          go_ret
          exact ⟨true, rfl, ⟨fun _ => by have h := HRH.out.srch; rw [HUT.out] at h; exact h.found, fun _ => rfl⟩, HB3.out.trans ⟨rfl, rfl, rfl, Nat.le_refl _, fun _ _ => rfl⟩⟩
        · have HUT : Hid (u ≠ (en, s.size)) := hut
          by_cases h1 : u.1 = en
          · have e1 : ((u.1 : Int) == (en : Int)) = true := by simp [h1]
            have e2 : ((u.2 : Int) == (s.size : Int)) = false := by
              simp only [beq_eq_false_iff_ne]
              intro h
              exact hut (Prod.ext h1 (by show u.2 = s.size; omega))
            clear hut h1
            go_quiet (fail)
            have hd3 : Below w3.heap.size w3 (w3.drewN nq) := ⟨rfl, rfl, rfl, Nat.le_refl _, fun _ _ => rfl⟩
            generalize w3.drewN nq = w3' at hd3 ⊢
            have HB3' : Hid (Below w.heap.size w w3' ∧ w3.heap.size ≤ w3'.heap.size) := ⟨HB3.out.trans (hd3.mono HB3.out.size), hd3.size⟩
            have t0 := cell_next s0 hd3
            have t1 := cell_next s1 hd3
            have HO3' : Hid (w3'.ownsRow w.heap.size 108 2 (.slice (some ⟨g, 0, none⟩) k cap) k (sp W0)) := row_below HO3.out hd3
            have HMP : Hid (w3'.ownsMap Try.prog 108 unitElem w.heap.size (S.length + 1) (D.put kl (.agg []))) := map_below hmap3 hd3
            have HBH : Hid (Calls Try.prog 70 #[.pointer (some ⟨pp, 0, none⟩), .agg #[.int .i64 (u.1 : Int), .int .i64 (u.2 : Int)], .string s] w3' fun e' w' => ∃ v, e' = .returned v ∧ w'.ownsRow w3'.heap.size 108 2 v (bh F s u.1 u.2).length (sp (bh F s u.1 u.2)) ∧ Below w3'.heap.size w3' w' ∧ (bh F s u.1 u.2 = [] → v = .slice none 0 0)) := rxbehind_any B pp _ _ F s u.1 u.2 w3' (HP.out.1.keep HB3'.out.1) hu1 HP.out.2 hu2 hs
            clear hd3 s0 s1 s2 hmap3 hgr3 HO3
            by_cases hbe : bh F s u.1 u.2 = []
            · have HBN : Hid (Calls Try.prog 70 #[.pointer (some ⟨pp, 0, none⟩), .agg #[.int .i64 (u.1 : Int), .int .i64 (u.2 : Int)], .string s] w3' fun e' w' => e' = .returned (.slice none 0 0) ∧ Below w3'.heap.size w3' w') := (HBH.out).mono fun _ _ ⟨v, h1, _, h3, h4⟩ => ⟨by rw [h1, h4 hbe], h3⟩
              have HBE : Hid (bh F s u.1 u.2 = []) := hbe
              clear hbe HBH
              go_wp2_with (first
                | (go_at_call 70; refine HBN.out.mono ?_; rintro e w4 ⟨rfl, hb4⟩; have HO4 : Hid (w4.ownsRow w.heap.size 108 2 (.slice (some ⟨g, 0, none⟩) k cap) k (sp W0)) := row_below HO3'.out hb4)
                | (at_builtin; refine wpList_append_own_none _ rfl _ _ 109 rfl w.heap.size 108 i0 2 Try.underlying109 hi _ _ _ rfl HO4.out rfl ?_)
                | go_in)
              have hG : LDm F f0 en s w (.slice (some ⟨g, 0, none⟩) k cap) w4 (3 * (F.length * (s.size + 1) - (S.length + 1)) + k) := by
                have hsr := HRH.out.srch.on HP.out.2 hnS HUT.out
                rw [HBE.out, List.append_nil] at hsr
                refine ⟨g, cap, u :: S, W0, D.put kl (.agg []), by rw [HKL.out], by rw [HKL.out]; rfl, ⟨?_, map_below HMP.out hb4, HRH.out.seen.put HK.out, hsr, HB3'.out.1.trans (hb4.mono HB3'.out.1.size), by have := hb4.size; have := HRH.out.hi; have := HZ3.out; have := HB3'.out.2; omega, HRH.out.ne⟩⟩
                rw [HKL.out]; exact HO4.out
              have hsn := (Srch.small (HRH.out.srch.on HP.out.2 hnS HUT.out))
              simp only [List.length_cons] at hsn
              exact ⟨⟨_, hG⟩, Nat.lt_of_le_of_lt (leastOf_le hG) (by rw [HMM.out]; omega)⟩
            · have HBS : Hid (Calls Try.prog 70 #[.pointer (some ⟨pp, 0, none⟩), .agg #[.int .i64 (u.1 : Int), .int .i64 (u.2 : Int)], .string s] w3' fun e' w' => ∃ g2 cap2, e' = .returned (.slice (some ⟨g2, 0, none⟩) (bh F s u.1 u.2).length cap2) ∧ w'.ownsRow w3'.heap.size 108 2 (.slice (some ⟨g2, 0, none⟩) (bh F s u.1 u.2).length cap2) (bh F s u.1 u.2).length (sp (bh F s u.1 u.2)) ∧ Below w3'.heap.size w3' w') := (HBH.out).mono fun _ _ ⟨v, h1, h2, h3, _⟩ => by
                have h2' := h2
                rcases h2.2 with ⟨_, h0⟩ | ⟨g2, cap2, cur, rfl, _⟩
                · exact absurd (List.length_eq_zero_iff.1 h0) hbe
                · exact ⟨g2, cap2, h1, h2', h3⟩
              have hm0 : 0 < (bh F s u.1 u.2).length := List.length_pos_iff.2 hbe
              have hm2 : (bh F s u.1 u.2).length ≤ 2 := bh_len HP.out.2
              have HSL : Hid ((sp (bh F s u.1 u.2)).length = (bh F s u.1 u.2).length * 2) := sp_len _
              obtain ⟨m, HML⟩ : ∃ m, Hid ((bh F s u.1 u.2).length = m) := ⟨_, (rfl : (bh F s u.1 u.2).length = (bh F s u.1 u.2).length)⟩
              rw [HML.out] at HBS hm0 hm2 HSL
              have hsn := (Srch.small (HRH.out.srch.on HP.out.2 hnS HUT.out))
              simp only [List.length_cons] at hsn
              have HSN : Hid (S.length + 1 ≤ F.length * (s.size + 1)) := hsn
              clear hbe HBH hsn
              go_wp2_with (first
                | (go_at_call 70; refine HBS.out.mono ?_; rintro e w4 ⟨g2, cap2, rfl, hown2, hb4⟩; have HO4 : Hid (w4.ownsRow w.heap.size 108 2 (.slice (some ⟨g, 0, none⟩) k cap) k (sp W0)) := row_below HO3'.out hb4; have HN2 : Hid (w4.ownsRow w3'.heap.size 108 2 (.slice (some ⟨g2, 0, none⟩) m cap2) m (sp (bh F s u.1 u.2))) := hown2; have hz4 : w.heap.size ≤ w4.heap.size := Nat.le_trans HB3'.out.1.size hb4.size)
                | (at_builtin; refine wpList_append_lies _ rfl _ _ 109 rfl w.heap.size 108 i0 (.agg #[.int .i64 0, .int .i64 0]) 2 16 Try.underlying109 hi hz0 hz1 hz2 rfl (by decide) _ _ _ rfl HO4.out ⟨g2, 0, none⟩ m cap2 (sp (bh F s u.1 u.2)) rfl HSL.out (HN2.out.cells rfl) (sp_one _) hm0 (by unfold maxLen; omega) (by omega) hz4 w4.heap.size rfl ?_; intro g5 cap5 w5 hown5 hgr5 hfar5 _)
                | go_in)
              have hG : LDm F f0 en s w (.slice (some ⟨g5, 0, none⟩) (k + m) cap5) w5 (3 * (F.length * (s.size + 1) - (S.length + 1)) + (k + m)) := by
                have hsr := HRH.out.srch.on HP.out.2 hnS HUT.out
                refine ⟨g5, cap5, u :: S, W0 ++ bh F s u.1 u.2, D.put kl (.agg []), by rw [List.length_append, HKL.out, HML.out], by rw [List.length_append, HKL.out, HML.out]; rfl, ⟨?_, (map_below HMP.out hb4).kept hgr5 (fun e => HRH.out.ne (Option.some.inj e).symm), HRH.out.seen.put HK.out, hsr, (HB3'.out.1.trans (hb4.mono HB3'.out.1.size)).grown hgr5 hz4 (fun j hj => rxown_ge HO4.out j hj), by have := hb4.size; have := HRH.out.hi; have := HZ3.out; have := HB3'.out.2; have := hgr5.size; omega, ?_⟩⟩
                · rw [List.length_append, HKL.out, HML.out, sp_append]; exact hown5
                · rcases hfar5 with h | h
                  · have h' := Option.some.inj h
                    simp only at h'
                    rw [← h']; exact HRH.out.ne
                  · have := hb4.size; have := HRH.out.hi; have := HZ3.out; have := HB3'.out.2; omega
              exact ⟨⟨_, hG⟩, Nat.lt_of_le_of_lt (leastOf_le hG) (by have := HSN.out; rw [HMM.out]; omega)⟩
          · have e1 : ((u.1 : Int) == (en : Int)) = false := by simp; omega
            clear hut h1
            go_quiet (fail)
            have hd3 : Below w3.heap.size w3 (w3.drewN nq) := ⟨rfl, rfl, rfl, Nat.le_refl _, fun _ _ => rfl⟩
            generalize w3.drewN nq = w3' at hd3 ⊢
            have HB3' : Hid (Below w.heap.size w w3' ∧ w3.heap.size ≤ w3'.heap.size) := ⟨HB3.out.trans (hd3.mono HB3.out.size), hd3.size⟩
            have t0 := cell_next s0 hd3
            have t1 := cell_next s1 hd3
            have HO3' : Hid (w3'.ownsRow w.heap.size 108 2 (.slice (some ⟨g, 0, none⟩) k cap) k (sp W0)) := row_below HO3.out hd3
            have HMP : Hid (w3'.ownsMap Try.prog 108 unitElem w.heap.size (S.length + 1) (D.put kl (.agg []))) := map_below hmap3 hd3
            have HBH : Hid (Calls Try.prog 70 #[.pointer (some ⟨pp, 0, none⟩), .agg #[.int .i64 (u.1 : Int), .int .i64 (u.2 : Int)], .string s] w3' fun e' w' => ∃ v, e' = .returned v ∧ w'.ownsRow w3'.heap.size 108 2 v (bh F s u.1 u.2).length (sp (bh F s u.1 u.2)) ∧ Below w3'.heap.size w3' w' ∧ (bh F s u.1 u.2 = [] → v = .slice none 0 0)) := rxbehind_any B pp _ _ F s u.1 u.2 w3' (HP.out.1.keep HB3'.out.1) hu1 HP.out.2 hu2 hs
            clear hd3 s0 s1 s2 hmap3 hgr3 HO3
            by_cases hbe : bh F s u.1 u.2 = []
            · have HBN : Hid (Calls Try.prog 70 #[.pointer (some ⟨pp, 0, none⟩), .agg #[.int .i64 (u.1 : Int), .int .i64 (u.2 : Int)], .string s] w3' fun e' w' => e' = .returned (.slice none 0 0) ∧ Below w3'.heap.size w3' w') := (HBH.out).mono fun _ _ ⟨v, h1, _, h3, h4⟩ => ⟨by rw [h1, h4 hbe], h3⟩
              have HBE : Hid (bh F s u.1 u.2 = []) := hbe
              clear hbe HBH
              go_wp2_with (first
                | (go_at_call 70; refine HBN.out.mono ?_; rintro e w4 ⟨rfl, hb4⟩; have HO4 : Hid (w4.ownsRow w.heap.size 108 2 (.slice (some ⟨g, 0, none⟩) k cap) k (sp W0)) := row_below HO3'.out hb4)
                | (at_builtin; refine wpList_append_own_none _ rfl _ _ 109 rfl w.heap.size 108 i0 2 Try.underlying109 hi _ _ _ rfl HO4.out rfl ?_)
                | go_in)
              have hG : LDm F f0 en s w (.slice (some ⟨g, 0, none⟩) k cap) w4 (3 * (F.length * (s.size + 1) - (S.length + 1)) + k) := by
                have hsr := HRH.out.srch.on HP.out.2 hnS HUT.out
                rw [HBE.out, List.append_nil] at hsr
                refine ⟨g, cap, u :: S, W0, D.put kl (.agg []), by rw [HKL.out], by rw [HKL.out]; rfl, ⟨?_, map_below HMP.out hb4, HRH.out.seen.put HK.out, hsr, HB3'.out.1.trans (hb4.mono HB3'.out.1.size), by have := hb4.size; have := HRH.out.hi; have := HZ3.out; have := HB3'.out.2; omega, HRH.out.ne⟩⟩
                rw [HKL.out]; exact HO4.out
              have hsn := (Srch.small (HRH.out.srch.on HP.out.2 hnS HUT.out))
              simp only [List.length_cons] at hsn
              exact ⟨⟨_, hG⟩, Nat.lt_of_le_of_lt (leastOf_le hG) (by rw [HMM.out]; omega)⟩
            · have HBS : Hid (Calls Try.prog 70 #[.pointer (some ⟨pp, 0, none⟩), .agg #[.int .i64 (u.1 : Int), .int .i64 (u.2 : Int)], .string s] w3' fun e' w' => ∃ g2 cap2, e' = .returned (.slice (some ⟨g2, 0, none⟩) (bh F s u.1 u.2).length cap2) ∧ w'.ownsRow w3'.heap.size 108 2 (.slice (some ⟨g2, 0, none⟩) (bh F s u.1 u.2).length cap2) (bh F s u.1 u.2).length (sp (bh F s u.1 u.2)) ∧ Below w3'.heap.size w3' w') := (HBH.out).mono fun _ _ ⟨v, h1, h2, h3, _⟩ => by
                have h2' := h2
                rcases h2.2 with ⟨_, h0⟩ | ⟨g2, cap2, cur, rfl, _⟩
                · exact absurd (List.length_eq_zero_iff.1 h0) hbe
                · exact ⟨g2, cap2, h1, h2', h3⟩
              have hm0 : 0 < (bh F s u.1 u.2).length := List.length_pos_iff.2 hbe
              have hm2 : (bh F s u.1 u.2).length ≤ 2 := bh_len HP.out.2
              have HSL : Hid ((sp (bh F s u.1 u.2)).length = (bh F s u.1 u.2).length * 2) := sp_len _
              obtain ⟨m, HML⟩ : ∃ m, Hid ((bh F s u.1 u.2).length = m) := ⟨_, (rfl : (bh F s u.1 u.2).length = (bh F s u.1 u.2).length)⟩
              rw [HML.out] at HBS hm0 hm2 HSL
              have hsn := (Srch.small (HRH.out.srch.on HP.out.2 hnS HUT.out))
              simp only [List.length_cons] at hsn
              have HSN : Hid (S.length + 1 ≤ F.length * (s.size + 1)) := hsn
              clear hbe HBH hsn
              go_wp2_with (first
                | (go_at_call 70; refine HBS.out.mono ?_; rintro e w4 ⟨g2, cap2, rfl, hown2, hb4⟩; have HO4 : Hid (w4.ownsRow w.heap.size 108 2 (.slice (some ⟨g, 0, none⟩) k cap) k (sp W0)) := row_below HO3'.out hb4; have HN2 : Hid (w4.ownsRow w3'.heap.size 108 2 (.slice (some ⟨g2, 0, none⟩) m cap2) m (sp (bh F s u.1 u.2))) := hown2; have hz4 : w.heap.size ≤ w4.heap.size := Nat.le_trans HB3'.out.1.size hb4.size)
                | (at_builtin; refine wpList_append_lies _ rfl _ _ 109 rfl w.heap.size 108 i0 (.agg #[.int .i64 0, .int .i64 0]) 2 16 Try.underlying109 hi hz0 hz1 hz2 rfl (by decide) _ _ _ rfl HO4.out ⟨g2, 0, none⟩ m cap2 (sp (bh F s u.1 u.2)) rfl HSL.out (HN2.out.cells rfl) (sp_one _) hm0 (by unfold maxLen; omega) (by omega) hz4 w4.heap.size rfl ?_; intro g5 cap5 w5 hown5 hgr5 hfar5 _)
                | go_in)
              have hG : LDm F f0 en s w (.slice (some ⟨g5, 0, none⟩) (k + m) cap5) w5 (3 * (F.length * (s.size + 1) - (S.length + 1)) + (k + m)) := by
                have hsr := HRH.out.srch.on HP.out.2 hnS HUT.out
                refine ⟨g5, cap5, u :: S, W0 ++ bh F s u.1 u.2, D.put kl (.agg []), by rw [List.length_append, HKL.out, HML.out], by rw [List.length_append, HKL.out, HML.out]; rfl, ⟨?_, (map_below HMP.out hb4).kept hgr5 (fun e => HRH.out.ne (Option.some.inj e).symm), HRH.out.seen.put HK.out, hsr, (HB3'.out.1.trans (hb4.mono HB3'.out.1.size)).grown hgr5 hz4 (fun j hj => rxown_ge HO4.out j hj), by have := hb4.size; have := HRH.out.hi; have := HZ3.out; have := HB3'.out.2; have := hgr5.size; omega, ?_⟩⟩
                · rw [List.length_append, HKL.out, HML.out, sp_append]; exact hown5
                · rcases hfar5 with h | h
                  · have h' := Option.some.inj h
                    simp only at h'
                    rw [← h']; exact HRH.out.ne
                  · have := hb4.size; have := HRH.out.hi; have := HZ3.out; have := HB3'.out.2; omega
              exact ⟨⟨_, hG⟩, Nat.lt_of_le_of_lt (leastOf_le hG) (by have := HSN.out; rw [HMM.out]; omega)⟩
end Go.Proofs.Ytgdaegmmapljgaa

namespace Go.Proofs.Ytgdaegmmapljgaa
open Go.RowKit
open Cls Rex

/-- The plan's number of the end, put anew; and that of the first step. -/
theorem Pl.putE {B pp : Nat} {f e : Value} {ps : List St} {W : World} (h : Pl B pp f e ps W) (e' : Value) : Pl B pp f e' ps (W.setCell ⟨pp, 2, none⟩ e') := by
  obtain ⟨sv, qs, h1, h2, h3, h4⟩ := h
  refine ⟨sv, qs, ?_, row_set h2 h1 (by decide) e', h3, fun i k1 k2 => ⟨(h4 i k1 k2).1, (h4 i k1 k2).2.keep ((Keep3.refl W).set h1 (Or.inl rfl) e')⟩⟩
  have := heap_setCell_same W pp 2 _ 94 e' h1
  simpa using this
theorem Pl.putF {B pp : Nat} {f e : Value} {ps : List St} {W : World} (h : Pl B pp f e ps W) (f' : Value) : Pl B pp f' e ps (W.setCell ⟨pp, 1, none⟩ f') := by
  obtain ⟨sv, qs, h1, h2, h3, h4⟩ := h
  refine ⟨sv, qs, ?_, row_set h2 h1 (by decide) f', h3, fun i k1 k2 => ⟨(h4 i k1 k2).1, (h4 i k1 k2).2.keep ((Keep3.refl W).set h1 (Or.inl rfl) f')⟩⟩
  have := heap_setCell_same W pp 1 _ 94 f' h1
  simpa using this
theorem Pl.free {B pp : Nat} {f e : Value} {ps : List St} {W : World} (h : Pl B pp f e ps W) (j : Nat) : W.frozen? ⟨pp, j, none⟩ = false := by
  obtain ⟨sv, qs, h1, _⟩ := h
  exact frozen_of_row W pp j _ 94 h1
theorem fine0 : Fine [(empty, [])] := fun i c l h => by
  cases i with
  | zero => simp at h; obtain ⟨_, rfl⟩ := h; simp
  | succ i => simp at h
set_option maxHeartbeats 4000000 in
set_option maxRecDepth 20000 in
/-- Of a right tree and a text that is not too long. -/
theorem Matches_right (t : T) (x : E) (v : Value) (B : Nat) (s : ByteArray) (w : World) (hx : Rx w B v t) (hBw : B ≤ w.heap.size) (he : rerr t = 0) (hi : Is t x) (hn : x.nodes ≤ 100) (hs : s.size ≤ 200) :
    Calls Try.prog 55 #[v, .string s] w fun e' w' => ∃ b, e' = .returned (.tuple #[.bool b, .int .i64 0]) ∧ (b = true ↔ M x s.data.toList) ∧ Below w.heap.size w w' := by
  obtain ⟨k, c, ao, cap, kids, vals, rfl, _⟩ := hx.shape
  obtain ⟨n, HN⟩ : ∃ n, Hid (kids.length = n) := ⟨_, (rfl : kids.length = kids.length)⟩
  rw [HN.out] at hx ⊢
  have hb1 := box_keep w (.cells #[.int .i64 k, .int .u64 (c.1.toNat : Int), .int .u64 (c.2.1.toNat : Int), .int .u64 (c.2.2.1.toNat : Int), .int .u64 (c.2.2.2.toNat : Int), .slice ao n cap] 44)
  have hZ := block_new w (.cells #[.int .i64 k, .int .u64 (c.1.toNat : Int), .int .u64 (c.2.1.toNat : Int), .int .u64 (c.2.2.1.toNat : Int), .int .u64 (c.2.2.2.toNat : Int), .slice ao n cap] 44)
  obtain ⟨w1, HW1⟩ : ∃ w1, Hid (w.alloc (.cells #[.int .i64 k, .int .u64 (c.1.toNat : Int), .int .u64 (c.2.1.toNat : Int), .int .u64 (c.2.2.1.toNat : Int), .int .u64 (c.2.2.2.toNat : Int), .slice ao n cap] 44) = w1) := ⟨_, (rfl : w.alloc (.cells #[.int .i64 k, .int .u64 (c.1.toNat : Int), .int .u64 (c.2.1.toNat : Int), .int .u64 (c.2.2.1.toNat : Int), .int .u64 (c.2.2.2.toNat : Int), .slice ao n cap] 44) = w.alloc (.cells #[.int .i64 k, .int .u64 (c.1.toNat : Int), .int .u64 (c.2.1.toNat : Int), .int .u64 (c.2.2.1.toNat : Int), .int .u64 (c.2.2.2.toNat : Int), .slice ao n cap] 44))⟩
  rw [HW1.out] at hb1 hZ
  have hx1 := (hx.next (hb1.mono hBw)).wide (Nat.le_trans hBw hb1.size)
  have HX1 : Hid (Rx w1 w1.heap.size (.agg #[.int .i64 k, .int .u64 (c.1.toNat : Int), .int .u64 (c.2.1.toNat : Int), .int .u64 (c.2.2.1.toNat : Int), .int .u64 (c.2.2.2.toNat : Int), .slice ao n cap]) t) := hx1
  have HCK : Hid (Calls Try.prog 25 #[.agg #[.int .i64 k, .int .u64 (c.1.toNat : Int), .int .u64 (c.2.1.toNat : Int), .int .u64 (c.2.2.1.toNat : Int), .int .u64 (c.2.2.2.toNat : Int), .slice ao n cap]] w1 fun e w' => e = .returned (.int .i64 0) ∧ Below w1.heap.size w1 w') := by
    have h := RxCheck_any t _ _ w1 hx1 (Nat.le_refl _)
    rw [he] at h
    exact h
  have z0 := cell_of_row w1 w.heap.size 0 _ 44 (0, 0) hZ
  have z1 := cell_of_row w1 w.heap.size 1 _ 44 (0, 0) hZ
  have z2 := cell_of_row w1 w.heap.size 2 _ 44 (0, 0) hZ
  have z3 := cell_of_row w1 w.heap.size 3 _ 44 (0, 0) hZ
  have z4 := cell_of_row w1 w.heap.size 4 _ 44 (0, 0) hZ
  have z5 := cell_of_row w1 w.heap.size 5 _ 44 (0, 0) hZ
  simp at z0 z1 z2 z3 z4 z5
  clear hx hx1
  go_enter Try.func55, Try.ntmps55
  go_wp2_with fail
  rw [HW1.out]
  refine HCK.out.mono ?_
  rintro e1 w2 ⟨rfl, hb2⟩
  obtain ⟨pp, HPP⟩ : ∃ pp, Hid (w2.heap.size = pp) := ⟨_, (rfl : w2.heap.size = w2.heap.size)⟩
  have hb3 := box_keep w2 (.cells #[.slice none 0 0, .int .i64 0, .int .i64 0] 94)
  have hZ2 := block_new w2 (.cells #[.slice none 0 0, .int .i64 0, .int .i64 0] 94)
  obtain ⟨wp, HWP⟩ : ∃ wp, Hid (w2.alloc (.cells #[.slice none 0 0, .int .i64 0, .int .i64 0] 94) = wp) := ⟨_, (rfl : w2.alloc (.cells #[.slice none 0 0, .int .i64 0, .int .i64 0] 94) = w2.alloc (.cells #[.slice none 0 0, .int .i64 0, .int .i64 0] 94))⟩
  have hsz : wp.heap.size = w2.heap.size + 1 := by rw [← HWP.out]; simp
  rw [HWP.out] at hb3 hZ2
  rw [HPP.out] at hZ2 hsz hb3
  have hP0 : Pl pp pp (.int .i64 0) (.int .i64 0) [] wp := ⟨.slice none 0 0, [], hZ2, World.ownsRow_nil _ _ _ _, rfl, fun i h => absurd h (Nat.not_lt_zero _)⟩
  have HL0 : Hid (Calls Try.prog 62 #[.pointer (some ⟨pp, 0, none⟩), .agg #[.int .u64 0, .int .u64 0, .int .u64 0, .int .u64 0, .slice none 0 0]] wp fun e' w' => e' = .returned (.int .i64 0) ∧ Pl pp pp (.int .i64 0) (.int .i64 0) [(empty, [])] w' ∧ Below pp wp w' ∧ Keep3 wp w') := lay_empty pp pp _ _ [] wp hP0 (Nat.le_refl _) (by omega) (by simp)
  have hlt : w.heap.size < w1.heap.size := blk_lt hZ
  have hlt2 : w1.heap.size ≤ pp := by rw [← HPP.out]; exact hb2.size
  have HB12 : Hid (Below w1.heap.size w1 wp) := hb2.trans (hb3.mono hlt2)
  have hn200 : ¬ (200 < s.size) := by omega
  clear hP0 hb3 hZ2 hb2
  go_wp2_with fail
  rw [HPP.out, HWP.out]
  refine HL0.out.mono ?_
  rintro e1 W3 ⟨rfl, hP3, hB3, hK3⟩
  have HB3 : Hid (Below w1.heap.size w1 W3 ∧ pp < W3.heap.size) := ⟨HB12.out.trans (hB3.mono hlt2), by have := hB3.size; omega⟩
  have y0 := (HB3.out.1.cell (p := ⟨w.heap.size, 0, none⟩) hlt).trans z0
  have y1 := (HB3.out.1.cell (p := ⟨w.heap.size, 1, none⟩) hlt).trans z1
  have y2 := (HB3.out.1.cell (p := ⟨w.heap.size, 2, none⟩) hlt).trans z2
  have y3 := (HB3.out.1.cell (p := ⟨w.heap.size, 3, none⟩) hlt).trans z3
  have y4 := (HB3.out.1.cell (p := ⟨w.heap.size, 4, none⟩) hlt).trans z4
  have y5 := (HB3.out.1.cell (p := ⟨w.heap.size, 5, none⟩) hlt).trans z5
  have f2 := hP3.free 2
  have x2 := hP3.nums.2
  have HP4 : Hid (Pl pp pp (.int .i64 0) (.int .i64 0) [(empty, [])] (W3.setCell ⟨pp, 2, none⟩ (.int .i64 0))) := hP3.putE _
  have hB4 : Below pp W3 (W3.setCell ⟨pp, 2, none⟩ (.int .i64 0)) := (Below.refl pp W3).setCell (p := ⟨pp, 2, none⟩) (Nat.le_refl _) _
  have HB4 : Hid (Below w1.heap.size w1 (W3.setCell ⟨pp, 2, none⟩ (.int .i64 0))) := HB3.out.1.trans (hB4.mono hlt2)
  have hs4 : pp ≤ (W3.setCell ⟨pp, 2, none⟩ (.int .i64 0)).heap.size := by have := hB4.size; have := HB3.out.2; omega
  have HLX : Hid (Calls Try.prog 63 #[.pointer (some ⟨pp, 0, none⟩), .agg #[.int .i64 k, .int .u64 (c.1.toNat : Int), .int .u64 (c.2.1.toNat : Int), .int .u64 (c.2.2.1.toNat : Int), .int .u64 (c.2.2.2.toNat : Int), .slice ao n cap], .int .i64 0] (W3.setCell ⟨pp, 2, none⟩ (.int .i64 0)) fun e' w' => e' = .returned (.int .i64 ((plan x).2 : Int)) ∧ Pl pp pp (.int .i64 0) (.int .i64 0) (plan x).1 w' ∧ Below pp (W3.setCell ⟨pp, 2, none⟩ (.int .i64 0)) w' ∧ Keep3 (W3.setCell ⟨pp, 2, none⟩ (.int .i64 0)) w') := layRex_any hi _ [(empty, [])] 0 pp pp _ _ _ ((HX1.out.next HB4.out).wide hlt2) HP4.out (Nat.le_refl _) hs4 (by simp only [List.length_cons, List.length_nil]; omega)
  have hne : w.heap.size ≠ pp := by omega
  clear z0 z1 z2 z3 z4 z5 hP3 hB3 hK3 HL0
  obtain ⟨r, HRV⟩ : ∃ r, Hid ((plan x).2 = r) := ⟨_, (rfl : (plan x).2 = (plan x).2)⟩
  rw [HRV.out] at HLX
  clear hB4 hs4
  go_wp2_with fail
  refine HLX.out.mono ?_
  rintro e1 W5 ⟨rfl, hP5, hB5, hK5⟩
  have x1 := hP5.nums.1
  have f1 := hP5.free 1
  have hB6 : Below pp W5 (W5.setCell ⟨pp, 1, none⟩ (.int .i64 (r : Int))) := (Below.refl pp W5).setCell (p := ⟨pp, 1, none⟩) (Nat.le_refl _) _
  have HB6 : Hid (Below w1.heap.size w1 (W5.setCell ⟨pp, 1, none⟩ (.int .i64 (r : Int)))) := HB4.out.trans ((hB5.trans hB6).mono hlt2)
  have HLD : Hid (Calls Try.prog 64 #[.pointer (some ⟨pp, 0, none⟩), .string s] (W5.setCell ⟨pp, 1, none⟩ (.int .i64 (r : Int))) fun e' w' => ∃ b, e' = .returned (.bool b) ∧ (b = true ↔ Acc (plan x).1 0 s.data.toList r 0) ∧ Below (W5.setCell ⟨pp, 1, none⟩ (.int .i64 (r : Int))).heap.size (W5.setCell ⟨pp, 1, none⟩ (.int .i64 (r : Int))) w') :=
    leads_any pp pp r 0 (plan x).1 s _ (hP5.putF _) (lay_fine x _ 0 fine0 (by simp)) (by have := (lay_len x [(empty, [])] 0).2; unfold plan; simp only [List.length_cons, List.length_nil] at this; omega) hs (by rw [← HRV.out]; exact lay_entry x [(empty, [])] 0 (by simp))
  clear hP5 hB5 hK5 hB6 y0 y1 y2 y3 y4 y5 f2 x2 HLX
  go_wp2_with fail
  refine HLD.out.mono ?_
  rintro e1 W7 ⟨b, rfl, hb, hB7⟩
  have HBB : Hid (b = true ↔ M x s.data.toList) := by
    show _ ↔ _
    rw [hb, ← HRV.out]; exact plan_means x hi.ok _
  have HB7 : Hid (Below w.heap.size w W7) := hb1.trans ((HB6.out.trans (hB7.mono HB6.out.size)).mono (Nat.le_of_lt hlt))
  clear hb hB7
  go_wp2_with fail
  go_ret2
  exact ⟨b, rfl, HBB.out, HB7.out⟩
set_option maxHeartbeats 4000000 in
set_option maxRecDepth 20000 in
/-- Of a tree that is not right. -/
theorem Matches_wrong (t : T) (v : Value) (B : Nat) (s : ByteArray) (w : World) (hx : Rx w B v t) (hBw : B ≤ w.heap.size) (ec : Nat) (he : rerr t = ec) (h0 : ec ≠ 0) :
    Calls Try.prog 55 #[v, .string s] w fun e' w' => e' = .returned (.tuple #[.bool false, .int .i64 (ec : Int)]) ∧ Below w.heap.size w w' := by
  obtain ⟨k, c, ao, cap, kids, vals, rfl, _⟩ := hx.shape
  obtain ⟨n, HN⟩ : ∃ n, Hid (kids.length = n) := ⟨_, (rfl : kids.length = kids.length)⟩
  rw [HN.out] at hx ⊢
  have hb1 := box_keep w (.cells #[.int .i64 k, .int .u64 (c.1.toNat : Int), .int .u64 (c.2.1.toNat : Int), .int .u64 (c.2.2.1.toNat : Int), .int .u64 (c.2.2.2.toNat : Int), .slice ao n cap] 44)
  obtain ⟨w1, HW1⟩ : ∃ w1, Hid (w.alloc (.cells #[.int .i64 k, .int .u64 (c.1.toNat : Int), .int .u64 (c.2.1.toNat : Int), .int .u64 (c.2.2.1.toNat : Int), .int .u64 (c.2.2.2.toNat : Int), .slice ao n cap] 44) = w1) := ⟨_, (rfl : w.alloc (.cells #[.int .i64 k, .int .u64 (c.1.toNat : Int), .int .u64 (c.2.1.toNat : Int), .int .u64 (c.2.2.1.toNat : Int), .int .u64 (c.2.2.2.toNat : Int), .slice ao n cap] 44) = w.alloc (.cells #[.int .i64 k, .int .u64 (c.1.toNat : Int), .int .u64 (c.2.1.toNat : Int), .int .u64 (c.2.2.1.toNat : Int), .int .u64 (c.2.2.2.toNat : Int), .slice ao n cap] 44))⟩
  rw [HW1.out] at hb1
  have hx1 := (hx.next (hb1.mono hBw)).wide (Nat.le_trans hBw hb1.size)
  have HCK : Hid (Calls Try.prog 25 #[.agg #[.int .i64 k, .int .u64 (c.1.toNat : Int), .int .u64 (c.2.1.toNat : Int), .int .u64 (c.2.2.1.toNat : Int), .int .u64 (c.2.2.2.toNat : Int), .slice ao n cap]] w1 fun e w' => e = .returned (.int .i64 (ec : Int)) ∧ Below w1.heap.size w1 w') := by
    have h := RxCheck_any t _ _ w1 hx1 (Nat.le_refl _)
    rw [he] at h
    exact h
  clear hx hx1
  have hq : ((ec : Int) == 0) = false := by simp; omega
  clear he h0
  go_enter Try.func55, Try.ntmps55
  go_wp2_with fail
  rw [HW1.out]
  refine HCK.out.mono ?_
  rintro e1 w2 ⟨rfl, hb2⟩
  have HB2 : Hid (Below w.heap.size w w2) := hb1.trans (hb2.mono hb1.size)
  clear hb2
  go_wp2_with fail
  go_ret2
  exact ⟨rfl, HB2.out⟩
set_option maxHeartbeats 4000000 in
set_option maxRecDepth 20000 in
/-- Of a text that is too long. -/
theorem Matches_long (t : T) (v : Value) (B : Nat) (s : ByteArray) (w : World) (hx : Rx w B v t) (hBw : B ≤ w.heap.size) (he : rerr t = 0) (hs : 200 < s.size) :
    Calls Try.prog 55 #[v, .string s] w fun e' w' => e' = .returned (.tuple #[.bool false, .int .i64 2]) ∧ Below w.heap.size w w' := by
  obtain ⟨k, c, ao, cap, kids, vals, rfl, _⟩ := hx.shape
  obtain ⟨n, HN⟩ : ∃ n, Hid (kids.length = n) := ⟨_, (rfl : kids.length = kids.length)⟩
  rw [HN.out] at hx ⊢
  have hb1 := box_keep w (.cells #[.int .i64 k, .int .u64 (c.1.toNat : Int), .int .u64 (c.2.1.toNat : Int), .int .u64 (c.2.2.1.toNat : Int), .int .u64 (c.2.2.2.toNat : Int), .slice ao n cap] 44)
  obtain ⟨w1, HW1⟩ : ∃ w1, Hid (w.alloc (.cells #[.int .i64 k, .int .u64 (c.1.toNat : Int), .int .u64 (c.2.1.toNat : Int), .int .u64 (c.2.2.1.toNat : Int), .int .u64 (c.2.2.2.toNat : Int), .slice ao n cap] 44) = w1) := ⟨_, (rfl : w.alloc (.cells #[.int .i64 k, .int .u64 (c.1.toNat : Int), .int .u64 (c.2.1.toNat : Int), .int .u64 (c.2.2.1.toNat : Int), .int .u64 (c.2.2.2.toNat : Int), .slice ao n cap] 44) = w.alloc (.cells #[.int .i64 k, .int .u64 (c.1.toNat : Int), .int .u64 (c.2.1.toNat : Int), .int .u64 (c.2.2.1.toNat : Int), .int .u64 (c.2.2.2.toNat : Int), .slice ao n cap] 44))⟩
  rw [HW1.out] at hb1
  have hx1 := (hx.next (hb1.mono hBw)).wide (Nat.le_trans hBw hb1.size)
  have HCK : Hid (Calls Try.prog 25 #[.agg #[.int .i64 k, .int .u64 (c.1.toNat : Int), .int .u64 (c.2.1.toNat : Int), .int .u64 (c.2.2.1.toNat : Int), .int .u64 (c.2.2.2.toNat : Int), .slice ao n cap]] w1 fun e w' => e = .returned (.int .i64 0) ∧ Below w1.heap.size w1 w') := by
    have h := RxCheck_any t _ _ w1 hx1 (Nat.le_refl _)
    rw [he] at h
    exact h
  clear hx hx1
  go_enter Try.func55, Try.ntmps55
  go_wp2_with fail
  rw [HW1.out]
  refine HCK.out.mono ?_
  rintro e1 w2 ⟨rfl, hb2⟩
  have HB2 : Hid (Below w.heap.size w w2) := hb1.trans (hb2.mono hb1.size)
  clear hb2
  go_wp2_with fail
  go_ret2
  exact ⟨rfl, HB2.out⟩
end Go.Proofs.Ytgdaegmmapljgaa

namespace Go.Proofs.Ytgdaegmmapljgaa
open Go.RowKit
open Cls Rex

set_option maxHeartbeats 4000000 in
set_option maxRecDepth 20000 in
theorem star_any (t : T) (v : Value) (B : Nat) (w : World) (hx : Rx w B v t) (hBw : B ≤ w.heap.size) :
    Calls Try.prog 21 #[v] w fun e' w' => ∃ v', e' = .returned v' ∧ Rx w' w'.heap.size v' (.mk 6 empty [t]) ∧ Below w.heap.size w w' := by
  obtain ⟨k, c, ao, cap, kids, vals, rfl, _⟩ := hx.shape
  obtain ⟨n, HN⟩ : ∃ n, Hid (kids.length = n) := ⟨_, (rfl : kids.length = kids.length)⟩
  rw [HN.out] at hx ⊢
  have HX : Hid (Rx w B (.agg #[.int .i64 k, .int .u64 (c.1.toNat : Int), .int .u64 (c.2.1.toNat : Int), .int .u64 (c.2.2.1.toNat : Int), .int .u64 (c.2.2.2.toNat : Int), .slice ao n cap]) t) := hx
  clear hx
  go_enter Try.func21, Try.ntmps21
  go_wp2_with fail
  have hz := block_new ((w.alloc (.cells #[.int .i64 k, .int .u64 (c.1.toNat : Int), .int .u64 (c.2.1.toNat : Int), .int .u64 (c.2.2.1.toNat : Int), .int .u64 (c.2.2.2.toNat : Int), .slice ao n cap] 44)).alloc (.cells #[.int .i64 6, .int .u64 0, .int .u64 0, .int .u64 0, .int .u64 0, .slice (some ⟨w.heap.size + 1 + 1, 0, none⟩) 1 1] 44)) (.cells #[.int .i64 k, .int .u64 (c.1.toNat : Int), .int .u64 (c.2.1.toNat : Int), .int .u64 (c.2.2.1.toNat : Int), .int .u64 (c.2.2.2.toNat : Int), .slice ao n cap] 44)
  have hB : Below w.heap.size w (((w.alloc (.cells #[.int .i64 k, .int .u64 (c.1.toNat : Int), .int .u64 (c.2.1.toNat : Int), .int .u64 (c.2.2.1.toNat : Int), .int .u64 (c.2.2.2.toNat : Int), .slice ao n cap] 44)).alloc (.cells #[.int .i64 6, .int .u64 0, .int .u64 0, .int .u64 0, .int .u64 0, .slice (some ⟨w.heap.size + 1 + 1, 0, none⟩) 1 1] 44)).alloc (.cells #[.int .i64 k, .int .u64 (c.1.toNat : Int), .int .u64 (c.2.1.toNat : Int), .int .u64 (c.2.2.1.toNat : Int), .int .u64 (c.2.2.2.toNat : Int), .slice ao n cap] 44)) := (((Below.refl _ w).alloc (Nat.le_refl _) _).alloc (by simp) _).alloc (by simp; omega) _
  have e : ((w.alloc (.cells #[.int .i64 k, .int .u64 (c.1.toNat : Int), .int .u64 (c.2.1.toNat : Int), .int .u64 (c.2.2.1.toNat : Int), .int .u64 (c.2.2.2.toNat : Int), .slice ao n cap] 44)).alloc (.cells #[.int .i64 6, .int .u64 0, .int .u64 0, .int .u64 0, .int .u64 0, .slice (some ⟨w.heap.size + 1 + 1, 0, none⟩) 1 1] 44)).heap.size = w.heap.size + 1 + 1 := by simp
  rw [e] at hz
  refine bodyPost_ret (v := .agg #[.int .i64 6, .int .u64 0, .int .u64 0, .int .u64 0, .int .u64 0, .slice (some ⟨w.heap.size + 1 + 1, 0, none⟩) 1 1]) (by simp [results, Try.results21, go_sem]) rfl ⟨_, rfl, ?_, hB⟩
  refine Rx.mk 6 empty (some ⟨w.heap.size + 1 + 1, 0, none⟩) 1 [t] (fun _ => .agg #[.int .i64 k, .int .u64 (c.1.toNat : Int), .int .u64 (c.2.1.toNat : Int), .int .u64 (c.2.2.1.toNat : Int), .int .u64 (c.2.2.2.toNat : Int), .slice ao n cap]) ⟨by omega, by omega⟩ (by simp) (Or.inr ⟨w.heap.size + 1 + 1, 0, rfl, blk_lt hz, ?_⟩) ?_
  · intro i hi j _
    have : i = 0 := by simpa using hi
    subst this
    rw [show 0 + 0 * 6 + j = j by omega]
    exact cell_of_row _ _ j _ 44 (0, 0) hz
  · intro i hi
    have : i = 0 := by simpa using hi
    subst this
    exact (HX.out.next (hB.mono hBw)).wide (Nat.le_trans hBw hB.size)
end Go.Proofs.Ytgdaegmmapljgaa

namespace Go.Proofs.Ytgdaegmmapljgaa
open Go.RowKit
open Cls Rex

theorem is_unique {t : T} {x : E} (h : Is t x) : ∀ {y : E}, Is t y → x = y := by
  induction h with
  | none => intro y h; cases h; rfl
  | emp => intro y h; cases h; rfl
  | byte _ => intro y h; cases h; rfl
  | cat _ _ i1 i2 => intro y h; cases h with | cat h1 h2 => rw [i1 h1, i2 h2]
  | alt _ _ i1 i2 => intro y h; cases h with | alt h1 h2 => rw [i1 h1, i2 h2]
  | star _ i => intro y h; cases h with | star h1 => rw [i h1]
/-- The text is one of the tree's. -/
def Mt (t : T) (s : ByteArray) : Prop := ∃ x, Is t x ∧ M x s.data.toList
/-- There is an error. -/
def bad (t : T) (s : ByteArray) : Bool := decide (rerr t ≠ 0) || decide (200 < s.size)
theorem Matches_any (t : T) (v : Value) (B : Nat) (s : ByteArray) (w : World) (hx : Rx w B v t) (hBw : B ≤ w.heap.size) :
    Calls Try.prog 55 #[v, .string s] w fun e' w' => ∃ (b : Bool) (ec : Nat), e' = .returned (.tuple #[.bool b, .int .i64 (ec : Int)]) ∧ (decide (ec ≠ 0) = bad t s) ∧ (b = true ↔ bad t s = false ∧ Mt t s) ∧ Below w.heap.size w w' := by
  by_cases he : rerr t = 0
  · by_cases hs : 200 < s.size
    · have hbad : bad t s = true := by simp [bad, hs]
      exact (Matches_long t v B s w hx hBw he hs).mono fun _ _ ⟨h1, h2⟩ => ⟨false, 2, h1, by simp [hbad], by simp [hbad], h2⟩
    · have hbad : bad t s = false := by simp [bad, he]; omega
      obtain ⟨x, hi, _, hn, _⟩ := chk_right (n' := (chk t 1 0).2) (Prod.ext he rfl)
      have hn' : x.nodes ≤ 100 := by omega
      refine (Matches_right t x v B s w hx hBw he hi hn' (by omega)).mono fun _ _ ⟨b, h1, h2, h3⟩ => ⟨b, 0, h1, by simp [hbad], ?_, h3⟩
      rw [h2]
      constructor
      · intro h; exact ⟨hbad, x, hi, h⟩
      · rintro ⟨_, y, hy, h⟩; rw [is_unique hi hy]; exact h
  · have hbad : bad t s = true := by simp [bad, he]
    exact (Matches_wrong t v B s w hx hBw (rerr t) rfl he).mono fun _ _ ⟨h1, h2⟩ => ⟨false, rerr t, h1, by simp [hbad, he], by simp [hbad], h2⟩
set_option maxHeartbeats 4000000 in
set_option maxRecDepth 20000 in
theorem is_any (t : T) (v : Value) (B : Nat) (s : ByteArray) (w : World) (hx : Rx w B v t) (hBw : B ≤ w.heap.size) :
    Calls Try.prog 44 #[v, .string s] w fun e' w' => ∃ b : Bool, e' = .returned (.tuple #[.bool b, .bool (bad t s)]) ∧ (b = true ↔ bad t s = false ∧ Mt t s) ∧ Below w.heap.size w w' := by
  obtain ⟨k, c, ao, cap, kids, vals, rfl, _⟩ := hx.shape
  obtain ⟨n, HN⟩ : ∃ n, Hid (kids.length = n) := ⟨_, (rfl : kids.length = kids.length)⟩
  rw [HN.out] at hx ⊢
  have hb1 := box_keep w (.cells #[.int .i64 k, .int .u64 (c.1.toNat : Int), .int .u64 (c.2.1.toNat : Int), .int .u64 (c.2.2.1.toNat : Int), .int .u64 (c.2.2.2.toNat : Int), .slice ao n cap] 44)
  have HM : Hid (Calls Try.prog 55 #[.agg #[.int .i64 k, .int .u64 (c.1.toNat : Int), .int .u64 (c.2.1.toNat : Int), .int .u64 (c.2.2.1.toNat : Int), .int .u64 (c.2.2.2.toNat : Int), .slice ao n cap], .string s] (w.alloc (.cells #[.int .i64 k, .int .u64 (c.1.toNat : Int), .int .u64 (c.2.1.toNat : Int), .int .u64 (c.2.2.1.toNat : Int), .int .u64 (c.2.2.2.toNat : Int), .slice ao n cap] 44)) fun e' w' => ∃ (b : Bool) (ec : Nat), e' = .returned (.tuple #[.bool b, .int .i64 (ec : Int)]) ∧ (decide (ec ≠ 0) = bad t s) ∧ (b = true ↔ bad t s = false ∧ Mt t s) ∧ Below (w.alloc (.cells #[.int .i64 k, .int .u64 (c.1.toNat : Int), .int .u64 (c.2.1.toNat : Int), .int .u64 (c.2.2.1.toNat : Int), .int .u64 (c.2.2.2.toNat : Int), .slice ao n cap] 44)).heap.size (w.alloc (.cells #[.int .i64 k, .int .u64 (c.1.toNat : Int), .int .u64 (c.2.1.toNat : Int), .int .u64 (c.2.2.1.toNat : Int), .int .u64 (c.2.2.2.toNat : Int), .slice ao n cap] 44)) w') :=
    Matches_any t _ B s _ (hx.next (hb1.mono hBw)) (Nat.le_trans hBw hb1.size)
  clear hx
  go_enter Try.func44, Try.ntmps44
  go_wp2_with fail
  refine HM.out.mono ?_
  rintro e1 w2 ⟨b, ec, rfl, hec, hb, hb2⟩
  have HE : Hid (decide (ec ≠ 0) = bad t s) := hec
  have HBB : Hid ((b = true ↔ bad t s = false ∧ Mt t s) ∧ Below w.heap.size w w2) := ⟨hb, hb1.trans (hb2.mono hb1.size)⟩
  clear hec hb hb2
  go_wp2_with fail
  go_ret2
  refine ⟨b, ?_, HBB.out.1, HBB.out.2⟩
  rw [← HE.out]
  by_cases h : ec = 0 <;> simp [h]
end Go.Proofs.Ytgdaegmmapljgaa

namespace Go.Proofs.Ytgdaegmmapljgaa
open Go.RowKit
open Cls Rex

set_option maxHeartbeats 4000000 in
set_option maxRecDepth 20000 in
theorem letter_any (z : Int) (h1 : -9223372036854775808 ≤ z) (h2 : z ≤ 9223372036854775807) (w : World) :
    Calls Try.prog 18 #[.int .i64 z] w fun e' w' => ∃ v', e' = .returned v' ∧ Rx w' w'.heap.size v' (.mk 3 (range z z) []) ∧ Below w.heap.size w w' := by
  have hb1 := box_keep w (.cells #[.int .i64 0, .int .u64 0, .int .u64 0, .int .u64 0, .int .u64 0, .slice none 0 0] 44)
  have hz1 := block_new w (.cells #[.int .i64 0, .int .u64 0, .int .u64 0, .int .u64 0, .int .u64 0, .slice none 0 0] 44)
  obtain ⟨w1, HW1⟩ : ∃ w1, Hid (w.alloc (.cells #[.int .i64 0, .int .u64 0, .int .u64 0, .int .u64 0, .int .u64 0, .slice none 0 0] 44) = w1) := ⟨_, (rfl : w.alloc (.cells #[.int .i64 0, .int .u64 0, .int .u64 0, .int .u64 0, .int .u64 0, .slice none 0 0] 44) = w.alloc (.cells #[.int .i64 0, .int .u64 0, .int .u64 0, .int .u64 0, .int .u64 0, .slice none 0 0] 44))⟩
  rw [HW1.out] at hb1 hz1
  have HC : Hid (Calls Try.prog 43 #[.int .i64 z, .int .i64 z] w1 fun e w' => e = .returned (.agg #[.int .u64 ((range z z).1.toNat : Int), .int .u64 ((range z z).2.1.toNat : Int), .int .u64 ((range z z).2.2.1.toNat : Int), .int .u64 ((range z z).2.2.2.toNat : Int)]) ∧ Below w1.heap.size w1 w') := range_any z z h2 h1 h2 w1
  go_enter Try.func18, Try.ntmps18
  go_wp2_with fail
  rw [HW1.out]
  refine HC.out.mono ?_
  rintro e1 w2 ⟨rfl, hb2⟩
  have hz2 := blk_next hb2 hz1
  have HZ2 : Hid (w2.heap[w.heap.size]? = some (.cells #[.int .i64 0, .int .u64 0, .int .u64 0, .int .u64 0, .int .u64 0, .slice none 0 0] 44)) := hz2
  have q0 := cell_of_row w2 w.heap.size 0 _ 44 (0, 0) hz2
  have q1 := cell_of_row w2 w.heap.size 1 _ 44 (0, 0) hz2
  have q2 := cell_of_row w2 w.heap.size 2 _ 44 (0, 0) hz2
  have q3 := cell_of_row w2 w.heap.size 3 _ 44 (0, 0) hz2
  have q4 := cell_of_row w2 w.heap.size 4 _ 44 (0, 0) hz2
  have q5 := cell_of_row w2 w.heap.size 5 _ 44 (0, 0) hz2
  have r0 := frozen_of_row w2 w.heap.size 0 _ 44 hz2
  have r1 := frozen_of_row w2 w.heap.size 1 _ 44 hz2
  have r2 := frozen_of_row w2 w.heap.size 2 _ 44 hz2
  have r3 := frozen_of_row w2 w.heap.size 3 _ 44 hz2
  have r4 := frozen_of_row w2 w.heap.size 4 _ 44 hz2
  have r5 := frozen_of_row w2 w.heap.size 5 _ 44 hz2
  have HB2 : Hid (Below w.heap.size w w2) := hb1.trans (hb2.mono hb1.size)
  clear hz2 hb2
  go_wp2_with fail
  have y0 := heap_setCell_same w2 w.heap.size 0 _ 44 (.int .i64 3) HZ2.out
  have y1 := heap_setCell_same _ w.heap.size 1 _ 44 (.int .u64 ((range z z).1.toNat : Int)) y0
  have y2 := heap_setCell_same _ w.heap.size 2 _ 44 (.int .u64 ((range z z).2.1.toNat : Int)) y1
  have y3 := heap_setCell_same _ w.heap.size 3 _ 44 (.int .u64 ((range z z).2.2.1.toNat : Int)) y2
  have y4 := heap_setCell_same _ w.heap.size 4 _ 44 (.int .u64 ((range z z).2.2.2.toNat : Int)) y3
  have y5 := heap_setCell_same _ w.heap.size 5 _ 44 (.slice none 0 0) y4
  have hB : Below w.heap.size w ((((((w2.setCell ⟨w.heap.size, 0, none⟩ (.int .i64 3)).setCell ⟨w.heap.size, 1, none⟩ (.int .u64 ((range z z).1.toNat : Int))).setCell ⟨w.heap.size, 2, none⟩ (.int .u64 ((range z z).2.1.toNat : Int))).setCell ⟨w.heap.size, 3, none⟩ (.int .u64 ((range z z).2.2.1.toNat : Int))).setCell ⟨w.heap.size, 4, none⟩ (.int .u64 ((range z z).2.2.2.toNat : Int))).setCell ⟨w.heap.size, 5, none⟩ (.slice none 0 0)) := (((((HB2.out.setCell (p := ⟨w.heap.size, 0, none⟩) (Nat.le_refl _) _).setCell (p := ⟨w.heap.size, 1, none⟩) (Nat.le_refl _) _).setCell (p := ⟨w.heap.size, 2, none⟩) (Nat.le_refl _) _).setCell (p := ⟨w.heap.size, 3, none⟩) (Nat.le_refl _) _).setCell (p := ⟨w.heap.size, 4, none⟩) (Nat.le_refl _) _).setCell (p := ⟨w.heap.size, 5, none⟩) (Nat.le_refl _) _
  have d0 := cell_of_row _ w.heap.size 0 _ 44 (0, 0) y5
  have d1 := cell_of_row _ w.heap.size 1 _ 44 (0, 0) y5
  have d2 := cell_of_row _ w.heap.size 2 _ 44 (0, 0) y5
  have d3 := cell_of_row _ w.heap.size 3 _ 44 (0, 0) y5
  have d4 := cell_of_row _ w.heap.size 4 _ 44 (0, 0) y5
  have d5 := cell_of_row _ w.heap.size 5 _ 44 (0, 0) y5
  clear q0 q1 q2 q3 q4 q5 r0 r1 r2 r3 r4 r5 y0 y1 y2 y3 y4 y5
  generalize ((((((w2.setCell ⟨w.heap.size, 0, none⟩ (.int .i64 3)).setCell ⟨w.heap.size, 1, none⟩ (.int .u64 ((range z z).1.toNat : Int))).setCell ⟨w.heap.size, 2, none⟩ (.int .u64 ((range z z).2.1.toNat : Int))).setCell ⟨w.heap.size, 3, none⟩ (.int .u64 ((range z z).2.2.1.toNat : Int))).setCell ⟨w.heap.size, 4, none⟩ (.int .u64 ((range z z).2.2.2.toNat : Int))).setCell ⟨w.heap.size, 5, none⟩ (.slice none 0 0)) = w9 at hB d0 d1 d2 d3 d4 d5 ⊢
  simp at d0 d1 d2 d3 d4 d5
  refine bodyPost_ret (v := .agg #[.int .i64 3, .int .u64 ((range z z).1.toNat : Int), .int .u64 ((range z z).2.1.toNat : Int), .int .u64 ((range z z).2.2.1.toNat : Int), .int .u64 ((range z z).2.2.2.toNat : Int), .slice none 0 0]) (by simp [results, Try.results18, go_sem, d0, d1, d2, d3, d4, d5]) rfl ⟨_, rfl, ?_, hB⟩
  exact Rx.mk 3 (range z z) none 0 [] (fun _ => .slice none 0 0) ⟨by omega, by omega⟩ (by simp) (Or.inl rfl) (fun i hi => absurd hi (Nat.not_lt_zero _))
end Go.Proofs.Ytgdaegmmapljgaa
