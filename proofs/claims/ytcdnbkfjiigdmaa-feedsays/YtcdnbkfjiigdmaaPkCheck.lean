/-
  The contracts of small.areColumns and small.Check.
-/
import Derived.Test.YtcdnbkfjiigdmaaPkWalks
namespace Go.Proofs.Ytcdnbkfjiigdmaa
open Go.RowKit
open Dfa

theorem us_block (w : World) (O : Nat → Nat) : ∀ j, j < 256 → (w.alloc (.cells (ol O).toArray 22)).cell? ⟨w.heap.size, 0 + j, none⟩ = some (.int .u8 (O j : Int)) := fun j hj => by
  rw [Nat.zero_add, cell_of_block, ol_at O j hj]

theorem max_of (w : World) (O : Nat → Nat) (hO : ∀ j, O j < 256) : ∃ q : Nat, q < 256 ∧ (∀ c : Nat, decide ((q : Int) < (c : Int)) = ofOk O c) ∧
    Calls Try.prog 29 #[.slice (some ⟨w.heap.size, 0, none⟩) 256 256] (w.alloc (.cells (ol O).toArray 22)) fun e w' => e = .returned (.int .u8 (q : Int)) ∧ w' = (w.alloc (.cells (ol O).toArray 22)) :=
  ⟨mx O 256, mx_le O hO 256, mx_of O, max_any w.heap.size 0 256 256 O (w.alloc (.cells (ol O).toArray 22)) (by omega) (by omega) hO (us_block w O)⟩

set_option maxHeartbeats 1600000 in
set_option maxRecDepth 20000 in
theorem cols_any (O : Nat → Nat) (nv : Value) (n : Nat) (L : Nat → Nat) (X : Nat → Nat → Int) (w : World) (h0 : 0 < n) (hO : ∀ j, O j < 256) (hx : Nx w nv n L X) :
    Calls Try.prog 25 #[.agg (ol O).toArray, nv] w fun e w' => e = .returned (.bool (colsOk n O L)) ∧ Below w.heap.size w w' := by
  obtain ⟨ao, cap, rfl, hm, hcs⟩ := hx
  obtain ⟨b, o, rfl, hb, hc⟩ := hcs.resolve_left (by omega)
  clear hcs
  obtain ⟨q, hq, hmof, HM⟩ := max_of w O hO
  obtain ⟨l, HLL⟩ : ∃ l, Hid (ol O = l) := ⟨_, (rfl : ol O = ol O)⟩
  rw [HLL.out] at HM ⊢
  have B0 : Below w.heap.size w (w.alloc (Obj.cells l.toArray 22)) := (Below.refl _ _).alloc (Nat.le_refl _) _
  have HC : Hid (∀ i, i < n → ∃ a c, (w.alloc (Obj.cells l.toArray 22)).cell? ⟨b, o + i, none⟩ = some (.slice a (L i) c) ∧ L i ≤ 9223372036854775807) := fun i hi => by
    obtain ⟨u, g1, a, c, rfl, hl, -⟩ := hc i hi
    exact ⟨a, c, (B0.cell (p := ⟨b, o + i, none⟩) hb).trans g1, hl⟩
  have HO : Hid (∀ j, O j < 256) := hO
  obtain ⟨a0, cp0, c0, hl0⟩ := HC.out 0 h0
  rw [Nat.add_zero] at c0
  have hmw : (q : Int) < 256 := by omega
  have HMO : Hid (∀ c : Nat, decide ((q : Int) < (c : Int)) = ofOk O c) := hmof
  have HM' : Hid (Calls Try.prog 29 #[.slice (some ⟨w.heap.size, 0, none⟩) 256 256] (w.alloc (.cells l.toArray 22)) fun e w' => e = .returned (.int .u8 (q : Int)) ∧ w' = (w.alloc (.cells l.toArray 22))) := HM
  obtain ⟨l0, HL⟩ : ∃ l, Hid (L 0 = l) := ⟨_, (rfl : L 0 = L 0)⟩
  rw [HL.out] at c0 hl0
  clear hc hO HM hmof
  obtain ⟨wa, HW⟩ : ∃ wa, Hid (w.alloc (Obj.cells l.toArray 22) = wa) := ⟨_, (rfl : w.alloc _ = w.alloc _)⟩
  rw [HW.out] at HC HM' B0
  have h2 : (0 : Int) < (n : Int) := by omega
  go_enter Try.func25, Try.ntmps25
  go_wp2_with fail
  rw [HW.out] at c0
  go_loopw [14] (fun i wr => ∃ k : Nat, k ≤ n ∧ i = .int .i64 (k : Int) ∧ Hid (∀ i, i < k → decide (L i = L 0) = true) ∧ wr = wa) (fun i _ => n - (intOf i).toNat)
  case atStart => exact ⟨0, by omega, rfl, fun i hi => by omega, HW.out⟩
  case round =>
    obtain ⟨k, hk, rfl, HA, rfl⟩ := hrel
    by_cases hlt : k < n
    · obtain ⟨a1, cp1, c1, hl1⟩ := HC.out k hlt
      have hk0 : (0 : Int) ≤ (k : Int) := by omega
      have hk1 : (k : Int) < (n : Int) := by omega
      obtain ⟨l1, HL1⟩ : ∃ l, Hid (L k = l) := ⟨_, (rfl : L k = L k)⟩
      rw [HL1.out] at c1 hl1
      by_cases he : l1 = l0
      · have HE : Hid (l1 = l0) := he
        subst he
        have hbb : ((l1 : Int) != (l1 : Int)) = false := by simp
        go_wp2_with fail
        go_roundw
        case rel =>
          refine ⟨k + 1, by omega, by go_num, fun i hi => ?_, by trivial⟩
          by_cases e : i = k
          · subst e; rw [HL1.out, HL.out]; simp
          · exact HA.out i (by omega)
        case measure => simp [intOf]; omega
      · have hbb : ((l1 : Int) != (l0 : Int)) = true := by simp; omega
        have HE : Hid (¬ l1 = l0) := he
        clear he
        go_wp2_with fail
        go_ret
        refine ⟨?_, B0⟩
        rw [show colsOk n O L = false by unfold colsOk; rw [show lensOk n L = false from all_false hlt (by rw [HL1.out, HL.out]; simp; exact HE.out)]; rfl]
        rfl
    · have HA' : Hid (lensOk n L = true) := all_true fun i hi => HA.out i (by omega)
      by_cases h3 : l0 ≤ 256
      · have h3' : (l0 : Int) ≤ 256 := by omega
        have hwr : IntKind.i64.wrap (q : Int) = (q : Int) := wrap_small (by omega)
        go_wp2_with fail
        refine HM'.out.mono ?_
        rintro _ w1 ⟨rfl, rfl⟩
        go_wp2_with fail
        go_ret
        refine ⟨?_, B0⟩
        rw [show colsOk n O L = decide (q < l0) by unfold colsOk; rw [HA'.out, HL.out, ← HMO.out l0]; simp; intro _; exact h3]
        rfl
      · have h3' : ¬ ((l0 : Int) ≤ 256) := by omega
        go_wp2_with fail
        go_ret
        refine ⟨?_, B0⟩
        rw [show colsOk n O L = false by unfold colsOk; rw [HA'.out, HL.out]; simp [h3]]; rfl

/-- A packed automaton in its box. -/
structure Px (w0 : World) (g : Nat) (O : Nat → Nat) (nv tv : Value) (n m : Nat) (L : Nat → Nat) (X : Nat → Nat → Int) (T : Nat → Int) (l : List Value) (w : World) : Prop where
  c1 : w.cell? ⟨g, 256, none⟩ = some nv
  c2 : w.cell? ⟨g, 257, none⟩ = some tv
  of : ∀ j, j < 256 → w.cell? ⟨g, j, none⟩ = some (.int .u8 (O j : Int))
  all : w.rangeAt g 0 (pl O nv tv)
  cols : w.rangeAt g 0 (ol O)
  next : Nx w nv n L X
  tags : Ts w tv m T
  lt : g < w.heap.size
  below : Below w0.heap.size w0 w
theorem Px.box {w : World} {O : Nat → Nat} {nv tv : Value} {n m : Nat} {L : Nat → Nat} {X : Nat → Nat → Int} {T : Nat → Int} {l : List Value} (hl : pl O nv tv = l) (hx : Nx w nv n L X) (ht : Ts w tv m T) :
    Px w w.heap.size O nv tv n m L X T l (w.alloc (Obj.cells l.toArray 26)) := by
  have B0 : Below w.heap.size w (w.alloc (Obj.cells l.toArray 26)) := (Below.refl _ _).alloc (Nat.le_refl _) _
  have hr := range_block w l 26
  subst hl
  refine ⟨?_, ?_, ?_, hr, ?_, hx.below B0 (Nat.le_refl _), ht.below B0 (Nat.le_refl _), by simp, B0⟩
  · rw [cell_of_block, pl_next]
  · rw [cell_of_block, pl_tags]
  · intro j hj; rw [cell_of_block, pl_of _ _ _ j hj]
  · intro j v hv
    have hj : j < 256 := by have := (List.getElem?_eq_some_iff.1 hv).1; rwa [ol_length] at this
    rw [ol_at O j hj] at hv
    rw [Nat.zero_add, cell_of_block, pl_of _ _ _ j hj, hv]
theorem Px.step {w0 : World} {g : Nat} {O : Nat → Nat} {nv tv : Value} {n m : Nat} {L : Nat → Nat} {X : Nat → Nat → Int} {T : Nat → Int} {l : List Value} {w w' : World} (h : Px w0 g O nv tv n m L X T l w) (hb : Below w.heap.size w w') :
    Px w0 g O nv tv n m L X T l w' :=
  ⟨(hb.cell (p := ⟨g, 256, none⟩) h.lt).trans h.c1, (hb.cell (p := ⟨g, 257, none⟩) h.lt).trans h.c2, fun j hj => (hb.cell (p := ⟨g, j, none⟩) h.lt).trans (h.of j hj),
    fun j v hv => (hb.cell (p := ⟨g, 0 + j, none⟩) h.lt).trans (h.all j v hv), fun j v hv => (hb.cell (p := ⟨g, 0 + j, none⟩) h.lt).trans (h.cols j v hv),
    h.next.below hb (Nat.le_refl _), h.tags.below hb (Nat.le_refl _), Nat.lt_of_lt_of_le h.lt hb.size, h.below.trans (hb.mono h.below.size)⟩

set_option maxHeartbeats 1600000 in
set_option maxRecDepth 20000 in
theorem checkP_any (O : Nat → Nat) (nv tv : Value) (n m : Nat) (L : Nat → Nat) (X : Nat → Nat → Int) (T : Nat → Int) (w : World) (hO : ∀ j, O j < 256) (hx : Nx w nv n L X) (ht : Ts w tv m T) :
    Calls Try.prog 20 #[.agg (pl O nv tv).toArray] w fun e w' => e = .returned (.int .i64 (chkP n m O L X T)) ∧ Below w.heap.size w w' := by
  have HO : Hid (∀ j, O j < 256) := hO
  obtain ⟨l, HLL⟩ : ∃ l, Hid (pl O nv tv = l) := ⟨_, (rfl : pl O nv tv = pl O nv tv)⟩
  have HP : Hid (Px w w.heap.size O nv tv n m L X T l (w.alloc (Obj.cells l.toArray 26))) := Px.box HLL.out hx ht
  have HI : Hid ((w.alloc (Obj.cells l.toArray 26)).rangeAt w.heap.size 0 (ol O)) := HP.out.cols
  rw [HLL.out]
  obtain ⟨ao, cap, rfl, hn, -⟩ := hx
  obtain ⟨ao', cap', rfl, hm, hwf', -⟩ := ht
  clear hwf' hO
  have c1 := HP.out.c1
  have c2 := HP.out.c2
  go_enter Try.func20, Try.ntmps20
  by_cases h1 : 200 < n
  · have h1' : (200 : Int) < (n : Int) := by omega
    go_wp2_with fail
    go_ret
    exact ⟨by unfold chkP; rw [if_pos h1]; rfl, HP.out.below⟩
  · by_cases h2 : n = 0 ∨ m ≠ n
    · have E : Hid (chkP n m O L X T = 1) := by show _ = _; unfold chkP; rw [if_neg h1, if_pos h2]
      by_cases h3 : n = 0
      · subst h3
        go_wp2_with fail
        go_ret
        exact ⟨by rw [E.out]; rfl, HP.out.below⟩
      · have h4 : m ≠ n := by omega
        have h5 : ((m : Int) != (n : Int)) = true := by simp; omega
        have h6 : ((n : Int) == 0) = false := by simp; omega
        go_wp2_with fail
        go_ret
        exact ⟨by rw [E.out]; rfl, HP.out.below⟩
    · obtain rfl : m = n := by omega
      have h6 : ¬ ((m : Int) = 0) := by omega
      have hm0 : 0 < m := by omega
      have HQ := cols_any O (.slice ao m cap) m L X _ hm0 HO.out HP.out.next
      have E : Hid (chkP m m O L X T = if colsOk m O L = true ∧ statesOk m L X = true ∧ upOk m T 19 = true then 0 else 1) := by show _ = _; unfold chkP; rw [if_neg h1, if_neg h2]
      obtain ⟨l2, HL2⟩ : ∃ l, Hid (ol O = l) := ⟨_, (rfl : ol O = ol O)⟩
      rw [HL2.out] at HI HQ
      have hl2 : (Try.prog.info? 22).map (·.size) = some l2.length := by rw [← HL2.out, ol_length]; exact size22
      have HS : Hid ((Try.prog.info? 22).map (·.size) = some l2.length) := hl2
      have HQ' : Hid (Calls Try.prog 25 #[.agg l2.toArray, .slice ao m cap] (w.alloc (Obj.cells l.toArray 26)) fun e w' => e = .returned (.bool (colsOk m O L)) ∧ Below (w.alloc (Obj.cells l.toArray 26)).heap.size (w.alloc (Obj.cells l.toArray 26)) w') := HQ
      clear hl2 HQ
      go_wp2_with (refine wpList_load_mid rfl 22 _ rfl w.heap.size 0 rfl l2 _ HI.out Try.underlying22 rfl HS.out ?_)
      refine HQ'.out.mono ?_
      rintro _ w1 ⟨rfl, hb1⟩
      have HP1 : Hid (Px w w.heap.size O (.slice ao m cap) (.slice ao' m cap') m m L X T l w1) := HP.out.step hb1
      have d1 := HP1.out.c1
      have d2 := HP1.out.c2
      clear c1 c2 hb1 HQ' HI
      rcases hcs : colsOk m O L with _ | _
      · go_wp2_with fail
        go_ret
        exact ⟨by rw [E.out, hcs]; rfl, HP1.out.below⟩
      · go_wp2_with fail
        refine (states_any _ m L X w1 HP1.out.next).mono ?_
        rintro _ w2 ⟨rfl, rfl⟩
        rcases hss : statesOk m L X with _ | _
        · go_wp2_with fail
          go_ret
          exact ⟨by rw [E.out, hcs, hss]; rfl, HP1.out.below⟩
        · go_wp2_with fail
          refine (upTo_any _ m T 19 w2 HP1.out.tags).mono ?_
          rintro _ w3 ⟨rfl, rfl⟩
          rcases hts : upOk m T 19 with _ | _
          · go_wp2_with fail
            go_ret
            exact ⟨by rw [E.out, hcs, hss, hts]; rfl, HP1.out.below⟩
          · go_wp2_with fail
            go_ret
            exact ⟨by rw [E.out, hcs, hss, hts]; rfl, HP1.out.below⟩
end Go.Proofs.Ytcdnbkfjiigdmaa
