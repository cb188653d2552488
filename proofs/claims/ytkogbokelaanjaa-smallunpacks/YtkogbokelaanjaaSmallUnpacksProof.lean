/-
  SmallUnpacks returns true whatever packed automaton is handed in, and changes nothing that it was handed; no condition.
-/
import Derived.Test.YtkogbokelaanjaaRows
import Derived.WalkKit
import Derived.ProofKit
import Derived.OpenShut
import Derived.ShutString
import Derived.SizedLaws
import Derived.ChangeOld
import Derived.Below
import Derived.Carry
import Derived.WalkLawsBesides
import Derived.WalkSpells
import Derived.Test.YtkogbokelaanjaaOpens
import Derived.Test.YtkogbokelaanjaaPkEqs
namespace Go.Proofs.Ytkogbokelaanjaa.smallUnpacks
open Go.ChangeShapes Go.WideShapes Go.ChangeAt Go.RowKit
open Go.ChangeMaps (open_string shut_string)
open Dfa
set_option linter.unusedVariables false

theorem own : ownKnob Try.prog.godebug = none := by kernel_rfl
theorem laidOut : laidOutB Try.prog = true := by kernel_rfl
theorem rw_nil (w : World) : Rw w (.slice none 0 0) 0 (fun _ _ => 0) := ⟨none, 0, rfl, by omega, fun _ _ => by simp, Or.inl rfl⟩
theorem ts_nil (w : World) : Ts w (.slice none 0 0) 0 (fun _ => 0) := ⟨none, 0, rfl, by omega, fun _ => by simp, Or.inl rfl⟩
theorem Rw.same {w w' : World} {rv : Value} {n : Nat} {R : Nat → Nat → Int} (h : Rw w rv n R) (hs : ∀ q, rv.ownBlock = some q → w'.heap[q]? = w.heap[q]?) (hz : w.heap.size ≤ w'.heap.size) : Rw w' rv n R := by
  obtain ⟨ao, cap, rfl, hm, hw, h | ⟨b, o, rfl, h2, h3⟩⟩ := h
  · exact ⟨ao, cap, rfl, hm, hw, Or.inl h⟩
  · exact ⟨_, cap, rfl, hm, hw, Or.inr ⟨b, o, rfl, by omega, fun i hi j hj => (cell_same (hs b rfl) _).trans (h3 i hi j hj)⟩⟩

/-! ### The walk: the Go text returns true. -/
set_option maxHeartbeats 4000000 in
set_option maxRecDepth 20000 in
theorem walk (a0O : Nat → Nat) (a0p : Value) (a0t : Value) (a0n : Nat) (a0m : Nat) (a0L : Nat → Nat) (a0X : Nat → Nat → Int) (a0T : Nat → Int) (w : World) (w0o : ∀ j, a0O j < 256) (w0s : Nx w a0p a0n a0L a0X) (w0u : Ts w a0t a0m a0T) :
    Calls Try.prog 4 #[.agg (pl a0O a0p a0t).toArray] w fun e w' => e = .returned (.bool true) ∧ Below w.heap.size w w' := by
  obtain ⟨l, HLL⟩ : ∃ l, Hid (pl a0O a0p a0t = l) := ⟨_, (rfl : pl a0O a0p a0t = pl a0O a0p a0t)⟩
  have H0 : Hid (Px w w.heap.size a0O a0p a0t a0n a0m a0L a0X a0T l (w.alloc (Obj.cells l.toArray 29))) := Px.box HLL.out w0s w0u
  have HS : Hid ((Try.prog.info? 29).map (·.size) = some l.length) := by show _ = _; rw [← HLL.out, pl_length]; exact size29
  have HAL : Hid (∀ W, Px w w.heap.size a0O a0p a0t a0n a0m a0L a0X a0T l W → W.rangeAt w.heap.size 0 l) := fun W h => by have := h.all; rwa [HLL.out] at this
  obtain ⟨c, HC⟩ : ∃ c, Hid (chkP a0n a0m a0O a0L a0X a0T = c) := ⟨_, (rfl : chkP a0n a0m a0O a0L a0X a0T = chkP a0n a0m a0O a0L a0X a0T)⟩
  have HRI : Hid (∀ W, Px w w.heap.size a0O a0p a0t a0n a0m a0L a0X a0T l W → Calls Try.prog 9 #[.agg l.toArray] W fun e w' => e = .returned (.int .i64 c) ∧ Below W.heap.size W w') := fun W h => by have := rightP_any a0O a0p a0t a0n a0m a0L a0X a0T W w0o h.next h.tags; rwa [HLL.out, HC.out] at this
  have HCH : Hid (∀ W, Px w w.heap.size a0O a0p a0t a0n a0m a0L a0X a0T l W → Calls Try.prog 12 #[.agg l.toArray] W fun e w' => e = .returned (.int .i64 c) ∧ Below W.heap.size W w') := fun W h => by have := checkP_any a0O a0p a0t a0n a0m a0L a0X a0T W w0o h.next h.tags; rwa [HLL.out, HC.out] at this
  rw [HLL.out]
  have hcc : (c == c) = true := by simp
  by_cases h0 : c = 0
  · subst h0
    obtain ⟨-, -, hmn, -⟩ := chkP_zero HC.out
    have hmn2 := hmn.symm
    subst hmn2
    have HUN : Hid (∀ W, Px w w.heap.size a0O a0p a0t a0n a0n a0L a0X a0T l W → Calls Try.prog 10 #[.agg l.toArray] W fun e w' => ∃ rv tv', e = .returned (.tuple #[.agg #[rv, tv'], .int .i64 0]) ∧ Rw w' rv a0n (fun i j => if i < a0n ∧ j < 256 then a0X i (a0O j) else 0) ∧ Ts w' tv' a0n a0T ∧ Below W.heap.size W w') := fun W h => by have := unpack_ok a0O a0p a0t a0n a0L a0X a0T W w0o h.next h.tags HC.out; rwa [HLL.out] at this
    have HWI : Hid (∀ W, Px w w.heap.size a0O a0p a0t a0n a0n a0L a0X a0T l W → Calls Try.prog 11 #[.agg l.toArray] W fun e w' => ∃ rv, e = .returned (.agg #[rv, a0t]) ∧ Rw w' rv a0n (fun i j => if i < a0n ∧ j < 256 then a0X i (a0O j) else 0) ∧ (∀ q, rv.ownBlock = some q → W.heap.size ≤ q) ∧ Below W.heap.size W w') := fun W h => by have := wide_ok a0O a0p a0t a0n a0L a0X a0T W h.next h.tags HC.out; rwa [HLL.out] at this
    have HX0 : Hid (Nx w a0p a0n a0L a0X) := w0s
    have HT0 : Hid (Ts w a0t a0n a0T) := w0u
    obtain ⟨ta, tc, rfl, -⟩ := w0u
    clear w0s w0o HLL
    go_enter Try.func4, Try.ntmps4
    go_wp2_with (refine wpList_load_mid rfl 29 _ rfl w.heap.size 0 rfl l _ (HAL.out _ H0.out) Try.underlying29 rfl HS.out ?_)
    refine (HRI.out _ H0.out).mono ?_
    rintro _ w1 ⟨rfl, hb⟩
    have H1 : Hid (Px w w.heap.size a0O a0p (.slice ta a0n tc) a0n a0n a0L a0X a0T l w1) := H0.out.step hb
    clear hb H0
    go_wp2_with (refine wpList_load_mid rfl 29 _ rfl w.heap.size 0 rfl l _ (HAL.out _ H1.out) Try.underlying29 rfl HS.out ?_)
    refine (HUN.out _ H1.out).mono ?_
    rintro _ w2 ⟨rv, tv2, rfl, hR, hT, hb⟩
    have H2 : Hid (Px w w.heap.size a0O a0p (.slice ta a0n tc) a0n a0n a0L a0X a0T l w2) := H1.out.step hb
    have HR2 : Hid (Rw w2 rv a0n (fun i j => if i < a0n ∧ j < 256 then a0X i (a0O j) else 0)) := hR
    have HT2 : Hid (Ts w2 tv2 a0n a0T) := hT
    obtain ⟨ra, rc, rfl, -⟩ := hR
    obtain ⟨ua, uc, rfl, -⟩ := hT
    clear hb H1
    have HBA : Hid (Below w2.heap.size w2 ((w2.alloc (Obj.cells #[Value.slice ra a0n rc, Value.slice ua a0n uc] 25)).alloc (Obj.cells #[Value.slice none 0 0, Value.slice none 0 0] 25))) := ((Below.refl _ w2).alloc (Nat.le_refl _) _).alloc (by simp) _
    have H3 : Hid (Px w w.heap.size a0O a0p (.slice ta a0n tc) a0n a0n a0L a0X a0T l ((w2.alloc (Obj.cells #[Value.slice ra a0n rc, Value.slice ua a0n uc] 25)).alloc (Obj.cells #[Value.slice none 0 0, Value.slice none 0 0] 25))) := H2.out.step HBA.out
    go_wp2_with (refine wpList_load_mid rfl 29 _ rfl w.heap.size 0 rfl l _ (HAL.out _ H3.out) Try.underlying29 rfl HS.out ?_)
    refine (HWI.out _ H3.out).mono ?_
    rintro _ w3 ⟨rv2, rfl, hR, hfr, hb⟩
    have H4 : Hid (Px w w.heap.size a0O a0p (.slice ta a0n tc) a0n a0n a0L a0X a0T l w3) := H3.out.step hb
    have HR3 : Hid (Rw w3 rv2 a0n (fun i j => if i < a0n ∧ j < 256 then a0X i (a0O j) else 0)) := hR
    have HFR : Hid (∀ q, rv2.ownBlock = some q → w2.heap.size + 2 ≤ q) := fun q hq => by have := hfr q hq; simpa using this
    have HB3 : Hid (Below w2.heap.size w2 w3) := HBA.out.trans (hb.mono (by simp; omega))
    have HRW : Hid (w3.rowIs (w2.heap.size + 1) 25 2 (fun i => if i = 0 then .slice none 0 0 else .slice none 0 0)) := by
      have h2 := row_two (w2.alloc (Obj.cells #[Value.slice ra a0n rc, Value.slice ua a0n uc] 25)) (.slice none 0 0) (.slice none 0 0)
      have h3 := h2.of_block (hb.block _ h2.lt)
      have e : (w2.alloc (Obj.cells #[Value.slice ra a0n rc, Value.slice ua a0n uc] 25)).heap.size = w2.heap.size + 1 := by simp
      rw [e] at h3
      exact h3
    have HRV : Hid (w3.rowIs w2.heap.size 25 2 (fun i => if i = 0 then .slice ra a0n rc else .slice ua a0n uc)) := by
      have h2 := (row_two w2 (.slice ra a0n rc) (.slice ua a0n uc)).alloc (Obj.cells #[Value.slice none 0 0, Value.slice none 0 0] 25)
      exact h2.of_block (hb.block _ h2.lt)
    obtain ⟨sa, sc, rfl, -⟩ := hR
    have hlt2 : w2.heap.size + 2 ≤ w3.heap.size := by have := hb.size; simpa using this
    clear hb hfr H3 HBA
    have x0 := HRW.out.cell (i := 0) (by omega)
    have x1 := HRW.out.cell (i := 1) (by omega)
    simp only [if_true] at x0
    rw [if_neg (by omega)] at x1
    have x2 := HRW.out.frozen 0
    have x3 := HRW.out.frozen 1
    have hgw : w.heap.size < w2.heap.size := H2.out.lt
    have HSM := same_two w3 (w2.heap.size + 1) (.slice sa a0n sc) (.slice ta a0n tc)
    have H5 : Hid (Px w w.heap.size a0O a0p (.slice ta a0n tc) a0n a0n a0L a0X a0T l ((w3.setCell ⟨w2.heap.size + 1, 0, none⟩ (.slice sa a0n sc)).setCell ⟨w2.heap.size + 1, 1, none⟩ (.slice ta a0n tc))) := H4.out.set HX0.out HT0.out HSM (by omega) (by omega)
    have HR5 : Hid (Rw ((w3.setCell ⟨w2.heap.size + 1, 0, none⟩ (.slice sa a0n sc)).setCell ⟨w2.heap.size + 1, 1, none⟩ (.slice ta a0n tc)) (.slice sa a0n sc) a0n (fun i j => if i < a0n ∧ j < 256 then a0X i (a0O j) else 0)) := Rw.same HR3.out (fun q hq => HSM.2.2.2.2 q (by have := HFR.out q hq; omega)) (by rw [HSM.1]; exact Nat.le_refl _)
    have HB5 : Hid (Below w2.heap.size w2 ((w3.setCell ⟨w2.heap.size + 1, 0, none⟩ (.slice sa a0n sc)).setCell ⟨w2.heap.size + 1, 1, none⟩ (.slice ta a0n tc))) := (HB3.out.setCell (by simp) _).setCell (by simp) _
    have HRW5 : Hid ((((w3.setCell ⟨w2.heap.size + 1, 0, none⟩ (.slice sa a0n sc)).setCell ⟨w2.heap.size + 1, 1, none⟩ (.slice ta a0n tc))).rowIs (w2.heap.size + 1) 25 2 (fun i => if i = 0 then .slice sa a0n sc else .slice ta a0n tc)) := row_two_set HRW.out _ _
    have HRV5 : Hid ((((w3.setCell ⟨w2.heap.size + 1, 0, none⟩ (.slice sa a0n sc)).setCell ⟨w2.heap.size + 1, 1, none⟩ (.slice ta a0n tc))).rowIs w2.heap.size 25 2 (fun i => if i = 0 then .slice ra a0n rc else .slice ua a0n uc)) := HRV.out.of_block (HSM.2.2.2.2 _ (by omega))
    clear HSM HRW HRV HB3 HR3 H4 HFR
    go_wp2_with (refine wpList_load_mid rfl 29 _ rfl w.heap.size 0 rfl l _ (HAL.out _ H5.out) Try.underlying29 rfl HS.out ?_)
    refine (HCH.out _ H5.out).mono ?_
    rintro _ w5 ⟨rfl, hb⟩
    have B5 : Below w.heap.size w w5 := (H5.out.step hb).below
    have z0 := (hb.cell (p := ⟨w2.heap.size, 0, none⟩) HRV5.out.lt).trans (HRV5.out.cell (i := 0) (by omega))
    have z1 := (hb.cell (p := ⟨w2.heap.size, 1, none⟩) HRV5.out.lt).trans (HRV5.out.cell (i := 1) (by omega))
    have z2 := (hb.cell (p := ⟨w2.heap.size + 1, 0, none⟩) HRW5.out.lt).trans (HRW5.out.cell (i := 0) (by omega))
    have z3 := (hb.cell (p := ⟨w2.heap.size + 1, 1, none⟩) HRW5.out.lt).trans (HRW5.out.cell (i := 1) (by omega))
    simp only [if_true] at z0 z2
    rw [if_neg (by omega)] at z1 z3
    have B25 : Below w2.heap.size w2 w5 := HB5.out.trans (hb.mono HB5.out.size)
    have HSD := sameDfa_any _ _ _ _ a0n a0n a0n a0n _ _ a0T a0T w5 (HR2.out.below B25 (Nat.le_refl _)) (HT2.out.below B25 (Nat.le_refl _)) (HR5.out.below hb (Nat.le_refl _)) (HT0.out.below B5 (Nat.le_refl _))
    rw [eqR_refl a0n _ _ (fun _ _ _ _ => rfl), eqT_refl a0n _ _ (fun _ _ => rfl)] at HSD
    have HSD' : Hid (Calls Try.prog 13 #[.agg #[.slice ra a0n rc, .slice ua a0n uc], .agg #[.slice sa a0n sc, .slice ta a0n tc]] w5 fun e w' => e = .returned (.bool (true && true)) ∧ Below w5.heap.size w5 w') := HSD
    clear hb HSD x0 x1 x2 x3 HRW5 HRV5 HR5 HB5 H5 B25
    go_wp2_with fail
    refine HSD'.out.mono ?_
    rintro _ w6 ⟨rfl, hb⟩
    have B6 : Below w.heap.size w w6 := B5.trans (hb.mono B5.size)
    clear hb HSD'
    go_wp2_with fail
    go_ret
    exact ⟨rfl, B6⟩
  · have HUN : Hid (∀ W, Px w w.heap.size a0O a0p a0t a0n a0m a0L a0X a0T l W → Calls Try.prog 10 #[.agg l.toArray] W fun e w' => e = .returned (.tuple #[.agg #[.slice none 0 0, .slice none 0 0], .int .i64 c]) ∧ Below W.heap.size W w') := fun W h => by have := unpack_bad a0O a0p a0t a0n a0m a0L a0X a0T W w0o h.next h.tags (by rw [HC.out]; exact h0); rwa [HLL.out, HC.out] at this
    have hb0 : (c == 0) = false := by simp; exact h0
    clear w0s w0o w0u HLL h0
    go_enter Try.func4, Try.ntmps4
    go_wp2_with (refine wpList_load_mid rfl 29 _ rfl w.heap.size 0 rfl l _ (HAL.out _ H0.out) Try.underlying29 rfl HS.out ?_)
    refine (HRI.out _ H0.out).mono ?_
    rintro _ w1 ⟨rfl, hb⟩
    have H1 : Hid (Px w w.heap.size a0O a0p a0t a0n a0m a0L a0X a0T l w1) := H0.out.step hb
    clear hb H0
    go_wp2_with (refine wpList_load_mid rfl 29 _ rfl w.heap.size 0 rfl l _ (HAL.out _ H1.out) Try.underlying29 rfl HS.out ?_)
    refine (HUN.out _ H1.out).mono ?_
    rintro _ w2 ⟨rfl, hb⟩
    have H2 : Hid (Px w w.heap.size a0O a0p a0t a0n a0m a0L a0X a0T l w2) := H1.out.step hb
    clear hb H1
    have H3 : Hid (Px w w.heap.size a0O a0p a0t a0n a0m a0L a0X a0T l ((w2.alloc (Obj.cells #[Value.slice none 0 0, Value.slice none 0 0] 25)).alloc (Obj.cells #[Value.slice none 0 0, Value.slice none 0 0] 25))) := H2.out.step (((Below.refl _ w2).alloc (Nat.le_refl _) _).alloc (by simp) _)
    go_wp2_with (refine wpList_load_mid rfl 29 _ rfl w.heap.size 0 rfl l _ (HAL.out _ H3.out) Try.underlying29 rfl HS.out ?_)
    refine (HCH.out _ H3.out).mono ?_
    rintro _ w5 ⟨rfl, hb⟩
    have B5 : Below w.heap.size w w5 := (H3.out.step hb).below
    have z0 : w5.cell? ⟨w2.heap.size, 0, none⟩ = some (.slice none 0 0) := (hb.cell (by simp; omega)).trans (by simp)
    have z1 : w5.cell? ⟨w2.heap.size, 1, none⟩ = some (.slice none 0 0) := (hb.cell (by simp; omega)).trans (by simp)
    have z2 : w5.cell? ⟨w2.heap.size + 1, 0, none⟩ = some (.slice none 0 0) := (hb.cell (by simp)).trans (by simp)
    have z3 : w5.cell? ⟨w2.heap.size + 1, 1, none⟩ = some (.slice none 0 0) := (hb.cell (by simp)).trans (by simp)
    have HSD := sameDfa_any (.slice none 0 0) (.slice none 0 0) (.slice none 0 0) (.slice none 0 0) 0 0 0 0 (fun _ _ => 0) (fun _ _ => 0) (fun _ => 0) (fun _ => 0) w5 (rw_nil w5) (ts_nil w5) (rw_nil w5) (ts_nil w5)
    rw [eqR_refl 0 _ _ (fun _ _ _ _ => rfl), eqT_refl 0 _ _ (fun _ _ => rfl)] at HSD
    have HSD' : Hid (Calls Try.prog 13 #[.agg #[.slice none 0 0, .slice none 0 0], .agg #[.slice none 0 0, .slice none 0 0]] w5 fun e w' => e = .returned (.bool (true && true)) ∧ Below w5.heap.size w5 w') := HSD
    clear hb HSD
    go_wp2_with fail
    refine HSD'.out.mono ?_
    rintro _ w6 ⟨rfl, hb⟩
    have B6 : Below w.heap.size w w6 := B5.trans (hb.mono B5.size)
    clear hb HSD'
    go_wp2_with fail
    go_ret
    exact ⟨rfl, B6⟩

/-! ### What the walk gives, for every argument -/
set_option maxRecDepth 100000 in
theorem contract (H : Type) (enc : TypeId × Value → H) (W : World) (base : Nat) (args : Array Value) (ds gs : List (DataW H)) (before : List MemPlace)
    (hval : ∀ (j : Nat) t v, Try.f4.params[j]? = some t → args[j]? = some v → Value.okWide Try.prog W .any base t v)
    (hW : DataW.Whole enc Try.prog Try.f4.params.toList Rows.smallUnpacksSpec.vars false W args.toList ds gs before) (hsz : (DataW.weightsEach Try.prog (Try.f4.params.toList ++ Rows.smallUnpacksSpec.plain.varTypes Try.prog) (ds ++ gs)).all (· ≤ reachBytes) = true) :
    Calls Try.prog 4 args W fun e W' => ∃ v, e = .returned v ∧ Rows.smallUnpacksSpec.post enc Try.prog Try.f4 false true false false W args v W' := by
  have hW' := hW
  obtain ⟨p, q, hA0, hV, rfl, hfz, hnd⟩ := hW
  have hA : DataW.TrodAll enc Try.prog W 0 (fun _ => true) true Try.f4.params.toList args.toList ds p := hA0
  rw [Try.params4] at hA hval hsz
  obtain ⟨v0, vs0, d0, ds0, p0, q0, hargs, rfl, rfl, h0, r0⟩ := trodAll_cons hA
  obtain ⟨rfl, rfl, rfl⟩ := trodAll_nil r0
  obtain rfl : args = #[v0] := by cases args; simp_all
  obtain ⟨rfl, rfl⟩ := trodVars_none hV
  have k0 := h0
  have lt0 : ∀ x ∈ p0, x.block < W.heap.size := by obtain ⟨m, hm⟩ := k0; exact DataW.trod_lt m _ _ _ hm
  obtain ⟨a0O, a0p, a0t, a0n, a0m, a0L, a0X, a0T, rfl, w0o, w0s, w0u⟩ := open_packed (hval 0 29 v0 rfl rfl) h0
  clear hA0
  refine (walk a0O a0p a0t a0n a0m a0L a0X a0T W w0o w0s w0u).mono fun e W' ⟨he, bel⟩ => ?_
  subst he
  exact ⟨_, rfl, _, _, _, [], _, [], hW', trodAll_mk1 (shut_bool Try.underlying4 _), (trodAll_cons_mk (Below.trod laidOut (by kernel_rfl) (of_decide_eq_true (by kernel_rfl)) k0 bel lt0) trodAll_mk0), rfl, bel.frame _, fun h => by cases h⟩

/-! ### The row's step -/
set_option maxRecDepth 100000 in
theorem lifted (os : Os) (started : os.Started) (H : Type) (enc : TypeId × Value → H) :
    ReturnsInHanded {} Try.checked os 4 .any (Rows.smallUnpacksSpec.pre6 enc Try.prog Try.f4 Rows.smallUnpacksRow.domain false) (Rows.smallUnpacksSpec.post enc Try.prog Try.f4 false true false false) := by
  refine returnsInHanded_of_change_sized (C := Try.checked) own started (by kernel_rfl) Try.func4
    (ChangeSpec.witness6 (enc := enc) (C := Try.checked) false ⟨#[], #[.agg (Array.replicate 256 (.int .u8 0) ++ #[.slice none 0 0, .slice none 0 0])], []⟩ 8 (by kernel_rfl) (by kernel_rfl) (by kernel_rfl) (by kernel_rfl)) ?_
  intro W base args ds gs before hval hW hcnd hsz _
  exact contract H enc W base args ds gs before hval hW hsz

theorem over : Rows.smallUnpacksRow.holds Try.pinned (OpenSpec.ofChange Rows.smallUnpacksSpec) :=
  OpenClaim.holds_of_wide 4 Try.f4 rfl rfl rfl rfl rfl rfl rfl ⟨rfl, rfl, rfl, rfl, rfl⟩ rfl rfl rfl rfl rfl (by kernel_rfl) Try.func4 (by kernel_rfl)
    (of_decide_eq_true (by kernel_rfl)) (by unfold Func.isWrapper; first | (rw [if_pos (by decide +kernel)]; kernel_rfl) | (rw [if_neg (by decide +kernel)]; exact ⟨rfl, rfl⟩))
    (fun os started H enc _ => lifted os started H enc)

end Go.Proofs.Ytkogbokelaanjaa.smallUnpacks
namespace Go.Proofs.Ytkogbokelaanjaa
/-- The given statement. -/
theorem smallUnpacks_holds : Rows.SmallUnpacksSaid := smallUnpacks.over
#print axioms smallUnpacks_holds
end Go.Proofs.Ytkogbokelaanjaa
