/-
  CfgBack returns true whatever grammar is handed in, and changes nothing that it was handed; what the listed variables of the library hold is what the program lays (the card ties them); no other condition.
-/
import Derived.Test.YtgoafahglajfmaaDoorLift
import Derived.Test.YtgoafahglajfmaaDoorCards
import Derived.Test.YtgoafahglajfmaaDoorTie
import Derived.OpenShut
import Derived.ShutString
import Derived.SizedLaws
import Derived.ChangeOld
import Derived.Below
import Derived.Carry
import Derived.WalkLawsBesides
import Derived.WalkSpells
import Derived.SevenTiedAt
import Derived.Test.YtgoafahglajfmaaDoorOpens
import Derived.Test.YtgoafahglajfmaaDoorRead
import Derived.Test.YtgoafahglajfmaaDoorTxBack
import Derived.Test.YtgoafahglajfmaaDoorBrackets
namespace Go.Proofs.YtgoafahglajfmaaDoor.cfgBack
open Go.ChangeShapes Go.WideShapes Go.ChangeAt Go.RowKit
open Go.ChangeMaps (open_string shut_string)
open Cg
set_option linter.unusedVariables false

/-! ### The walk: the Go text returns true. -/
set_option maxHeartbeats 8000000 in
set_option maxRecDepth 20000 in
theorem walk (a0t : Int) (a0n : Int) (a0s : Value) (a0p : List Pd) (w : World) (w0s : Pds w a0s a0p) (hmx : ∃ m, w.cell? ⟨0, 0, none⟩ = some (.int .i64 m)) :
    Calls Tryd.prog 4 #[.agg #[.int .i64 a0t, .int .i64 a0n, a0s]] w fun e w' => e = .returned (.bool true) ∧ Below w.heap.size w w' := by
  have HG0 : Hid (Gb w w.heap.size a0t a0n a0s a0p (w.alloc (Obj.cells #[.int .i64 a0t, .int .i64 a0n, a0s] 24))) := Gb.box w0s a0t a0n
  have HM : Hid (Mx w) := hmx
  obtain ⟨ao, c, rfl, hm, hcs⟩ := w0s
  revert HG0 hm hcs
  generalize a0t = t
  generalize a0n = n
  generalize a0p = ps
  intro HG0 hm hcs
  have HBC : Hid (chk 2 1 brs = 0) := by show _ = _; decide
  have HBT : Hid ((⟨(text 2 1 brs).toArray⟩ : ByteArray) = ⟨#[50, 32, 49, 10, 48, 58, 10, 48, 58, 32, 116, 48, 32, 110, 48, 32, 116, 49, 32, 110, 48, 10]⟩) := by
    show _ = _
    have e0 : Go.Lib.decDigits 0 = [48] := Go.Lib.decDigits_one (by omega)
    have e1 : Go.Lib.decDigits 1 = [49] := Go.Lib.decDigits_one (by omega)
    have e2 : Go.Lib.decDigits 2 = [50] := Go.Lib.decDigits_one (by omega)
    have : text 2 1 brs = [50, 32, 49, 10, 48, 58, 10, 48, 58, 32, 116, 48, 32, 110, 48, 32, 116, 49, 32, 110, 48, 10] := by
      unfold text brs prodT bodyT symT
      simp [e0, e1, e2]
    rw [this]
  obtain ⟨r, HR⟩ : ∃ r, Hid (chk t n ps = r) := ⟨_, (rfl : chk t n ps = chk t n ps)⟩
  clear hmx
  go_enter Tryd.func4, Tryd.ntmps4
  go_wp2_with fail
  refine (brackets_any _).mono ?_
  rintro _ w1 ⟨g, rfl, hpd, hb⟩
  have HG1 : Hid (Gb w w.heap.size t n (.slice ao ps.length c) ps w1) := HG0.out.next hb
  have HPB : Hid (Pds w1 (.slice (some ⟨g, 0, none⟩) 2 2) brs) := hpd
  clear hb hpd HG0
  go_wp2_with fail
  have hc := Write_ok 2 1 _ brs _ HPB.out HBC.out
  rw [HBT.out] at hc
  refine hc.mono ?_
  rintro _ w2 ⟨rfl, hb⟩
  have HG2 : Hid (Gb w w.heap.size t n (.slice ao ps.length c) ps w2) := HG1.out.next hb
  clear hb hc HG1 HPB
  have z0 := HG2.out.c0
  have z1 := HG2.out.c1
  have z2 := HG2.out.c2
  go_wp2_with fail
  clear z0 z1 z2
  by_cases h0 : r = 0
  · subst h0
    have hc := Write_ok t n _ ps _ HG2.out.pds HR.out
    obtain ⟨tx, HTX⟩ : ∃ tx : ByteArray, Hid ((⟨(text t n ps).toArray⟩ : ByteArray) = tx) := ⟨_, (rfl : (⟨(text t n ps).toArray⟩ : ByteArray) = ⟨(text t n ps).toArray⟩)⟩
    have HRT : Hid (readR tx.data.toList = (⟨t, n, ps⟩, 0, 0)) := by show _ = _; rw [← HTX.out]; exact read_text HR.out
    rw [HTX.out] at hc
    refine hc.mono ?_
    rintro _ w3 ⟨rfl, hb⟩
    have HG3 : Hid (Gb w w.heap.size t n (.slice ao ps.length c) ps w3) := HG2.out.next hb
    clear hb hc HG2
    go_wp2_with fail
    refine (Read_any tx w3 (HM.out.below HG3.out.below) t n ps 0 0 HRT.out).mono ?_
    rintro _ w4 ⟨a2, c2, rfl, hpd, hb⟩
    have HG4 : Hid (Gb w w.heap.size t n (.slice ao ps.length c) ps (w4.alloc (Obj.cells #[.int .i64 t, .int .i64 n, .slice a2 ps.length c2] 24))) := (HG3.out.next hb).next (below_alloc _ _)
    have HP4 : Hid (Pds (w4.alloc (Obj.cells #[.int .i64 t, .int .i64 n, .slice a2 ps.length c2] 24)) (.slice a2 ps.length c2) ps) := hpd.below (below_alloc _ _)
    clear hb hpd HG3
    have z0 := HG4.out.c0
    have z1 := HG4.out.c1
    have z2 := HG4.out.c2
    go_wp2_with fail
    clear z0 z1 z2
    refine (same_true t n _ _ ps _ HG4.out.pds HP4.out).mono ?_
    rintro _ w5 ⟨rfl, hb⟩
    have HB5 : Hid (Below w.heap.size w w5) := (HG4.out.next hb).below
    clear hb HG4 HP4
    go_wp2_with fail
    go_ret
    exact ⟨by simp, HB5.out⟩
  · have h0b : (r != 0) = true := by simp; exact h0
    have hrr : (r == r) = true := by simp
    refine (Write_bad t n _ ps _ HG2.out.pds r HR.out h0).mono ?_
    rintro _ w3 ⟨rfl, hb⟩
    have HG3 : Hid (Gb w w.heap.size t n (.slice ao ps.length c) ps w3) := HG2.out.next hb
    clear hb HG2 h0
    have z0 := HG3.out.c0
    have z1 := HG3.out.c1
    have z2 := HG3.out.c2
    go_wp2_with fail
    clear z0 z1 z2
    have hc := Check_any t n _ ps _ HG3.out.pds
    rw [HR.out] at hc
    refine hc.mono ?_
    rintro _ w4 ⟨rfl, hb⟩
    have HB4 : Hid (Below w.heap.size w w4) := (HG3.out.next hb).below
    clear hc hb HG3
    go_wp2_with fail
    go_ret
    exact ⟨by simp, HB4.out⟩

/-! ### The row's step -/
set_option maxRecDepth 100000 in
theorem lifted (os : Os) (started : os.Started) (H : Type) (enc : TypeId × Value → H) :
    ReturnsInHanded {} Tryd.checked os 4 .any (fun w args => (Rows.cfgBackSpec.pre enc Tryd.prog Tryd.f4 [] false w args ∧ laidMetH Tryd.prog Rows.cfgBackRow.laid w) ∧ sizedMet enc Tryd.prog Tryd.f4 (OpenSpec.ofChange Rows.cfgBackSpec) false w args) (Rows.cfgBackSpec.post enc Tryd.prog Tryd.f4 false true false false) := by
  refine handed_of_change_and_shaped (C := Tryd.checked) (X := fun w _ => laidMetH Tryd.prog Rows.cfgBackRow.laid w) own started (by kernel_rfl) Tryd.func4
    (ChangeSpec.witness_shaped (enc := enc) (C := Tryd.checked) (os := os) (X := fun w _ => laidMetH Tryd.prog Rows.cfgBackRow.laid w) false (World.laidAll Tryd.prog os Rows.cfgBackRow.laid) #[.agg #[.int .i64 0, .int .i64 0, .slice none 0 0]] 8 (World.laidAll_os _ _ _)
      (World.shaped_of_ZipB (by kernel_rfl) (by kernel_rfl)) (by kernel_rfl) (by kernel_rfl) (by kernel_rfl)
      (by rw [MakeChecks.laidMetH_plain _ _ _ (by kernel_rfl)]; exact laidMet_laidAll _ (by kernel_rfl) (by kernel_rfl))) ?_
  intro W base args ds gs before hval0 hW hsz hsh
  have hval : ∀ (j : Nat) t v, Tryd.f4.params[j]? = some t → args[j]? = some v → Value.okWide Tryd.prog W .any base t v := hval0
  have hW' := hW
  obtain ⟨p, q, hA0, hV, rfl, hfz, hnd⟩ := hW
  have hA : DataW.TrodAll enc Tryd.prog W 0 (fun _ => true) true Tryd.f4.params.toList args.toList ds p := hA0
  change (DataW.weightsEach Tryd.prog (Tryd.f4.params.toList ++ Rows.cfgBackSpec.plain.varTypes Tryd.prog) (ds ++ gs)).all (· ≤ reachBytes) = true at hsz
  rw [Tryd.params4] at hA hval hsz
  obtain ⟨v0, vs0, d0, ds0, p0, q0, hargs, rfl, rfl, h0, r0⟩ := trodAll_cons hA
  obtain ⟨rfl, rfl, rfl⟩ := trodAll_nil r0
  obtain rfl : args = #[v0] := by cases args; simp_all
  obtain ⟨rfl, rfl⟩ := trodVars_none hV
  have k0 := h0
  have lt0 : ∀ x ∈ p0, x.block < W.heap.size := by obtain ⟨m, hm⟩ := k0; exact DataW.trod_lt m _ _ _ hm
  obtain ⟨a0t, a0n, a0s, a0p, rfl, w0s⟩ := open_gram (hval 0 24 v0 rfl rfl) h0
  clear hA0 hval0
  refine (walk a0t a0n a0s a0p W w0s (maxLen_cell hsh)).mono fun e W' ⟨he, bel⟩ => ?_
  subst he
  exact ⟨_, rfl, _, _, _, [], _, [], hW', trodAll_mk1 (shut_bool Tryd.underlying4 _), (trodAll_cons_mk (Below.trod laidOut (by kernel_rfl) (of_decide_eq_true (by kernel_rfl)) k0 bel lt0) trodAll_mk0), rfl, bel.frame _, fun h => by cases h⟩

theorem over : Rows.cfgBackRow.holds Tryd.pinned (OpenSpec.ofChange Rows.cfgBackSpec) :=
  OpenClaim.holds_of_wide 4 Tryd.f4 rfl rfl rfl rfl rfl rfl rfl ⟨rfl, rfl, rfl, rfl, rfl⟩ rfl rfl rfl rfl rfl (by kernel_rfl) Tryd.func4 (by kernel_rfl)
    (of_decide_eq_true (by kernel_rfl)) (by unfold Func.isWrapper; first | (rw [if_pos (by decide +kernel)]; kernel_rfl) | (rw [if_neg (by decide +kernel)]; exact ⟨rfl, rfl⟩))
    (fun os started H enc _ => lifted os started H enc)
end Go.Proofs.YtgoafahglajfmaaDoor.cfgBack
namespace Go.Proofs.YtgoafahglajfmaaDoor
open Go
/-- The given statement. -/
theorem cfgBack_card : Rows.CfgBackCardSaid :=
  Claim7.holds_tied_plain_at .later [] [.data, .data, .data, .data, .pinned] true (true, "499744621ff4726611782f20068178ffe3b83ec6480a1ef01c172ed9ea8096f7") false cfgBack.over (fun _ h => by cases h) (by kernel_rfl) (fun _ h => by cases h) cfgBack_row_tie rfl ⟨rfl, rfl⟩ (by kernel_rfl) rfl
    (fun f fn hf hfn => by
      obtain rfl : f = 4 := Option.some.inj ((show Tryd.prog.funcNamed "pushmill/pushkeep.CfgBack" = some 4 by kernel_rfl).symm.trans hf) |>.symm
      obtain rfl : fn = Tryd.f4 := (Option.some.inj (Tryd.func4.symm.trans hfn)).symm
      exact ⟨by kernel_rfl, fun j t ht => by
        rw [Tryd.params4] at ht
        have hm : t ∈ [24] := by simpa using Array.mem_of_getElem? ht
        simp only [List.mem_cons, List.mem_nil_iff, or_false] at hm
        rcases hm with rfl
        · exact (show Tryd.prog.wantsStandIn 24 = false by kernel_rfl)⟩)
    (by kernel_rfl)
#print axioms cfgBack_card
end Go.Proofs.YtgoafahglajfmaaDoor
