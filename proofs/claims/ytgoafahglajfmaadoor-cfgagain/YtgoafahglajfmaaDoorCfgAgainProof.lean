/-
  CfgAgain returns true whatever text is handed in, and changes nothing that it was handed; what the listed variables of the library hold is what the program lays (the card ties them); no other condition.
-/
import Derived.Test.YtgoafahglajfmaaDoorLift
import Derived.Test.YtgoafahglajfmaaDoorCards
import Derived.Test.YtgoafahglajfmaaDoorTie
import Derived.OpenShut
import Derived.ShutString
import Derived.SizedLaws
import Derived.ChangeOld
import Derived.Below
import Derived.Carry
import Derived.WalkLawsBesides
import Derived.WalkSpells
import Derived.SevenTiedAt
import Derived.Test.YtgoafahglajfmaaDoorOpens
import Derived.Test.YtgoafahglajfmaaDoorRead
import Derived.Test.YtgoafahglajfmaaDoorTxBack
namespace Go.Proofs.YtgoafahglajfmaaDoor.cfgAgain
open Go.ChangeShapes Go.WideShapes Go.ChangeAt Go.RowKit
open Go.ChangeMaps (open_string shut_string)
open Cg
set_option linter.unusedVariables false

/-! ### The walk: the Go text returns true. -/
set_option maxHeartbeats 8000000 in
set_option maxRecDepth 20000 in
theorem walk (a0 : ByteArray) (w : World) (w0 : a0.size ≤ 140737488351232) (hmx : ∃ m, w.cell? ⟨0, 0, none⟩ = some (.int .i64 m)) :
    Calls Tryd.prog 5 #[.string a0] w fun e w' => e = .returned (.bool true) ∧ Below w.heap.size w w' := by
  have HM : Hid (Mx w) := hmx
  have HR0 : Hid (readR (⟨#[48, 32, 49, 10, 48, 58, 10]⟩ : ByteArray).data.toList = (⟨0, 1, [(0, [])]⟩, 0, 0)) := by show _ = _; rfl
  obtain ⟨rt, rn, rps, line, err, HRS⟩ : ∃ rt rn rps line err, Hid (readR a0.data.toList = (⟨rt, rn, rps⟩, line, err)) := ⟨_, _, _, _, _, (rfl : readR a0.data.toList = readR a0.data.toList)⟩
  clear hmx
  go_enter Tryd.func5, Tryd.ntmps5
  go_wp2_with fail
  refine (Read_any ⟨#[48, 32, 49, 10, 48, 58, 10]⟩ w HM.out 0 1 [(0, [])] 0 0 HR0.out).mono ?_
  rintro _ w1 ⟨a, c, rfl, hpd, hb⟩
  have HB1 : Hid (Below w.heap.size w (w1.alloc (Obj.cells #[.int .i64 0, .int .i64 1, .slice a 1 c] 24)) ∧ Mx (w1.alloc (Obj.cells #[.int .i64 0, .int .i64 1, .slice a 1 c] 24))) := ⟨hb.alloc hb.size _, (HM.out.below hb).below (below_alloc _ _)⟩
  clear hpd hb
  simp only [List.length_singleton]
  go_wp2_with fail
  refine (Read_any a0 _ HB1.out.2 rt rn rps line err HRS.out).mono ?_
  rintro _ w2 ⟨a2, c2, rfl, hpd, hb⟩
  have HG : Hid (Gb w2 w2.heap.size rt rn (.slice a2 rps.length c2) rps (w2.alloc (Obj.cells #[.int .i64 rt, .int .i64 rn, .slice a2 rps.length c2] 24))) := Gb.box hpd rt rn
  have HB2 : Hid (Below w.heap.size w (w2.alloc (Obj.cells #[.int .i64 rt, .int .i64 rn, .slice a2 rps.length c2] 24))) := (HB1.out.1.trans (hb.mono HB1.out.1.size)).alloc (Nat.le_trans HB1.out.1.size hb.size) _
  clear hpd hb HB1
  by_cases he : err = 0
  · subst he
    obtain ⟨h1, h2⟩ := text_read HRS.out
    simp only [] at h1 h2
    have HCH : Hid (chk rt rn rps = 0) := h1
    have HTX : Hid ((⟨(text rt rn rps).toArray⟩ : ByteArray) = a0) := by show _ = _; rw [h2]
    clear h1 h2
    have z0 := HG.out.c0
    have z1 := HG.out.c1
    have z2 := HG.out.c2
    go_wp2_with fail
    clear z0 z1 z2
    have hc := Write_ok rt rn _ rps _ HG.out.pds HCH.out
    rw [HTX.out] at hc
    refine hc.mono ?_
    rintro _ w3 ⟨rfl, hb⟩
    have HG3 : Hid (Gb w2 w2.heap.size rt rn (.slice a2 rps.length c2) rps w3) := HG.out.next hb
    have HB3 : Hid (Below w.heap.size w w3) := HB2.out.trans (hb.mono HB2.out.size)
    clear hc hb HG HB2
    have z0 := HG3.out.c0
    have z1 := HG3.out.c1
    have z2 := HG3.out.c2
    have hbe : (a0.toList == a0.toList) = true := by simp
    go_wp2_with fail
    clear z0 z1 z2
    have hc := Check_any rt rn _ rps _ HG3.out.pds
    rw [HCH.out] at hc
    refine hc.mono ?_
    rintro _ w4 ⟨rfl, hb⟩
    have HB4 : Hid (Below w.heap.size w w4) := HB3.out.trans (hb.mono HB3.out.size)
    clear hc hb HG3 HB3
    go_wp2_with fail
    go_ret
    exact ⟨by simp, HB4.out⟩
  · have heb : (err != 0) = true := by simp; exact he
    obtain ⟨h1, h2⟩ := read_bad HRS.out he
    obtain ⟨rfl, rfl, rfl⟩ := zst_parts h1
    have hlb : decide (0 ≤ line) = true := by simp; exact h2
    clear h1 he
    have z0 := HG.out.c0
    have z1 := HG.out.c1
    have z2 := HG.out.c2
    go_wp2_with fail
    clear z0 z1 z2
    refine (same_true 0 0 _ (.slice none 0 0) [] _ HG.out.pds (pds_nil _)).mono ?_
    rintro _ w3 ⟨rfl, hb⟩
    have HB3 : Hid (Below w.heap.size w w3) := HB2.out.trans (hb.mono HB2.out.size)
    clear hb HG HB2
    go_wp2_with fail
    go_ret
    exact ⟨by simp, HB3.out⟩

/-! ### The row's step -/
set_option maxRecDepth 100000 in
theorem lifted (os : Os) (started : os.Started) (H : Type) (enc : TypeId × Value → H) :
    ReturnsInHanded {} Tryd.checked os 5 .any (fun w args => (Rows.cfgAgainSpec.pre enc Tryd.prog Tryd.f5 [] false w args ∧ laidMetH Tryd.prog Rows.cfgAgainRow.laid w) ∧ sizedMet enc Tryd.prog Tryd.f5 (OpenSpec.ofChange Rows.cfgAgainSpec) false w args) (Rows.cfgAgainSpec.post enc Tryd.prog Tryd.f5 false true false false) := by
  refine handed_of_change_and_shaped (C := Tryd.checked) (X := fun w _ => laidMetH Tryd.prog Rows.cfgAgainRow.laid w) own started (by kernel_rfl) Tryd.func5
    (ChangeSpec.witness_shaped (enc := enc) (C := Tryd.checked) (os := os) (X := fun w _ => laidMetH Tryd.prog Rows.cfgAgainRow.laid w) false (World.laidAll Tryd.prog os Rows.cfgAgainRow.laid) #[.string .empty] 8 (World.laidAll_os _ _ _)
      (World.shaped_of_ZipB (by kernel_rfl) (by kernel_rfl)) (by kernel_rfl) (by kernel_rfl) (by kernel_rfl)
      (by rw [MakeChecks.laidMetH_plain _ _ _ (by kernel_rfl)]; exact laidMet_laidAll _ (by kernel_rfl) (by kernel_rfl))) ?_
  intro W base args ds gs before hval0 hW hsz hsh
  have hval : ∀ (j : Nat) t v, Tryd.f5.params[j]? = some t → args[j]? = some v → Value.okWide Tryd.prog W .any base t v := hval0
  have hW' := hW
  obtain ⟨p, q, hA0, hV, rfl, hfz, hnd⟩ := hW
  have hA : DataW.TrodAll enc Tryd.prog W 0 (fun _ => true) true Tryd.f5.params.toList args.toList ds p := hA0
  change (DataW.weightsEach Tryd.prog (Tryd.f5.params.toList ++ Rows.cfgAgainSpec.plain.varTypes Tryd.prog) (ds ++ gs)).all (· ≤ reachBytes) = true at hsz
  rw [Tryd.params5] at hA hval hsz
  obtain ⟨v0, vs0, d0, ds0, p0, q0, hargs, rfl, rfl, h0, r0⟩ := trodAll_cons hA
  obtain ⟨rfl, rfl, rfl⟩ := trodAll_nil r0
  obtain rfl : args = #[v0] := by cases args; simp_all
  obtain ⟨rfl, rfl⟩ := trodVars_none hV
  obtain ⟨a0, rfl, rfl, rfl, w0⟩ := open_string Tryd.underlying9 (hval 0 9 v0 rfl rfl) h0
  have r0z : a0.size ≤ 140737488351232 := by have := sized_string hsz (j := 0) (t := 9) rfl rfl; simpa [reachBytes] using this
  clear hA0 hval0
  refine (walk a0 W r0z (maxLen_cell hsh)).mono fun e W' ⟨he, bel⟩ => ?_
  subst he
  exact ⟨_, rfl, _, _, _, [], _, [], hW', trodAll_mk1 (shut_bool Tryd.underlying4 _), (trodAll_cons_mk (shut_string Tryd.underlying9 w0) trodAll_mk0), rfl, bel.frame _, fun h => by cases h⟩

theorem over : Rows.cfgAgainRow.holds Tryd.pinned (OpenSpec.ofChange Rows.cfgAgainSpec) :=
  OpenClaim.holds_of_wide 5 Tryd.f5 rfl rfl rfl rfl rfl rfl rfl ⟨rfl, rfl, rfl, rfl, rfl⟩ rfl rfl rfl rfl rfl (by kernel_rfl) Tryd.func5 (by kernel_rfl)
    (of_decide_eq_true (by kernel_rfl)) (by unfold Func.isWrapper; first | (rw [if_pos (by decide +kernel)]; kernel_rfl) | (rw [if_neg (by decide +kernel)]; exact ⟨rfl, rfl⟩))
    (fun os started H enc _ => lifted os started H enc)
end Go.Proofs.YtgoafahglajfmaaDoor.cfgAgain
namespace Go.Proofs.YtgoafahglajfmaaDoor
open Go
/-- The given statement. -/
theorem cfgAgain_card : Rows.CfgAgainCardSaid :=
  Claim7.holds_tied_plain_at .later [] [.data, .data, .data, .data, .pinned] true (true, "499744621ff4726611782f20068178ffe3b83ec6480a1ef01c172ed9ea8096f7") false cfgAgain.over (fun _ h => by cases h) (by kernel_rfl) (fun _ h => by cases h) cfgAgain_row_tie rfl ⟨rfl, rfl⟩ (by kernel_rfl) rfl
    (fun f fn hf hfn => by
      obtain rfl : f = 5 := Option.some.inj ((show Tryd.prog.funcNamed "pushmill/pushkeep.CfgAgain" = some 5 by kernel_rfl).symm.trans hf) |>.symm
      obtain rfl : fn = Tryd.f5 := (Option.some.inj (Tryd.func5.symm.trans hfn)).symm
      exact ⟨by kernel_rfl, fun j t ht => by
        rw [Tryd.params5] at ht
        have hm : t ∈ [9] := by simpa using Array.mem_of_getElem? ht
        simp only [List.mem_cons, List.mem_nil_iff, or_false] at hm
        rcases hm with rfl
        · exact (show Tryd.prog.wantsStandIn 9 = false by kernel_rfl)⟩)
    (by kernel_rfl)
#print axioms cfgAgain_card
end Go.Proofs.YtgoafahglajfmaaDoor
