/-
  CfgReads returns true whatever grammar and text are handed in, and changes nothing that it was handed; what the listed variables of the library hold is what the program lays (the card ties them); no other condition.
-/
import Derived.Test.YtgoafahglajfmaaDoorLift
import Derived.Test.YtgoafahglajfmaaDoorCards
import Derived.Test.YtgoafahglajfmaaDoorTie
import Derived.OpenShut
import Derived.ShutString
import Derived.SizedLaws
import Derived.ChangeOld
import Derived.Below
import Derived.Carry
import Derived.WalkLawsBesides
import Derived.WalkSpells
import Derived.SevenTiedAt
import Derived.Test.YtgoafahglajfmaaDoorOpens
import Derived.Test.YtgoafahglajfmaaDoorRead
import Derived.Test.YtgoafahglajfmaaDoorRReadCfg
import Derived.Test.YtgoafahglajfmaaDoorRText
namespace Go.Proofs.YtgoafahglajfmaaDoor.cfgReads
open Go.ChangeShapes Go.WideShapes Go.ChangeAt Go.RowKit
open Go.ChangeMaps (open_string shut_string)
open Cg
set_option linter.unusedVariables false

/-! ### The walk: the Go text returns true. -/
set_option maxHeartbeats 8000000 in
set_option maxRecDepth 20000 in
theorem walk (a0t : Int) (a0n : Int) (a0s : Value) (a0p : List Pd) (a1 : ByteArray) (w : World) (w0s : Pds w a0s a0p) (w1 : a1.size ≤ 140737488351232) (hmx : ∃ m, w.cell? ⟨0, 0, none⟩ = some (.int .i64 m)) :
    Calls Tryd.prog 3 #[.agg #[.int .i64 a0t, .int .i64 a0n, a0s], .string a1] w fun e w' => e = .returned (.bool true) ∧ Below w.heap.size w w' := by
  have HG0 : Hid (Gb w w.heap.size a0t a0n a0s a0p (w.alloc (Obj.cells #[.int .i64 a0t, .int .i64 a0n, a0s] 24))) := Gb.box w0s a0t a0n
  have HM : Hid (Mx w) := hmx
  obtain ⟨ao, c, rfl, hm, hcs⟩ := w0s
  revert HG0 hm hcs
  generalize a0t = t
  generalize a0n = n
  generalize a0p = ps
  intro HG0 hm hcs
  obtain ⟨rt, rn, rps, line, err, HRS⟩ : ∃ rt rn rps line err, Hid (readR a1.data.toList = (⟨rt, rn, rps⟩, line, err)) := ⟨_, _, _, _, _, (rfl : readR a1.data.toList = readR a1.data.toList)⟩
  obtain ⟨r, HR⟩ : ∃ r, Hid (chk t n ps = r) := ⟨_, (rfl : chk t n ps = chk t n ps)⟩
  clear hmx hcs
  go_enter Tryd.func3, Tryd.ntmps3
  go_wp2_with fail
  have hc := Cfg_any t n _ ps _ HG0.out.pds
  rw [HR.out] at hc
  refine hc.mono ?_
  rintro _ w1 ⟨rfl, hb⟩
  have HG1 : Hid (Gb w w.heap.size t n (.slice ao ps.length c) ps w1) := HG0.out.next hb
  clear hc hb HG0
  have z0 := HG1.out.c0
  have z1 := HG1.out.c1
  have z2 := HG1.out.c2
  by_cases h0 : r = 0
  · subst h0
    go_wp2_with fail
    clear z0 z1 z2
    have hc := CfgText_ok t n _ ps _ HG1.out.pds HR.out
    obtain ⟨tx, HTX⟩ : ∃ tx : ByteArray, Hid ((⟨(text t n ps).toArray⟩ : ByteArray) = tx) := ⟨_, (rfl : (⟨(text t n ps).toArray⟩ : ByteArray) = ⟨(text t n ps).toArray⟩)⟩
    rw [HTX.out] at hc
    refine hc.mono ?_
    rintro _ w2 ⟨rfl, hb⟩
    have HG2 : Hid (Gb w w.heap.size t n (.slice ao ps.length c) ps w2) := HG1.out.next hb
    clear hc hb HG1
    have z0 := HG2.out.c0
    have z1 := HG2.out.c1
    have z2 := HG2.out.c2
    go_wp2_with fail
    clear z0 z1 z2
    have hc := Write_ok t n _ ps _ HG2.out.pds HR.out
    rw [HTX.out] at hc
    refine hc.mono ?_
    rintro _ w3 ⟨rfl, hb⟩
    have HG3 : Hid (Gb w w.heap.size t n (.slice ao ps.length c) ps w3) := HG2.out.next hb
    clear hc hb HG2
    have HB3 : Hid (Below w.heap.size w w3) := HG3.out.below
    clear HG3
    go_wp2_with fail
    refine (Read_any a1 w3 (HM.out.below HB3.out) rt rn rps line err HRS.out).mono ?_
    rintro _ w4 ⟨a2, c2, rfl, hpd, hb⟩
    have HGA : Hid (Gb w4 w4.heap.size rt rn (.slice a2 rps.length c2) rps (w4.alloc (Obj.cells #[.int .i64 rt, .int .i64 rn, .slice a2 rps.length c2] 24))) := Gb.box hpd rt rn
    have HB4 : Hid (Below w.heap.size w (w4.alloc (Obj.cells #[.int .i64 rt, .int .i64 rn, .slice a2 rps.length c2] 24))) := (HB3.out.trans (hb.mono HB3.out.size)).alloc (Nat.le_trans HB3.out.size hb.size) _
    clear hpd hb HB3
    go_wp2_with fail
    refine (ReadCfg_any a1 _ rt rn rps line err HRS.out).mono ?_
    rintro _ w5 ⟨a3, c3, rfl, hpd, hb⟩
    have HGA2 : Hid (Gb w4 w4.heap.size rt rn (.slice a2 rps.length c2) rps (w5.alloc (Obj.cells #[.int .i64 rt, .int .i64 rn, .slice a3 rps.length c3] 24))) := (HGA.out.next hb).next (below_alloc _ _)
    have HGB : Hid (Gb w5 w5.heap.size rt rn (.slice a3 rps.length c3) rps (w5.alloc (Obj.cells #[.int .i64 rt, .int .i64 rn, .slice a3 rps.length c3] 24))) := Gb.box hpd rt rn
    have HB5 : Hid (Below w.heap.size w (w5.alloc (Obj.cells #[.int .i64 rt, .int .i64 rn, .slice a3 rps.length c3] 24))) := (HB4.out.trans (hb.mono HB4.out.size)).alloc (Nat.le_trans HB4.out.size hb.size) _
    clear hpd hb HB4 HGA
    have z0 := HGA2.out.c0
    have z1 := HGA2.out.c1
    have z2 := HGA2.out.c2
    have x0 := HGB.out.c0
    have x1 := HGB.out.c1
    have x2 := HGB.out.c2
    have hbe : (tx.toList == tx.toList) = true := by simp
    have hrr : ((0 : Int) == 0) = true := by simp
    have hll : (line == line) = true := by simp
    have hee : (err == err) = true := by simp
    go_wp2_with fail
    clear z0 z1 z2 x0 x1 x2
    refine (same_true rt rn _ _ rps _ HGA2.out.pds HGB.out.pds).mono ?_
    rintro _ w6 ⟨rfl, hb⟩
    have HB6 : Hid (Below w.heap.size w w6) := HB5.out.trans (hb.mono HB5.out.size)
    clear hb HGA2 HGB HB5
    go_wp2_with fail
    go_ret
    exact ⟨by simp, HB6.out⟩
  · have h0b : (r == 0) = false := by simp; exact h0
    have HNE : Hid (r ≠ 0) := h0
    clear h0
    go_wp2_with fail
    clear z0 z1 z2
    refine (Write_bad t n _ ps _ HG1.out.pds r HR.out HNE.out).mono ?_
    rintro _ w3 ⟨rfl, hb⟩
    have HG3 : Hid (Gb w w.heap.size t n (.slice ao ps.length c) ps w3) := HG1.out.next hb
    clear hb HG1
    have HB3 : Hid (Below w.heap.size w w3) := HG3.out.below
    clear HG3
    go_wp2_with fail
    refine (Read_any a1 w3 (HM.out.below HB3.out) rt rn rps line err HRS.out).mono ?_
    rintro _ w4 ⟨a2, c2, rfl, hpd, hb⟩
    have HGA : Hid (Gb w4 w4.heap.size rt rn (.slice a2 rps.length c2) rps (w4.alloc (Obj.cells #[.int .i64 rt, .int .i64 rn, .slice a2 rps.length c2] 24))) := Gb.box hpd rt rn
    have HB4 : Hid (Below w.heap.size w (w4.alloc (Obj.cells #[.int .i64 rt, .int .i64 rn, .slice a2 rps.length c2] 24))) := (HB3.out.trans (hb.mono HB3.out.size)).alloc (Nat.le_trans HB3.out.size hb.size) _
    clear hpd hb HB3
    go_wp2_with fail
    refine (ReadCfg_any a1 _ rt rn rps line err HRS.out).mono ?_
    rintro _ w5 ⟨a3, c3, rfl, hpd, hb⟩
    have HGA2 : Hid (Gb w4 w4.heap.size rt rn (.slice a2 rps.length c2) rps (w5.alloc (Obj.cells #[.int .i64 rt, .int .i64 rn, .slice a3 rps.length c3] 24))) := (HGA.out.next hb).next (below_alloc _ _)
    have HGB : Hid (Gb w5 w5.heap.size rt rn (.slice a3 rps.length c3) rps (w5.alloc (Obj.cells #[.int .i64 rt, .int .i64 rn, .slice a3 rps.length c3] 24))) := Gb.box hpd rt rn
    have HB5 : Hid (Below w.heap.size w (w5.alloc (Obj.cells #[.int .i64 rt, .int .i64 rn, .slice a3 rps.length c3] 24))) := (HB4.out.trans (hb.mono HB4.out.size)).alloc (Nat.le_trans HB4.out.size hb.size) _
    clear hpd hb HB4 HGA
    have z0 := HGA2.out.c0
    have z1 := HGA2.out.c1
    have z2 := HGA2.out.c2
    have x0 := HGB.out.c0
    have x1 := HGB.out.c1
    have x2 := HGB.out.c2
    have hbe : ((⟨#[]⟩ : ByteArray).toList == (⟨#[]⟩ : ByteArray).toList) = true := by simp
    have hrr : ((r : Int) == r) = true := by simp
    have hll : (line == line) = true := by simp
    have hee : (err == err) = true := by simp
    go_wp2_with fail
    clear z0 z1 z2 x0 x1 x2
    refine (same_true rt rn _ _ rps _ HGA2.out.pds HGB.out.pds).mono ?_
    rintro _ w6 ⟨rfl, hb⟩
    have HB6 : Hid (Below w.heap.size w w6) := HB5.out.trans (hb.mono HB5.out.size)
    clear hb HGA2 HGB HB5
    go_wp2_with fail
    go_ret
    exact ⟨by simp, HB6.out⟩

/-! ### The row's step -/
set_option maxRecDepth 100000 in
theorem lifted (os : Os) (started : os.Started) (H : Type) (enc : TypeId × Value → H) :
    ReturnsInHanded {} Tryd.checked os 3 .any (fun w args => (Rows.cfgReadsSpec.pre enc Tryd.prog Tryd.f3 [] false w args ∧ laidMetH Tryd.prog Rows.cfgReadsRow.laid w) ∧ sizedMet enc Tryd.prog Tryd.f3 (OpenSpec.ofChange Rows.cfgReadsSpec) false w args) (Rows.cfgReadsSpec.post enc Tryd.prog Tryd.f3 false true false false) := by
  refine handed_of_change_and_shaped (C := Tryd.checked) (X := fun w _ => laidMetH Tryd.prog Rows.cfgReadsRow.laid w) own started (by kernel_rfl) Tryd.func3
    (ChangeSpec.witness_shaped (enc := enc) (C := Tryd.checked) (os := os) (X := fun w _ => laidMetH Tryd.prog Rows.cfgReadsRow.laid w) false (World.laidAll Tryd.prog os Rows.cfgReadsRow.laid) #[.agg #[.int .i64 0, .int .i64 0, .slice none 0 0], .string .empty] 8 (World.laidAll_os _ _ _)
      (World.shaped_of_ZipB (by kernel_rfl) (by kernel_rfl)) (by kernel_rfl) (by kernel_rfl) (by kernel_rfl)
      (by rw [MakeChecks.laidMetH_plain _ _ _ (by kernel_rfl)]; exact laidMet_laidAll _ (by kernel_rfl) (by kernel_rfl))) ?_
  intro W base args ds gs before hval0 hW hsz hsh
  have hval : ∀ (j : Nat) t v, Tryd.f3.params[j]? = some t → args[j]? = some v → Value.okWide Tryd.prog W .any base t v := hval0
  have hW' := hW
  obtain ⟨p, q, hA0, hV, rfl, hfz, hnd⟩ := hW
  have hA : DataW.TrodAll enc Tryd.prog W 0 (fun _ => true) true Tryd.f3.params.toList args.toList ds p := hA0
  change (DataW.weightsEach Tryd.prog (Tryd.f3.params.toList ++ Rows.cfgReadsSpec.plain.varTypes Tryd.prog) (ds ++ gs)).all (· ≤ reachBytes) = true at hsz
  rw [Tryd.params3] at hA hval hsz
  obtain ⟨v0, vs0, d0, ds0, p0, q0, hargs, rfl, rfl, h0, r0⟩ := trodAll_cons hA
  obtain ⟨v1, vs1, d1, ds1, p1, q1, rfl, rfl, rfl, h1, r1⟩ := trodAll_cons r0
  obtain ⟨rfl, rfl, rfl⟩ := trodAll_nil r1
  obtain rfl : args = #[v0, v1] := by cases args; simp_all
  obtain ⟨rfl, rfl⟩ := trodVars_none hV
  have k0 := h0
  have lt0 : ∀ x ∈ p0, x.block < W.heap.size := by obtain ⟨m, hm⟩ := k0; exact DataW.trod_lt m _ _ _ hm
  obtain ⟨a0t, a0n, a0s, a0p, rfl, w0s⟩ := open_gram (hval 0 24 v0 rfl rfl) h0
  obtain ⟨a1, rfl, rfl, rfl, w1⟩ := open_string Tryd.underlying9 (hval 1 9 v1 rfl rfl) h1
  have r1z : a1.size ≤ 140737488351232 := by have := sized_string hsz (j := 1) (t := 9) rfl rfl; simpa [reachBytes] using this
  clear hA0 hval0
  refine (walk a0t a0n a0s a0p a1 W w0s r1z (maxLen_cell hsh)).mono fun e W' ⟨he, bel⟩ => ?_
  subst he
  exact ⟨_, rfl, _, _, _, [], _, [], hW', trodAll_mk1 (shut_bool Tryd.underlying4 _), (trodAll_cons_mk (Below.trod laidOut (by kernel_rfl) (of_decide_eq_true (by kernel_rfl)) k0 bel lt0) (trodAll_cons_mk (shut_string Tryd.underlying9 w1) trodAll_mk0)), rfl, bel.frame _, fun h => by cases h⟩

theorem over : Rows.cfgReadsRow.holds Tryd.pinned (OpenSpec.ofChange Rows.cfgReadsSpec) :=
  OpenClaim.holds_of_wide 3 Tryd.f3 rfl rfl rfl rfl rfl rfl rfl ⟨rfl, rfl, rfl, rfl, rfl⟩ rfl rfl rfl rfl rfl (by kernel_rfl) Tryd.func3 (by kernel_rfl)
    (of_decide_eq_true (by kernel_rfl)) (by unfold Func.isWrapper; first | (rw [if_pos (by decide +kernel)]; kernel_rfl) | (rw [if_neg (by decide +kernel)]; exact ⟨rfl, rfl⟩))
    (fun os started H enc _ => lifted os started H enc)
end Go.Proofs.YtgoafahglajfmaaDoor.cfgReads
namespace Go.Proofs.YtgoafahglajfmaaDoor
open Go
/-- The given statement. -/
theorem cfgReads_card : Rows.CfgReadsCardSaid :=
  Claim7.holds_tied_plain_at .later [] [.data, .data, .data, .data, .pinned] true (true, "499744621ff4726611782f20068178ffe3b83ec6480a1ef01c172ed9ea8096f7") false cfgReads.over (fun _ h => by cases h) (by kernel_rfl) (fun _ h => by cases h) cfgReads_row_tie rfl ⟨rfl, rfl⟩ (by kernel_rfl) rfl
    (fun f fn hf hfn => by
      obtain rfl : f = 3 := Option.some.inj ((show Tryd.prog.funcNamed "pushmill/pushlaw.CfgReads" = some 3 by kernel_rfl).symm.trans hf) |>.symm
      obtain rfl : fn = Tryd.f3 := (Option.some.inj (Tryd.func3.symm.trans hfn)).symm
      exact ⟨by kernel_rfl, fun j t ht => by
        rw [Tryd.params3] at ht
        have hm : t ∈ [24, 9] := by simpa using Array.mem_of_getElem? ht
        simp only [List.mem_cons, List.mem_nil_iff, or_false] at hm
        rcases hm with rfl | rfl
        · exact (show Tryd.prog.wantsStandIn 24 = false by kernel_rfl)
        · exact (show Tryd.prog.wantsStandIn 9 = false by kernel_rfl)⟩)
    (by kernel_rfl)
#print axioms cfgReads_card
end Go.Proofs.YtgoafahglajfmaaDoor
