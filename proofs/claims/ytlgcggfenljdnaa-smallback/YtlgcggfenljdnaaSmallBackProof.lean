/-
  SmallBack returns true whatever automaton is handed in, and changes nothing that it was handed; no condition.
-/
import Derived.Test.YtlgcggfenljdnaaRows
import Derived.WalkKit
import Derived.ProofKit
import Derived.OpenShut
import Derived.ShutString
import Derived.SizedLaws
import Derived.ChangeOld
import Derived.Below
import Derived.Carry
import Derived.WalkLawsBesides
import Derived.WalkSpells
import Derived.Test.YtlgcggfenljdnaaOpens
import Derived.Deep.Cut
import Derived.Test.YtlgcggfenljdnaaPkBack
namespace Go.Proofs.Ytlgcggfenljdnaa.smallBack
open Go.ChangeShapes Go.WideShapes Go.ChangeAt Go.RowKit
open Go.ChangeMaps (open_string shut_string)
open Dfa
set_option linter.unusedVariables false

theorem own : ownKnob Try.prog.godebug = none := by kernel_rfl
theorem laidOut : laidOutB Try.prog = true := by kernel_rfl

/-! ### The walk: the Go text returns true. -/
set_option maxHeartbeats 4000000 in
set_option maxRecDepth 20000 in
theorem walk (a0r : Value) (a0t : Value) (a0n : Nat) (a0m : Nat) (a0R : Nat → Nat → Int) (a0T : Nat → Int) (w : World) (w0s : Rw w a0r a0n a0R) (w0u : Ts w a0t a0m a0T) :
    Calls Try.prog 7 #[.agg #[a0r, a0t]] w fun e w' => e = .returned (.bool true) ∧ Below w.heap.size w w' := by
  have HRW : Hid (Rw w a0r a0n a0R) := w0s
  have HTS : Hid (Ts w a0t a0m a0T) := w0u
  obtain ⟨ra, rc, rfl, hrn, -⟩ := w0s
  obtain ⟨ta, tc, rfl, -⟩ := w0u
  have B0 : Below w.heap.size w (w.alloc (Obj.cells #[(.slice ra a0n rc), (.slice ta a0m tc)] 25)) := below_box _ _
  have HR0 : Hid (Rw (w.alloc (Obj.cells #[(.slice ra a0n rc), (.slice ta a0m tc)] 25)) (.slice ra a0n rc) a0n a0R) := HRW.out.below B0 (Nat.le_refl _)
  have HT0 : Hid (Ts (w.alloc (Obj.cells #[(.slice ra a0n rc), (.slice ta a0m tc)] 25)) (.slice ta a0m tc) a0m a0T) := HTS.out.below B0 (Nat.le_refl _)
  have HBD0 : Hid (Bb w.heap.size (.slice ra a0n rc) (.slice ta a0m tc) (w.alloc (Obj.cells #[(.slice ra a0n rc), (.slice ta a0m tc)] 25))) := Bb.box w _ _ 25
  obtain ⟨c, HC⟩ : ∃ c, Hid (chk a0n a0m a0R a0T = c) := ⟨_, (rfl : _ = _)⟩
  obtain ⟨zs, hz47, hzsz, hzs⟩ := zero47
  have HZS : Hid (zs.size = 258) := hzsz
  by_cases h0 : c = 0
  · subst h0
    obtain ⟨g0, g1, g2, g3, -⟩ := chk_zero HC.out
    have g2s := g2.symm
    subst g2s
    have HG : Hid (0 < a0n ∧ rowsOk a0n a0R = true) := ⟨g0, g3⟩
    have hpk := pack_ok (.slice ra a0n rc) (.slice ta a0n tc) a0n a0R a0T _ HR0.out HT0.out HC.out
    have HCP : Hid (chkP a0n a0n (ofp a0n a0R) (fun _ => (fsts a0n a0R 256).length) (fun i t => a0R i ((fsts a0n a0R 256).getD t 0)) a0T = 0) := pack_right HC.out
    clear g2 g3 hzsz hzs
    go_enter Try.func7, Try.ntmps7
    go_wp2_with fail
    refine hpk.mono ?_
    rintro _ w1 ⟨nv1, tv1, rfl, hnx, hts, hb⟩
    have B1 : Below w.heap.size w w1 := B0.trans (hb.mono B0.size)
    have HBD1 : Hid (Bb w.heap.size (.slice ra a0n rc) (.slice ta a0n tc) w1) := HBD0.out.next hb
    have hpl : pl (fun b => idx a0n a0R (fsts a0n a0R b) b) nv1 tv1 = pl (ofp a0n a0R) nv1 tv1 := pl_congr _ _ fun j hj => by unfold ofp; rw [if_pos hj]
    rw [hpl]
    have HNX : Hid (Nx w1 nv1 a0n (fun _ => (fsts a0n a0R 256).length) (fun i t => a0R i ((fsts a0n a0R 256).getD t 0))) := hnx
    have HTV : Hid (Ts w1 tv1 a0n a0T) := hts
    have HUN : Hid (∀ W, Below w1.heap.size w1 W → Calls Try.prog 19 #[.agg (pl (ofp a0n a0R) nv1 tv1).toArray] W fun e w' => ∃ rv tv', e = .returned (.tuple #[.agg #[rv, tv'], .int .i64 0]) ∧ Rw w' rv a0n (fun i j => if i < a0n ∧ j < 256 then a0R i ((fsts a0n a0R 256).getD (ofp a0n a0R j) 0) else 0) ∧ Ts w' tv' a0n a0T ∧ Below W.heap.size W w') := fun W hB => unpack_ok (ofp a0n a0R) nv1 tv1 a0n (fun _ => (fsts a0n a0R 256).length) (fun i t => a0R i ((fsts a0n a0R 256).getD t 0)) a0T W (ofp_lt a0n a0R) (hnx.below hB (Nat.le_refl _)) (hts.below hB (Nat.le_refl _)) HCP.out
    have HCK : Hid (∀ W, Below w1.heap.size w1 W → Calls Try.prog 20 #[.agg (pl (ofp a0n a0R) nv1 tv1).toArray] W fun e w' => e = .returned (.int .i64 0) ∧ Below W.heap.size W w') := fun W hB => by have := checkP_any (ofp a0n a0R) nv1 tv1 a0n a0n (fun _ => (fsts a0n a0R 256).length) (fun i t => a0R i ((fsts a0n a0R 256).getD t 0)) a0T W (ofp_lt a0n a0R) (hnx.below hB (Nat.le_refl _)) (hts.below hB (Nat.le_refl _)); rwa [HCP.out] at this
    have HONE : Hid ((pl (ofp a0n a0R) nv1 tv1).toArray.all (·.oneCell') = true) := by
      obtain ⟨_, _, e1, _⟩ := hnx
      obtain ⟨_, _, e2, _⟩ := hts
      show _ = _
      rw [e1, e2]
      exact pl_one _ _ _ _ _ _ _
    have HLN : Hid ((pl (ofp a0n a0R) nv1 tv1).length = 258) := pl_length _ _ _
    obtain ⟨l, HL⟩ : ∃ l, Hid (pl (ofp a0n a0R) nv1 tv1 = l) := ⟨_, (rfl : _ = _)⟩
    rw [HL.out] at HUN HCK HONE HLN
    rw [HL.out]
    have HSZ : Hid (l.toArray.size = 258) := by show _ = _; rw [List.size_toArray]; exact HLN.out
    have HSI : Hid ((Try.prog.info? 47).map (·.size) = some l.length) := by show _ = _; rw [HLN.out]; exact size47
    have BP := below_box w1 (Obj.cells l.toArray 47)
    have HRG : Hid (Rg w1.heap.size l (w1.alloc (Obj.cells l.toArray 47))) := ⟨range_block w1 l 47, by simp⟩
    have HBD2 : Hid (Bb w.heap.size (.slice ra a0n rc) (.slice ta a0n tc) (w1.alloc (Obj.cells l.toArray 47))) := HBD1.out.next BP
    have B2 : Below w.heap.size w (w1.alloc (Obj.cells l.toArray 47)) := B1.trans (BP.mono B1.size)
    obtain ⟨gP, HGP⟩ : ∃ q, Hid (w1.heap.size = q) := ⟨_, (rfl : _ = _)⟩
    obtain ⟨wp, HWP⟩ : ∃ q, Hid (w1.alloc (Obj.cells l.toArray 47) = q) := ⟨_, (rfl : _ = _)⟩
    have HBQ : Hid (Below w1.heap.size w1 wp) := by rw [← HWP.out]; exact BP
    clear hnx hts hb hpk hpl HNX HTV HL BP HBD1 HBD0 HR0 HT0 B0
    rw [HWP.out] at HRG HBD2 B2
    go_wp2_with (first | (refine wpList_store_new47 rfl _ _ rfl zs l.toArray rfl rfl HZS.out HSZ.out HONE.out ?_; rw [HWP.out, HGP.out]) | refine wpList_load_mid rfl 47 _ rfl gP 0 rfl l _ (by rw [← HGP.out]; exact HRG.out.rng) Try.underlying47 rfl HSI.out ?_)
    refine (HUN.out wp HBQ.out).mono ?_
    rintro _ w2 ⟨rv2, tv2, rfl, hr2, ht2, hb⟩
    obtain ⟨ra2, rc2, hre, -⟩ := id hr2
    obtain ⟨ta2, tc2, hte, -⟩ := id ht2
    subst hre hte
    have HBW1 : Hid (Below w.heap.size w wp) := B2
    have HBQ1 : Hid (Below w1.heap.size w1 wp) := HBQ.out
    have HBD1 : Hid (Bb w.heap.size (.slice ra a0n rc) (.slice ta a0n tc) wp) := HBD2.out
    have HRG1 : Hid (Rg gP l wp) := by rw [← HGP.out]; exact HRG.out
    clear HBQ HBD2 HRG B2
    have HBD2 : Hid (Bb w.heap.size (.slice ra a0n rc) (.slice ta a0n tc) w2) := HBD1.out.next hb
    have HRG2 : Hid (Rg gP l w2) := HRG1.out.next hb
    have HBQ2 : Hid (Below w1.heap.size w1 w2) := HBQ1.out.trans (hb.mono HBQ1.out.size)
    have HBW2 : Hid (Below w.heap.size w w2) := HBW1.out.trans (hb.mono HBW1.out.size)
    clear HBD1 HRG1 HBQ1 HBW1
    have HRX2 : Hid (Rw w2 (.slice ra2 a0n rc2) a0n (fun i j => if i < a0n ∧ j < 256 then a0R i ((fsts a0n a0R 256).getD (ofp a0n a0R j) 0) else 0)) := hr2
    have HTX2 : Hid (Ts w2 (.slice ta2 a0n tc2) a0n a0T) := ht2
    clear hr2 ht2 hb HUN
    have hbx := below_box w2 (Obj.cells #[(.slice ra2 a0n rc2), (.slice ta2 a0n tc2)] 25)
    have hnb := Bb.box w2 (.slice ra2 a0n rc2) (.slice ta2 a0n tc2) 25
    obtain ⟨gX, HGgX⟩ : ∃ q, Hid (w2.heap.size = q) := ⟨_, (rfl : _ = _)⟩
    obtain ⟨x2, HX2⟩ : ∃ q, Hid (w2.alloc (Obj.cells #[(.slice ra2 a0n rc2), (.slice ta2 a0n tc2)] 25) = q) := ⟨_, (rfl : _ = _)⟩
    rw [HX2.out] at hbx hnb
    have HBD2x : Hid (Bb w.heap.size (.slice ra a0n rc) (.slice ta a0n tc) x2) := HBD2.out.next hbx
    have HRG2x : Hid (Rg gP l x2) := HRG2.out.next hbx
    have HBQ2x : Hid (Below w1.heap.size w1 x2) := HBQ2.out.trans (hbx.mono HBQ2.out.size)
    have HBW2x : Hid (Below w.heap.size w x2) := HBW2.out.trans (hbx.mono HBW2.out.size)
    have HRX2x : Hid (Rw x2 (.slice ra2 a0n rc2) a0n (fun i j => if i < a0n ∧ j < 256 then a0R i ((fsts a0n a0R 256).getD (ofp a0n a0R j) 0) else 0)) := HRX2.out.below hbx (Nat.le_refl _)
    have HTX2x : Hid (Ts x2 (.slice ta2 a0n tc2) a0n a0T) := HTX2.out.below hbx (Nat.le_refl _)
    clear HBD2 HRG2 HBQ2 HBW2 HRX2 HTX2
    have hnb2 : Bb gX (.slice ra2 a0n rc2) (.slice ta2 a0n tc2) x2 := by rw [← HGgX.out]; exact hnb
    have HBX2x : Hid (Bb gX (.slice ra2 a0n rc2) (.slice ta2 a0n tc2) x2) := hnb2
    clear hnb hnb2 hbx
    have hmi := min_ok (.slice ra a0n rc) (.slice ta a0n tc) a0n a0R a0T x2 (HRW.out.below HBW2x.out (Nat.le_refl _)) (HTS.out.below HBW2x.out (Nat.le_refl _)) HC.out
    have y0 := HBD2x.out.c0
    have y1 := HBD2x.out.c1
    go_upto_region 5 with fail
    rw [HX2.out, HGgX.out]
    go_wp2_with fail
    refine hmi.mono ?_
    rintro _ w3 ⟨rv3, tv3, rfl, hmo, hb⟩
    obtain ⟨N, F, U, K, met, hm1, hm2, hm3, -, -⟩ := hmo
    obtain ⟨ra3, rc3, hre, -⟩ := id hm2
    obtain ⟨ta3, tc3, hte, -⟩ := id hm3
    subst hre hte
    have HM1 : Hid (Mi a0n a0R a0T N F U K met) := hm1
    have HCN : Hid (chk N N F U = 0) := hm1.right HC.out
    have HBD3 : Hid (Bb w.heap.size (.slice ra a0n rc) (.slice ta a0n tc) w3) := HBD2x.out.next hb
    have HRG3 : Hid (Rg gP l w3) := HRG2x.out.next hb
    have HBQ3 : Hid (Below w1.heap.size w1 w3) := HBQ2x.out.trans (hb.mono HBQ2x.out.size)
    have HBW3 : Hid (Below w.heap.size w w3) := HBW2x.out.trans (hb.mono HBW2x.out.size)
    have HBX3 : Hid (Bb gX (.slice ra2 a0n rc2) (.slice ta2 a0n tc2) w3) := HBX2x.out.next hb
    have HRX3 : Hid (Rw w3 (.slice ra2 a0n rc2) a0n (fun i j => if i < a0n ∧ j < 256 then a0R i ((fsts a0n a0R 256).getD (ofp a0n a0R j) 0) else 0)) := HRX2x.out.below hb (Nat.le_refl _)
    have HTX3 : Hid (Ts w3 (.slice ta2 a0n tc2) a0n a0T) := HTX2x.out.below hb (Nat.le_refl _)
    clear HBD2x HRG2x HBQ2x HBW2x HBX2x HRX2x HTX2x
    have HRM3 : Hid (Rw w3 (.slice ra3 N rc3) N F) := hm2
    have HTM3 : Hid (Ts w3 (.slice ta3 N tc3) N U) := hm3
    clear hm1 hm2 hm3 hb hmi y0 y1
    have hbx := below_box w3 (Obj.cells #[(.slice ra3 N rc3), (.slice ta3 N tc3)] 25)
    have hnb := Bb.box w3 (.slice ra3 N rc3) (.slice ta3 N tc3) 25
    obtain ⟨gM, HGgM⟩ : ∃ q, Hid (w3.heap.size = q) := ⟨_, (rfl : _ = _)⟩
    obtain ⟨x3, HX3⟩ : ∃ q, Hid (w3.alloc (Obj.cells #[(.slice ra3 N rc3), (.slice ta3 N tc3)] 25) = q) := ⟨_, (rfl : _ = _)⟩
    rw [HX3.out] at hbx hnb
    have HBD3x : Hid (Bb w.heap.size (.slice ra a0n rc) (.slice ta a0n tc) x3) := HBD3.out.next hbx
    have HRG3x : Hid (Rg gP l x3) := HRG3.out.next hbx
    have HBQ3x : Hid (Below w1.heap.size w1 x3) := HBQ3.out.trans (hbx.mono HBQ3.out.size)
    have HBW3x : Hid (Below w.heap.size w x3) := HBW3.out.trans (hbx.mono HBW3.out.size)
    have HBX3x : Hid (Bb gX (.slice ra2 a0n rc2) (.slice ta2 a0n tc2) x3) := HBX3.out.next hbx
    have HRX3x : Hid (Rw x3 (.slice ra2 a0n rc2) a0n (fun i j => if i < a0n ∧ j < 256 then a0R i ((fsts a0n a0R 256).getD (ofp a0n a0R j) 0) else 0)) := HRX3.out.below hbx (Nat.le_refl _)
    have HTX3x : Hid (Ts x3 (.slice ta2 a0n tc2) a0n a0T) := HTX3.out.below hbx (Nat.le_refl _)
    have HRM3x : Hid (Rw x3 (.slice ra3 N rc3) N F) := HRM3.out.below hbx (Nat.le_refl _)
    have HTM3x : Hid (Ts x3 (.slice ta3 N tc3) N U) := HTM3.out.below hbx (Nat.le_refl _)
    clear HBD3 HRG3 HBQ3 HBW3 HBX3 HRX3 HTX3 HRM3 HTM3
    have hnb2 : Bb gM (.slice ra3 N rc3) (.slice ta3 N tc3) x3 := by rw [← HGgM.out]; exact hnb
    have HBM3x : Hid (Bb gM (.slice ra3 N rc3) (.slice ta3 N tc3) x3) := hnb2
    clear hnb hnb2 hbx
    have hmi := min_ok (.slice ra3 N rc3) (.slice ta3 N tc3) N F U x3 HRM3x.out HTM3x.out HCN.out
    have y0 := HBM3x.out.c0
    have y1 := HBM3x.out.c1
    go_upto_region 6 with fail
    rw [HX3.out, HGgM.out]
    go_wp2_with fail
    refine hmi.mono ?_
    rintro _ w4 ⟨rv4, tv4, rfl, hmo, hb⟩
    obtain ⟨N4, F4, U4, K4, met4, hm1, hm2, hm3, -, -⟩ := hmo
    obtain ⟨ra4, rc4, hre, -⟩ := id hm2
    obtain ⟨ta4, tc4, hte, -⟩ := id hm3
    subst hre hte
    have HEQ : Hid (N = N4 ∧ (∀ r b, r < N → b < 256 → F r b = F4 r b) ∧ ∀ r, r < N → U r = U4 r) := by
      obtain ⟨q0, -, -, q1, -⟩ := chk_zero HCN.out
      exact uniq HG.out.2 q1 HM1.out hm1 (fun l => (HM1.out.means HG.out.2 HG.out.1 l).symm) HG.out.1 q0
    have HBD4 : Hid (Bb w.heap.size (.slice ra a0n rc) (.slice ta a0n tc) w4) := HBD3x.out.next hb
    have HRG4 : Hid (Rg gP l w4) := HRG3x.out.next hb
    have HBQ4 : Hid (Below w1.heap.size w1 w4) := HBQ3x.out.trans (hb.mono HBQ3x.out.size)
    have HBW4 : Hid (Below w.heap.size w w4) := HBW3x.out.trans (hb.mono HBW3x.out.size)
    have HBX4 : Hid (Bb gX (.slice ra2 a0n rc2) (.slice ta2 a0n tc2) w4) := HBX3x.out.next hb
    have HRX4 : Hid (Rw w4 (.slice ra2 a0n rc2) a0n (fun i j => if i < a0n ∧ j < 256 then a0R i ((fsts a0n a0R 256).getD (ofp a0n a0R j) 0) else 0)) := HRX3x.out.below hb (Nat.le_refl _)
    have HTX4 : Hid (Ts w4 (.slice ta2 a0n tc2) a0n a0T) := HTX3x.out.below hb (Nat.le_refl _)
    have HBM4 : Hid (Bb gM (.slice ra3 N rc3) (.slice ta3 N tc3) w4) := HBM3x.out.next hb
    have HRM4 : Hid (Rw w4 (.slice ra3 N rc3) N F) := HRM3x.out.below hb (Nat.le_refl _)
    have HTM4 : Hid (Ts w4 (.slice ta3 N tc3) N U) := HTM3x.out.below hb (Nat.le_refl _)
    clear HBD3x HRG3x HBQ3x HBW3x HBX3x HRX3x HTX3x HBM3x HRM3x HTM3x
    have HRN4 : Hid (Rw w4 (.slice ra4 N4 rc4) N4 F4) := hm2
    have HTN4 : Hid (Ts w4 (.slice ta4 N4 tc4) N4 U4) := hm3
    clear hm1 hm2 hm3 hb hmi y0 y1
    have hbx := below_box w4 (Obj.cells #[(.slice ra4 N4 rc4), (.slice ta4 N4 tc4)] 25)
    have hnb := Bb.box w4 (.slice ra4 N4 rc4) (.slice ta4 N4 tc4) 25
    obtain ⟨gN, HGgN⟩ : ∃ q, Hid (w4.heap.size = q) := ⟨_, (rfl : _ = _)⟩
    obtain ⟨x4, HX4⟩ : ∃ q, Hid (w4.alloc (Obj.cells #[(.slice ra4 N4 rc4), (.slice ta4 N4 tc4)] 25) = q) := ⟨_, (rfl : _ = _)⟩
    rw [HX4.out] at hbx hnb
    have HBD4x : Hid (Bb w.heap.size (.slice ra a0n rc) (.slice ta a0n tc) x4) := HBD4.out.next hbx
    have HRG4x : Hid (Rg gP l x4) := HRG4.out.next hbx
    have HBQ4x : Hid (Below w1.heap.size w1 x4) := HBQ4.out.trans (hbx.mono HBQ4.out.size)
    have HBW4x : Hid (Below w.heap.size w x4) := HBW4.out.trans (hbx.mono HBW4.out.size)
    have HBX4x : Hid (Bb gX (.slice ra2 a0n rc2) (.slice ta2 a0n tc2) x4) := HBX4.out.next hbx
    have HRX4x : Hid (Rw x4 (.slice ra2 a0n rc2) a0n (fun i j => if i < a0n ∧ j < 256 then a0R i ((fsts a0n a0R 256).getD (ofp a0n a0R j) 0) else 0)) := HRX4.out.below hbx (Nat.le_refl _)
    have HTX4x : Hid (Ts x4 (.slice ta2 a0n tc2) a0n a0T) := HTX4.out.below hbx (Nat.le_refl _)
    have HBM4x : Hid (Bb gM (.slice ra3 N rc3) (.slice ta3 N tc3) x4) := HBM4.out.next hbx
    have HRM4x : Hid (Rw x4 (.slice ra3 N rc3) N F) := HRM4.out.below hbx (Nat.le_refl _)
    have HTM4x : Hid (Ts x4 (.slice ta3 N tc3) N U) := HTM4.out.below hbx (Nat.le_refl _)
    have HRN4x : Hid (Rw x4 (.slice ra4 N4 rc4) N4 F4) := HRN4.out.below hbx (Nat.le_refl _)
    have HTN4x : Hid (Ts x4 (.slice ta4 N4 tc4) N4 U4) := HTN4.out.below hbx (Nat.le_refl _)
    clear HBD4 HRG4 HBQ4 HBW4 HBX4 HRX4 HTX4 HBM4 HRM4 HTM4 HRN4 HTN4
    have hnb2 : Bb gN (.slice ra4 N4 rc4) (.slice ta4 N4 tc4) x4 := by rw [← HGgN.out]; exact hnb
    have HBN4x : Hid (Bb gN (.slice ra4 N4 rc4) (.slice ta4 N4 tc4) x4) := hnb2
    clear hnb hnb2 hbx
    go_upto_region 7 with fail
    rw [HX4.out, HGgN.out]
    go_wp2_with fail
    refine wp_load_mid 47 _ rfl gP 0 rfl l _ HRG4x.out.rng Try.underlying47 rfl HSI.out ?_
    simp only [Act.put, List.setIfInBounds_toArray, List.set_cons_zero, List.set_cons_succ]
    go_wp2_with fail
    refine (HCK.out x4 HBQ4x.out).mono ?_
    rintro _ w5 ⟨rfl, hb⟩
    have HBD5 : Hid (Bb w.heap.size (.slice ra a0n rc) (.slice ta a0n tc) w5) := HBD4x.out.next hb
    have HBW5 : Hid (Below w.heap.size w w5) := HBW4x.out.trans (hb.mono HBW4x.out.size)
    have HBX5 : Hid (Bb gX (.slice ra2 a0n rc2) (.slice ta2 a0n tc2) w5) := HBX4x.out.next hb
    have HRX5 : Hid (Rw w5 (.slice ra2 a0n rc2) a0n (fun i j => if i < a0n ∧ j < 256 then a0R i ((fsts a0n a0R 256).getD (ofp a0n a0R j) 0) else 0)) := HRX4x.out.below hb (Nat.le_refl _)
    have HTX5 : Hid (Ts w5 (.slice ta2 a0n tc2) a0n a0T) := HTX4x.out.below hb (Nat.le_refl _)
    have HBM5 : Hid (Bb gM (.slice ra3 N rc3) (.slice ta3 N tc3) w5) := HBM4x.out.next hb
    have HRM5 : Hid (Rw w5 (.slice ra3 N rc3) N F) := HRM4x.out.below hb (Nat.le_refl _)
    have HTM5 : Hid (Ts w5 (.slice ta3 N tc3) N U) := HTM4x.out.below hb (Nat.le_refl _)
    have HBN5 : Hid (Bb gN (.slice ra4 N4 rc4) (.slice ta4 N4 tc4) w5) := HBN4x.out.next hb
    have HRN5 : Hid (Rw w5 (.slice ra4 N4 rc4) N4 F4) := HRN4x.out.below hb (Nat.le_refl _)
    have HTN5 : Hid (Ts w5 (.slice ta4 N4 tc4) N4 U4) := HTN4x.out.below hb (Nat.le_refl _)
    clear HBD4x HBW4x HBX4x HRX4x HTX4x HBM4x HRM4x HTM4x HBN4x HRN4x HTN4x
    clear hb HCK
    have HSX := sameDfa_any (.slice ra2 a0n rc2) (.slice ta2 a0n tc2) (.slice ra a0n rc) (.slice ta a0n tc) a0n a0n a0n a0n (fun i j => if i < a0n ∧ j < 256 then a0R i ((fsts a0n a0R 256).getD (ofp a0n a0R j) 0) else 0) a0R a0T a0T w5 HRX5.out HTX5.out (HRW.out.below HBW5.out (Nat.le_refl _)) (HTS.out.below HBW5.out (Nat.le_refl _))
    rw [eqR_refl a0n _ _ (fun i j hi hj => by rw [if_pos ⟨hi, hj⟩]; exact (ofp_at a0n a0R hj).2 i hi), eqT_refl a0n _ _ (fun _ _ => rfl)] at HSX
    have HSX2 : Hid (Calls Try.prog 11 #[.agg #[.slice ra2 a0n rc2, .slice ta2 a0n tc2], .agg #[(.slice ra a0n rc), (.slice ta a0n tc)]] w5 fun e w' => e = .returned (.bool (true && true)) ∧ Below w5.heap.size w5 w') := HSX
    have y0 := HBX5.out.c0
    have y1 := HBX5.out.c1
    have y2 := HBD5.out.c0
    have y3 := HBD5.out.c1
    clear HSX
    go_wp2_with fail
    refine HSX2.out.mono ?_
    rintro _ w6 ⟨rfl, hb⟩
    have HBW6 : Hid (Below w.heap.size w w6) := HBW5.out.trans (hb.mono HBW5.out.size)
    have HBM6 : Hid (Bb gM (.slice ra3 N rc3) (.slice ta3 N tc3) w6) := HBM5.out.next hb
    have HRM6 : Hid (Rw w6 (.slice ra3 N rc3) N F) := HRM5.out.below hb (Nat.le_refl _)
    have HTM6 : Hid (Ts w6 (.slice ta3 N tc3) N U) := HTM5.out.below hb (Nat.le_refl _)
    have HBN6 : Hid (Bb gN (.slice ra4 N4 rc4) (.slice ta4 N4 tc4) w6) := HBN5.out.next hb
    have HRN6 : Hid (Rw w6 (.slice ra4 N4 rc4) N4 F4) := HRN5.out.below hb (Nat.le_refl _)
    have HTN6 : Hid (Ts w6 (.slice ta4 N4 tc4) N4 U4) := HTN5.out.below hb (Nat.le_refl _)
    clear HBW5 HBM5 HRM5 HTM5 HBN5 HRN5 HTN5
    clear hb HSX2 y0 y1 y2 y3
    have HSX := sameDfa_any (.slice ra3 N rc3) (.slice ta3 N tc3) (.slice ra4 N4 rc4) (.slice ta4 N4 tc4) N N N4 N4 F F4 U U4 w6 HRM6.out HTM6.out HRN6.out HTN6.out
    have HSS : Hid ((eqR N N4 F F4 && eqT N N4 U U4) = true) := by
      show _ = _
      rw [← HEQ.out.1, eqR_refl N _ _ (fun i j hi hj => HEQ.out.2.1 i j hi hj), eqT_refl N _ _ (fun i hi => HEQ.out.2.2 i hi)]
      rfl
    rw [HSS.out] at HSX
    have HSX2 : Hid (Calls Try.prog 11 #[.agg #[.slice ra3 N rc3, .slice ta3 N tc3], .agg #[.slice ra4 N4 rc4, .slice ta4 N4 tc4]] w6 fun e w' => e = .returned (.bool true) ∧ Below w6.heap.size w6 w') := HSX
    have y0 := HBM6.out.c0
    have y1 := HBM6.out.c1
    have y2 := HBN6.out.c0
    have y3 := HBN6.out.c1
    clear HSX
    go_wp2_with fail
    refine HSX2.out.mono ?_
    rintro _ w7 ⟨rfl, hb⟩
    have HBW7 : Hid (Below w.heap.size w w7) := HBW6.out.trans (hb.mono HBW6.out.size)
    clear hb HSX2 y0 y1 y2 y3
    go_wp2_with fail
    go_ret
    exact ⟨rfl, HBW7.out⟩
  · have hc0 : (c == 0) = false := by simp [h0]
    have hcc : (c == c) = true := by simp
    have hpk := pack_bad (.slice ra a0n rc) (.slice ta a0m tc) a0n a0m a0R a0T _ HR0.out HT0.out (by rw [HC.out]; exact h0)
    rw [HC.out, ← hzs] at hpk
    have HONE : Hid (zs.all (·.oneCell') = true) := by show _ = _; rw [hzs]; exact pl_one _ _ _ _ _ _ _
    have HRN : Hid (∀ W : World, (W.alloc (Obj.cells zs 47)).cell? ⟨W.heap.size, 256, none⟩ = some (.slice none 0 0)) := fun W => by
      have := cell_of_block W zs.toList 47 256
      simp only [Array.toArray_toList] at this
      rw [this, hzs]
      exact pl_next _ _ _
    clear hzs hzsz
    go_enter Try.func7, Try.ntmps7
    go_wp2_with fail
    refine hpk.mono ?_
    rintro _ w1 ⟨rfl, hb⟩
    have hz256 := HRN.out w1
    have B1 : Below w.heap.size w w1 := B0.trans (hb.mono B0.size)
    have hbx := below_box w1 (Obj.cells zs 47)
    have B2 : Below w.heap.size w (w1.alloc (Obj.cells zs 47)) := B1.trans (hbx.mono B1.size)
    have HBD2 : Hid (Bb w.heap.size (.slice ra a0n rc) (.slice ta a0m tc) (w1.alloc (Obj.cells zs 47))) := (HBD0.out.next hb).next hbx
    have y0 := HBD2.out.c0
    have y1 := HBD2.out.c1
    have hck := check_any (.slice ra a0n rc) (.slice ta a0m tc) a0n a0m a0R a0T _ (HRW.out.below B2 (Nat.le_refl _)) (HTS.out.below B2 (Nat.le_refl _))
    rw [HC.out] at hck
    clear hb hpk hbx
    go_wp2_with (refine wpList_store_new47 rfl _ _ rfl zs zs rfl rfl HZS.out HZS.out HONE.out ?_)
    refine hck.mono ?_
    rintro _ w2 ⟨rfl, hb⟩
    have B3 : Below w.heap.size w w2 := B2.trans (hb.mono B2.size)
    have z0 : w2.cell? ⟨w1.heap.size, 256, none⟩ = some (.slice none 0 0) := (hb.cell (by simp)).trans hz256
    clear hb hck y0 y1 hz256
    go_wp2_with fail
    go_ret
    exact ⟨rfl, B3⟩

/-! ### What the walk gives, for every argument -/
set_option maxRecDepth 100000 in
theorem contract (H : Type) (enc : TypeId × Value → H) (W : World) (base : Nat) (args : Array Value) (ds gs : List (DataW H)) (before : List MemPlace)
    (hval : ∀ (j : Nat) t v, Try.f7.params[j]? = some t → args[j]? = some v → Value.okWide Try.prog W .any base t v)
    (hW : DataW.Whole enc Try.prog Try.f7.params.toList Rows.smallBackSpec.vars false W args.toList ds gs before) (hsz : (DataW.weightsEach Try.prog (Try.f7.params.toList ++ Rows.smallBackSpec.plain.varTypes Try.prog) (ds ++ gs)).all (· ≤ reachBytes) = true) :
    Calls Try.prog 7 args W fun e W' => ∃ v, e = .returned v ∧ Rows.smallBackSpec.post enc Try.prog Try.f7 false true false false W args v W' := by
  have hW' := hW
  obtain ⟨p, q, hA0, hV, rfl, hfz, hnd⟩ := hW
  have hA : DataW.TrodAll enc Try.prog W 0 (fun _ => true) true Try.f7.params.toList args.toList ds p := hA0
  rw [Try.params7] at hA hval hsz
  obtain ⟨v0, vs0, d0, ds0, p0, q0, hargs, rfl, rfl, h0, r0⟩ := trodAll_cons hA
  obtain ⟨rfl, rfl, rfl⟩ := trodAll_nil r0
  obtain rfl : args = #[v0] := by cases args; simp_all
  obtain ⟨rfl, rfl⟩ := trodVars_none hV
  have k0 := h0
  have lt0 : ∀ x ∈ p0, x.block < W.heap.size := by obtain ⟨m, hm⟩ := k0; exact DataW.trod_lt m _ _ _ hm
  obtain ⟨a0r, a0t, a0n, a0m, a0R, a0T, rfl, w0s, w0u⟩ := open_dfa (hval 0 25 v0 rfl rfl) h0
  clear hA0
  refine (walk a0r a0t a0n a0m a0R a0T W w0s w0u).mono fun e W' ⟨he, bel⟩ => ?_
  subst he
  exact ⟨_, rfl, _, _, _, [], _, [], hW', trodAll_mk1 (shut_bool Try.underlying4 _), (trodAll_cons_mk (Below.trod laidOut (by kernel_rfl) (of_decide_eq_true (by kernel_rfl)) k0 bel lt0) trodAll_mk0), rfl, bel.frame _, fun h => by cases h⟩

/-! ### The row's step -/
set_option maxRecDepth 100000 in
theorem lifted (os : Os) (started : os.Started) (H : Type) (enc : TypeId × Value → H) :
    ReturnsInHanded {} Try.checked os 7 .any (Rows.smallBackSpec.pre6 enc Try.prog Try.f7 Rows.smallBackRow.domain false) (Rows.smallBackSpec.post enc Try.prog Try.f7 false true false false) := by
  refine returnsInHanded_of_change_sized (C := Try.checked) own started (by kernel_rfl) Try.func7
    (ChangeSpec.witness6 (enc := enc) (C := Try.checked) false ⟨#[], #[.agg #[.slice none 0 0, .slice none 0 0]], []⟩ 8 (by kernel_rfl) (by kernel_rfl) (by kernel_rfl) (by kernel_rfl)) ?_
  intro W base args ds gs before hval hW hcnd hsz _
  exact contract H enc W base args ds gs before hval hW hsz

theorem over : Rows.smallBackRow.holds Try.pinned (OpenSpec.ofChange Rows.smallBackSpec) :=
  OpenClaim.holds_of_wide 7 Try.f7 rfl rfl rfl rfl rfl rfl rfl ⟨rfl, rfl, rfl, rfl, rfl⟩ rfl rfl rfl rfl rfl (by kernel_rfl) Try.func7 (by kernel_rfl)
    (of_decide_eq_true (by kernel_rfl)) (by unfold Func.isWrapper; first | (rw [if_pos (by decide +kernel)]; kernel_rfl) | (rw [if_neg (by decide +kernel)]; exact ⟨rfl, rfl⟩))
    (fun os started H enc _ => lifted os started H enc)

end Go.Proofs.Ytlgcggfenljdnaa.smallBack
namespace Go.Proofs.Ytlgcggfenljdnaa
/-- The given statement. -/
theorem smallBack_holds : Rows.SmallBackSaid := smallBack.over
#print axioms smallBack_holds
end Go.Proofs.Ytlgcggfenljdnaa
