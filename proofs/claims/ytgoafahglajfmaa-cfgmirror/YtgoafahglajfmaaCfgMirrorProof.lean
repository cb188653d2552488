/-
  CfgMirror returns true whatever grammar is handed in, and changes nothing that it was handed; no condition.
-/
import Derived.Test.YtgoafahglajfmaaRows
import Derived.WalkKit
import Derived.ProofKit
import Derived.OpenShut
import Derived.ShutString
import Derived.SizedLaws
import Derived.ChangeOld
import Derived.Below
import Derived.Carry
import Derived.WalkLawsBesides
import Derived.WalkSpells
import Derived.Test.YtgoafahglajfmaaOpens
import Derived.Test.YtgoafahglajfmaaClos
namespace Go.Proofs.Ytgoafahglajfmaa.cfgMirror
open Go.ChangeShapes Go.WideShapes Go.ChangeAt Go.RowKit
open Go.ChangeMaps (open_string shut_string)
open Cg
set_option linter.unusedVariables false

theorem own : ownKnob Try.prog.godebug = none := by kernel_rfl
theorem laidOut : laidOutB Try.prog = true := by kernel_rfl

/-! ### The walk: the Go text returns true. -/
set_option maxHeartbeats 8000000 in
set_option maxRecDepth 20000 in
theorem walk (a0t : Int) (a0n : Int) (a0s : Value) (a0p : List Pd) (w : World) (w0s : Pds w a0s a0p) :
    Calls Try.prog 4 #[.agg #[.int .i64 a0t, .int .i64 a0n, a0s]] w fun e w' => e = .returned (.bool true) ∧ Below w.heap.size w w' := by
  have HG0 : Hid (Gb w w.heap.size a0t a0n a0s a0p (w.alloc (Obj.cells #[.int .i64 a0t, .int .i64 a0n, a0s] 24))) := Gb.box w0s a0t a0n
  obtain ⟨ao, c, rfl, hm, hcs⟩ := w0s
  revert HG0 hm hcs
  generalize a0t = t
  generalize a0n = n
  generalize a0p = ps
  intro HG0 hm hcs
  obtain ⟨r, HR⟩ : ∃ r, Hid (chk t n ps = r) := ⟨_, (rfl : chk t n ps = chk t n ps)⟩
  have hmf : ∀ (fn : Fn) (first cap : Array Value) (w : World), (Instr.makeFunc fn first cap).run Try.prog w = .ok (.func fn first cap) w := fun _ _ _ _ => rfl
  go_enter Try.func4, Try.ntmps4
  go_wp2_with fail
  by_cases h0 : r = 0
  · subst h0
    have HPL : Hid (ps.length ≤ 40) := (chk_zero HR.out).2.1
    have HTN : Hid (1 ≤ n ∧ n ≤ 20) := (okTN_le (chk_zero HR.out).1).2.2
    have HHD : Hid (∀ p ∈ ps, 0 ≤ p.1 ∧ p.1 < n) := fun p hp => okN_le (chkP_zero ((chk_zero HR.out).2.2 p hp)).2.1
    refine (Mirror_ok t n _ ps _ HG0.out.pds HR.out).mono ?_
    rintro _ w1 ⟨mg, rfl, hmp, hb⟩
    have HG1 : Hid (Gb w w.heap.size t n (.slice ao ps.length c) ps (w1.alloc (Obj.cells #[.int .i64 t, .int .i64 n, .slice (some ⟨mg, 0, none⟩) ps.length ps.length] 24))) := (HG0.out.next hb).next (below_alloc _ _)
    have HM1 : Hid (Pds (w1.alloc (Obj.cells #[.int .i64 t, .int .i64 n, .slice (some ⟨mg, 0, none⟩) ps.length ps.length] 24)) (.slice (some ⟨mg, 0, none⟩) ps.length ps.length) (turn ps)) := hmp.below (below_alloc _ _)
    clear hb hmp HG0
    go_wp2_with fail
    have HTC : Hid (chk t n (turn ps) = 0) := turn_chk HR.out
    have hc := Mirror_ok t n _ (turn ps) _ HM1.out HTC.out
    rw [turn_turn, turn_length] at hc
    refine hc.mono ?_
    rintro _ w2 ⟨hg, rfl, hhp, hb⟩
    have HG2 : Hid (Gb w w.heap.size t n (.slice ao ps.length c) ps (w2.alloc (Obj.cells #[.int .i64 t, .int .i64 n, .slice (some ⟨hg, 0, none⟩) ps.length ps.length] 24))) := (HG1.out.next hb).next (below_alloc _ _)
    have HM2 : Hid (Pds (w2.alloc (Obj.cells #[.int .i64 t, .int .i64 n, .slice (some ⟨hg, 0, none⟩) ps.length ps.length] 24)) (.slice (some ⟨hg, 0, none⟩) ps.length ps.length) ps) := hhp.below (below_alloc _ _)
    clear hb hhp HG1 hc HM1
    have z0 := HG2.out.c0
    have z1 := HG2.out.c1
    have z2 := HG2.out.c2
    go_wp2_with fail
    clear z0 z1 z2
    refine (same_true t n _ _ ps _ HG2.out.pds HM2.out).mono ?_
    rintro _ w3 ⟨rfl, hb⟩
    have HG3 : Hid (Gb w w.heap.size t n (.slice ao ps.length c) ps w3) := HG2.out.next hb
    clear hb HG2 HM2
    have z1 := HG3.out.c1
    obtain ⟨k, HK⟩ : ∃ k : Nat, Hid (n = (k : Int)) := ⟨n.toNat, by show _ = _; have := HTN.out; omega⟩
    have HK20 : Hid (k ≤ 20) := by show _ ≤ _; have := HTN.out; have := HK.out; omega
    rw [HK.out] at z1
    go_wp2_with fail
    clear z1
    go_loopw [36, 6] (fun i a wr => ∃ q : Nat, q ≤ k ∧ i = .int .i64 (q : Int) ∧ a = .int .i64 ((cntT ps ps.length q : Nat) : Int) ∧ Hid (Gb w w.heap.size t n (.slice ao ps.length c) ps wr)) (fun i _ _ => k - (intOf i).toNat)
    case atStart => exact ⟨0, by omega, rfl, rfl, HG3⟩
    case round =>
      obtain ⟨q, hq, rfl, rfl, HG⟩ := hrel
      clear HG3
      by_cases hlt : q < k
      · have hk1 : (q : Int) < (k : Int) := by omega
        have HN0 : Hid (Gb w w.heap.size t n (.slice ao ps.length c) ps (wr.alloc (Obj.cells #[.int .i64 (q : Int)] 3))) := HG.out.next (below_alloc _ _)
        have HNC : Hid ((wr.alloc (Obj.cells #[.int .i64 (q : Int)] 3)).cell? ⟨wr.heap.size, 0, none⟩ = some (.int .i64 (q : Int)) ∧ wr.heap.size < (wr.alloc (Obj.cells #[.int .i64 (q : Int)] 3)).heap.size) := ⟨cell_new wr #[.int .i64 (q : Int)] 3 0, by simp⟩
        have z0 := HN0.out.c0
        have z1 := HN0.out.c1
        have z2 := HN0.out.c2
        go_wp2_with fail
        clear z0 z1 z2 HG
        have HOE : Hid (ofE t n ps (q : Int) = 0) := by
          show _ = _
          unfold ofE; rw [if_pos HR.out, if_pos (by unfold okN; have := HK.out; simp; omega)]
        have HOR : Hid (ofR t n ps (q : Int) = ofL ps (q : Int)) := by show _ = _; unfold ofR; rw [if_pos HOE.out]
        have hc := Of_any t n _ ps (q : Int) _ HN0.out.pds
        rw [HOE.out, HOR.out] at hc
        refine hc.mono ?_
        rintro _ w5 ⟨lv, rfl, hli, hb⟩
        have HG5 : Hid (Gb w w.heap.size t n (.slice ao ps.length c) ps w5) := HN0.out.next hb
        have HNC5 : Hid (w5.cell? ⟨wr.heap.size, 0, none⟩ = some (.int .i64 (q : Int)) ∧ wr.heap.size < w5.heap.size) := ⟨(hb.cell (p := ⟨wr.heap.size, 0, none⟩) HNC.out.2).trans HNC.out.1, Nat.lt_of_lt_of_le HNC.out.2 hb.size⟩
        have HLI : Hid (Ints w5 lv (ofL ps (q : Int))) := hli
        obtain ⟨la, lc, rfl, -, -⟩ := hli
        have HCN : Hid (cntT ps ps.length (q + 1) = cntT ps ps.length q + (ofL ps (q : Int)).length) := rfl
        have HCL : Hid (cntT ps ps.length q ≤ 800 ∧ (ofL ps (q : Int)).length ≤ 40) := by
          have h1 := cntT_le ps ps.length q
          have h2 := ofQ_length ps (q : Int) ps.length
          have h3 := HPL.out
          have h4 : ps.length * q ≤ 40 * 20 := Nat.mul_le_mul h3 (by have := HK20.out; omega)
          exact ⟨by omega, by unfold ofL; omega⟩
        clear hb hc HN0 HNC
        have HCF : Hid (∀ (W : World) (i : Nat) (hi : i < (ofL ps (q : Int)).length), Below w5.heap.size w5 W → Calls Try.prog 13 #[.int .i64 (ofL ps (q : Int))[i], .pointer (some ⟨w.heap.size, 0, none⟩), .pointer (some ⟨wr.heap.size, 0, none⟩)] W fun e w' => e = .returned (.bool false) ∧ Below W.heap.size W w') := fun W i hi hbW => by
          obtain ⟨y, hy, e1, e2⟩ := ofQ_mem (Nat.le_refl _) (List.getElem_mem hi)
          rw [e1]
          obtain ⟨b, o, rfl, hb, hcc⟩ := hcs.resolve_left (by intro e; subst e; simp at hy)
          have hW := HG5.out.next hbW
          have hd := (hW.below.cell (p := ⟨b, o + y * 2, none⟩) hb).trans (hcc y hy).1
          rw [e2] at hd
          exact clos13 y ps.length w.heap.size wr.heap.size b o c (q : Int) hy W hW.c2 hd ((hbW.cell (p := ⟨wr.heap.size, 0, none⟩) HNC5.out.2).trans HNC5.out.1)
        obtain ⟨cq, HCQ⟩ : ∃ cq, Hid (cntT ps ps.length q = cq) := ⟨_, (rfl : cntT ps ps.length q = cntT ps ps.length q)⟩
        rw [HCQ.out] at HCN HCL ⊢
        go_wp2_with fail
        refine (containsF_none _ _ _ _ w5 HLI.out HCF.out).mono ?_
        rintro _ w6 ⟨rfl, hb⟩
        have HG6 : Hid (Gb w w.heap.size t n (.slice ao ps.length c) ps w6) := HG5.out.next hb
        clear hb HG5 HLI HCF HNC5
        have hcl1 := HCL.out.1
        have hcl2 := HCL.out.2
        have hk20 := HK20.out
        go_wp2_with fail
        go_roundw
        case rel => exact ⟨q + 1, by omega, by go_num, by rw [HCN.out]; go_num, HG6⟩
        case measure => simp [intOf]; omega
      · have hqk : q = k := by omega
        subst hqk
        have z2 := HG.out.c2
        have HALL : Hid (cntT ps ps.length q = ps.length) := cntT_all ps q (fun p hp => by have := HHD.out p hp; have := HK.out; omega) ps.length (Nat.le_refl _)
        rw [HALL.out]
        have hll : ((ps.length : Int) == (ps.length : Int)) = true := by simp
        go_wp2_with fail
        go_ret
        exact ⟨by simp, HG.out.below⟩
  · have h0b : (r != 0) = true := by simp; exact h0
    have hrr2 : (r == r) = true := by simp
    refine (Mirror_bad t n _ ps _ HG0.out.pds r HR.out h0).mono ?_
    rintro _ w1 ⟨rfl, hb⟩
    have HG1 : Hid (Gb w w.heap.size t n (.slice ao ps.length c) ps (w1.alloc (Obj.cells #[.int .i64 0, .int .i64 0, .slice none 0 0] 24))) := (HG0.out.next hb).next (below_alloc _ _)
    clear hb HG0 h0
    have z0 := HG1.out.c0
    have z1 := HG1.out.c1
    have z2 := HG1.out.c2
    go_wp2_with fail
    clear z0 z1 z2
    have hc := Check_any t n _ ps _ HG1.out.pds
    rw [HR.out] at hc
    refine hc.mono ?_
    rintro _ w2 ⟨rfl, hb⟩
    have HB2 : Hid (Below w.heap.size w w2) := (HG1.out.next hb).below
    clear hc hb HG1
    go_wp2_with fail
    go_ret
    exact ⟨by simp, HB2.out⟩

/-! ### What the walk gives, for every argument -/
set_option maxRecDepth 100000 in
theorem contract (H : Type) (enc : TypeId × Value → H) (W : World) (base : Nat) (args : Array Value) (ds gs : List (DataW H)) (before : List MemPlace)
    (hval : ∀ (j : Nat) t v, Try.f4.params[j]? = some t → args[j]? = some v → Value.okWide Try.prog W .any base t v)
    (hW : DataW.Whole enc Try.prog Try.f4.params.toList Rows.cfgMirrorSpec.vars false W args.toList ds gs before) (hsz : (DataW.weightsEach Try.prog (Try.f4.params.toList ++ Rows.cfgMirrorSpec.plain.varTypes Try.prog) (ds ++ gs)).all (· ≤ reachBytes) = true) :
    Calls Try.prog 4 args W fun e W' => ∃ v, e = .returned v ∧ Rows.cfgMirrorSpec.post enc Try.prog Try.f4 false true false false W args v W' := by
  have hW' := hW
  obtain ⟨p, q, hA0, hV, rfl, hfz, hnd⟩ := hW
  have hA : DataW.TrodAll enc Try.prog W 0 (fun _ => true) true Try.f4.params.toList args.toList ds p := hA0
  rw [Try.params4] at hA hval hsz
  obtain ⟨v0, vs0, d0, ds0, p0, q0, hargs, rfl, rfl, h0, r0⟩ := trodAll_cons hA
  obtain ⟨rfl, rfl, rfl⟩ := trodAll_nil r0
  obtain rfl : args = #[v0] := by cases args; simp_all
  obtain ⟨rfl, rfl⟩ := trodVars_none hV
  have k0 := h0
  have lt0 : ∀ x ∈ p0, x.block < W.heap.size := by obtain ⟨m, hm⟩ := k0; exact DataW.trod_lt m _ _ _ hm
  obtain ⟨a0t, a0n, a0s, a0p, rfl, w0s⟩ := open_gram (hval 0 24 v0 rfl rfl) h0
  clear hA0
  refine (walk a0t a0n a0s a0p W w0s).mono fun e W' ⟨he, bel⟩ => ?_
  subst he
  exact ⟨_, rfl, _, _, _, [], _, [], hW', trodAll_mk1 (shut_bool Try.underlying4 _), (trodAll_cons_mk (Below.trod laidOut (by kernel_rfl) (of_decide_eq_true (by kernel_rfl)) k0 bel lt0) trodAll_mk0), rfl, bel.frame _, fun h => by cases h⟩

/-! ### The row's step -/
set_option maxRecDepth 100000 in
theorem lifted (os : Os) (started : os.Started) (H : Type) (enc : TypeId × Value → H) :
    ReturnsInHanded {} Try.checked os 4 .any (Rows.cfgMirrorSpec.pre6 enc Try.prog Try.f4 Rows.cfgMirrorRow.domain false) (Rows.cfgMirrorSpec.post enc Try.prog Try.f4 false true false false) := by
  refine returnsInHanded_of_change_sized (C := Try.checked) own started (by kernel_rfl) Try.func4
    (ChangeSpec.witness6 (enc := enc) (C := Try.checked) false ⟨#[], #[.agg #[.int .i64 0, .int .i64 0, .slice none 0 0]], []⟩ 8 (by kernel_rfl) (by kernel_rfl) (by kernel_rfl) (by kernel_rfl)) ?_
  intro W base args ds gs before hval hW hcnd hsz _
  exact contract H enc W base args ds gs before hval hW hsz

theorem over : Rows.cfgMirrorRow.holds Try.pinned (OpenSpec.ofChange Rows.cfgMirrorSpec) :=
  OpenClaim.holds_of_wide 4 Try.f4 rfl rfl rfl rfl rfl rfl rfl ⟨rfl, rfl, rfl, rfl, rfl⟩ rfl rfl rfl rfl rfl (by kernel_rfl) Try.func4 (by kernel_rfl)
    (of_decide_eq_true (by kernel_rfl)) (by unfold Func.isWrapper; first | (rw [if_pos (by decide +kernel)]; kernel_rfl) | (rw [if_neg (by decide +kernel)]; exact ⟨rfl, rfl⟩))
    (fun os started H enc _ => lifted os started H enc)

end Go.Proofs.Ytgoafahglajfmaa.cfgMirror
namespace Go.Proofs.Ytgoafahglajfmaa
/-- The given statement. -/
theorem cfgMirror_holds : Rows.CfgMirrorSaid := cfgMirror.over
#print axioms cfgMirror_holds
end Go.Proofs.Ytgoafahglajfmaa
