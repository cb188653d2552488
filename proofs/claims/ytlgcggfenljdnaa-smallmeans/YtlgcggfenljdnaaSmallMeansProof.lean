/-
  SmallMeans returns true whatever automaton and text are handed in, and changes nothing that it was handed; no condition.
-/
import Derived.Test.YtlgcggfenljdnaaRows
import Derived.WalkKit
import Derived.ProofKit
import Derived.OpenShut
import Derived.ShutString
import Derived.SizedLaws
import Derived.ChangeOld
import Derived.Below
import Derived.Carry
import Derived.WalkLawsBesides
import Derived.WalkSpells
import Derived.Test.YtlgcggfenljdnaaOpens
import Derived.Test.YtlgcggfenljdnaaMnMin
namespace Go.Proofs.Ytlgcggfenljdnaa.smallMeans
open Go.ChangeShapes Go.WideShapes Go.ChangeAt Go.RowKit
open Go.ChangeMaps (open_string shut_string)
open Dfa
set_option linter.unusedVariables false

theorem own : ownKnob Try.prog.godebug = none := by kernel_rfl
theorem laidOut : laidOutB Try.prog = true := by kernel_rfl

/-! ### The walk: the Go text returns true. -/
set_option maxHeartbeats 4000000 in
set_option maxRecDepth 20000 in
theorem walk (a0r : Value) (a0t : Value) (a0n : Nat) (a0m : Nat) (a0R : Nat → Nat → Int) (a0T : Nat → Int) (a1 : ByteArray) (w : World) (w0s : Rw w a0r a0n a0R) (w0u : Ts w a0t a0m a0T) (w1 : a1.size ≤ 140737488351232) :
    Calls Try.prog 4 #[.agg #[a0r, a0t], .string a1] w fun e w' => e = .returned (.bool true) ∧ Below w.heap.size w w' := by
  have hs1 : a1.size ≤ 9223372036854775807 := by omega
  have HRW : Hid (Rw w a0r a0n a0R) := w0s
  have HTS : Hid (Ts w a0t a0m a0T) := w0u
  obtain ⟨ra, rc, rfl, hrn, -⟩ := w0s
  obtain ⟨ta, tc, rfl, -⟩ := w0u
  have B0 : Below w.heap.size w (w.alloc (Obj.cells #[(.slice ra a0n rc), (.slice ta a0m tc)] 25)) := (Below.refl _ _).alloc (Nat.le_refl _) _
  have HR0 : Hid (Rw (w.alloc (Obj.cells #[(.slice ra a0n rc), (.slice ta a0m tc)] 25)) (.slice ra a0n rc) a0n a0R) := HRW.out.below B0 (Nat.le_refl _)
  have HT0 : Hid (Ts (w.alloc (Obj.cells #[(.slice ra a0n rc), (.slice ta a0m tc)] 25)) (.slice ta a0m tc) a0m a0T) := HTS.out.below B0 (Nat.le_refl _)
  obtain ⟨c, HC⟩ : ∃ c, Hid (chk a0n a0m a0R a0T = c) := ⟨_, (rfl : _ = _)⟩
  by_cases h0 : c = 0
  · subst h0
    obtain ⟨g0, g1, g2, g3, -⟩ := chk_zero HC.out
    have g2s := g2.symm
    subst g2s
    have HG : Hid (0 < a0n ∧ rowsOk a0n a0R = true) := ⟨g0, g3⟩
    have hmi := min_ok (.slice ra a0n rc) (.slice ta a0n tc) a0n a0R a0T _ HR0.out HT0.out HC.out
    clear g2 g3
    go_enter Try.func4, Try.ntmps4
    go_wp2_with fail
    refine hmi.mono ?_
    rintro _ w1 ⟨rv2, tv2, rfl, hmo, hb⟩
    obtain ⟨N, F, U, K, met, hm1, hm2, hm3, -, -⟩ := hmo
    have HMN : Hid (∀ l, tg F U 0 l = tg a0R a0T 0 l) := fun l => hm1.means HG.out.2 HG.out.1 l
    have HCN : Hid (chk N N F U = 0) := hm1.right HC.out
    obtain ⟨hN0, hN1⟩ := hm1.few
    have B1 : Below w.heap.size w w1 := B0.trans (hb.mono B0.size)
    have hwl : w.heap.size < w1.heap.size := by have := hb.size; simp at this; omega
    obtain ⟨ra2, rc2, hre, -⟩ := id hm2
    obtain ⟨ta2, tc2, hte, -⟩ := id hm3
    subst hre hte
    have BA : Below w1.heap.size w1 (w1.alloc (Obj.cells #[(.slice ra2 N rc2), (.slice ta2 N tc2)] 25)) := (Below.refl _ _).alloc (Nat.le_refl _) _
    have HR1 : Hid (Rw w1 (.slice ra2 N rc2) N F) := hm2
    have HT1 : Hid (Ts w1 (.slice ta2 N tc2) N U) := hm3
    have HB1 : Hid (Below w.heap.size w w1 ∧ w1.cell? ⟨w.heap.size, 0, none⟩ = some (.slice ra a0n rc) ∧ w1.cell? ⟨w.heap.size, 1, none⟩ = some (.slice ta a0n tc)) := ⟨B1, (hb.cell (by simp)).trans (by simp), (hb.cell (by simp)).trans (by simp)⟩
    have y0 : (w1.alloc (Obj.cells #[(.slice ra2 N rc2), (.slice ta2 N tc2)] 25)).cell? ⟨w.heap.size, 0, none⟩ = some (.slice ra a0n rc) := Go.Lib.cell?_alloc_some _ HB1.out.2.1
    have y1 : (w1.alloc (Obj.cells #[(.slice ra2 N rc2), (.slice ta2 N tc2)] 25)).cell? ⟨w.heap.size, 1, none⟩ = some (.slice ta a0n tc) := Go.Lib.cell?_alloc_some _ HB1.out.2.2
    have B2 : Below w.heap.size w (w1.alloc (Obj.cells #[(.slice ra2 N rc2), (.slice ta2 N tc2)] 25)) := B1.trans (BA.mono B1.size)
    have hta := Tag_any (.slice ra a0n rc) (.slice ta a0n tc) a0n a0n a0R a0T a1 _ (HRW.out.below B2 (Nat.le_refl _)) (HTS.out.below B2 (Nat.le_refl _)) hs1
    rw [tagAns_ok HC.out, HC.out] at hta
    have HTE : Hid (tagOf a0T (goes a0R 0 a1.data.toList) = tagOf U (goes F 0 a1.data.toList)) := (HMN.out a1.data.toList).symm
    obtain ⟨t, HTT⟩ : ∃ q, Hid (tagOf a0T (goes a0R 0 a1.data.toList) = q) := ⟨_, (rfl : _ = _)⟩
    rw [HTT.out] at hta HTE
    clear hm1 hm2 hm3 hb hmi
    go_wp2_with fail
    refine hta.mono ?_
    rintro _ w2 ⟨rfl, hb⟩
    have B3 : Below w.heap.size w w2 := B2.trans (hb.mono B2.size)
    have B13 : Below w1.heap.size w1 w2 := BA.trans (hb.mono BA.size)
    have z0 : w2.cell? ⟨w1.heap.size, 0, none⟩ = some (.slice ra2 N rc2) := (hb.cell (by simp)).trans (by simp)
    have z1 : w2.cell? ⟨w1.heap.size, 1, none⟩ = some (.slice ta2 N tc2) := (hb.cell (by simp)).trans (by simp)
    have HZ : Hid (w2.cell? ⟨w.heap.size, 0, none⟩ = some (.slice ra a0n rc) ∧ w1.heap.size < w2.heap.size) := ⟨(hb.cell (by simp; omega)).trans y0, by have := hb.size; simp at this; omega⟩
    have htb := Tag_any (.slice ra2 N rc2) (.slice ta2 N tc2) N N F U a1 w2 (HR1.out.below B13 (Nat.le_refl _)) (HT1.out.below B13 (Nat.le_refl _)) hs1
    rw [tagAns_ok HCN.out, HCN.out, ← HTE.out] at htb
    clear hb hta y0 y1
    go_wp2_with fail
    refine htb.mono ?_
    rintro _ w3 ⟨rfl, hb⟩
    have B4 : Below w.heap.size w w3 := B3.trans (hb.mono B3.size)
    have v0 : w3.cell? ⟨w1.heap.size, 0, none⟩ = some (.slice ra2 N rc2) := (hb.cell (p := ⟨w1.heap.size, 0, none⟩) HZ.out.2).trans z0
    have v1 : w3.cell? ⟨w.heap.size, 0, none⟩ = some (.slice ra a0n rc) := (hb.cell (p := ⟨w.heap.size, 0, none⟩) (by have := HZ.out.2; simp; omega)).trans HZ.out.1
    have htt : (t == t) = true := by simp
    have hN2 : (N : Int) ≤ (a0n : Int) := by omega
    have hN3 : (0 : Int) < (N : Int) := by omega
    clear hb htb z0 z1 HZ
    go_wp2_with fail
    go_ret
    exact ⟨rfl, B4⟩
  · have hc0 : (c == 0) = false := by simp [h0]
    have hcc : (c == c) = true := by simp
    have hmi := min_bad (.slice ra a0n rc) (.slice ta a0m tc) a0n a0m a0R a0T _ HR0.out HT0.out (by rw [HC.out]; exact h0)
    rw [HC.out] at hmi
    go_enter Try.func4, Try.ntmps4
    go_wp2_with fail
    refine hmi.mono ?_
    rintro _ w1 ⟨rfl, hb⟩
    have B1 : Below w.heap.size w w1 := B0.trans (hb.mono B0.size)
    have B2 : Below w.heap.size w (w1.alloc (Obj.cells #[.slice none 0 0, .slice none 0 0] 25)) := B1.alloc B1.size _
    have y0 : (w1.alloc (Obj.cells #[.slice none 0 0, .slice none 0 0] 25)).cell? ⟨w.heap.size, 0, none⟩ = some (.slice ra a0n rc) := Go.Lib.cell?_alloc_some _ ((hb.cell (by simp)).trans (by simp))
    have y1 : (w1.alloc (Obj.cells #[.slice none 0 0, .slice none 0 0] 25)).cell? ⟨w.heap.size, 1, none⟩ = some (.slice ta a0m tc) := Go.Lib.cell?_alloc_some _ ((hb.cell (by simp)).trans (by simp))
    have hck := check_any (.slice ra a0n rc) (.slice ta a0m tc) a0n a0m a0R a0T _ (HRW.out.below B2 (Nat.le_refl _)) (HTS.out.below B2 (Nat.le_refl _))
    rw [HC.out] at hck
    clear hb hmi
    go_wp2_with fail
    refine hck.mono ?_
    rintro _ w2 ⟨rfl, hb⟩
    have B3 : Below w.heap.size w w2 := B2.trans (hb.mono B2.size)
    have z0 : w2.cell? ⟨w1.heap.size, 0, none⟩ = some (.slice none 0 0) := (hb.cell (by simp)).trans (by simp)
    clear hb hck y0 y1
    go_wp2_with fail
    go_ret
    exact ⟨rfl, B3⟩

/-! ### What the walk gives, for every argument -/
set_option maxRecDepth 100000 in
theorem contract (H : Type) (enc : TypeId × Value → H) (W : World) (base : Nat) (args : Array Value) (ds gs : List (DataW H)) (before : List MemPlace)
    (hval : ∀ (j : Nat) t v, Try.f4.params[j]? = some t → args[j]? = some v → Value.okWide Try.prog W .any base t v)
    (hW : DataW.Whole enc Try.prog Try.f4.params.toList Rows.smallMeansSpec.vars false W args.toList ds gs before) (hsz : (DataW.weightsEach Try.prog (Try.f4.params.toList ++ Rows.smallMeansSpec.plain.varTypes Try.prog) (ds ++ gs)).all (· ≤ reachBytes) = true) :
    Calls Try.prog 4 args W fun e W' => ∃ v, e = .returned v ∧ Rows.smallMeansSpec.post enc Try.prog Try.f4 false true false false W args v W' := by
  have hW' := hW
  obtain ⟨p, q, hA0, hV, rfl, hfz, hnd⟩ := hW
  have hA : DataW.TrodAll enc Try.prog W 0 (fun _ => true) true Try.f4.params.toList args.toList ds p := hA0
  rw [Try.params4] at hA hval hsz
  obtain ⟨v0, vs0, d0, ds0, p0, q0, hargs, rfl, rfl, h0, r0⟩ := trodAll_cons hA
  obtain ⟨v1, vs1, d1, ds1, p1, q1, rfl, rfl, rfl, h1, r1⟩ := trodAll_cons r0
  obtain ⟨rfl, rfl, rfl⟩ := trodAll_nil r1
  obtain rfl : args = #[v0, v1] := by cases args; simp_all
  obtain ⟨rfl, rfl⟩ := trodVars_none hV
  have k0 := h0
  have lt0 : ∀ x ∈ p0, x.block < W.heap.size := by obtain ⟨m, hm⟩ := k0; exact DataW.trod_lt m _ _ _ hm
  obtain ⟨a0r, a0t, a0n, a0m, a0R, a0T, rfl, w0s, w0u⟩ := open_dfa (hval 0 25 v0 rfl rfl) h0
  obtain ⟨a1, rfl, rfl, rfl, w1⟩ := open_string Try.underlying9 (hval 1 9 v1 rfl rfl) h1
  have r1z : a1.size ≤ 140737488351232 := by have := sized_string hsz (j := 1) (t := 9) rfl rfl; simpa [reachBytes] using this
  clear hA0
  refine (walk a0r a0t a0n a0m a0R a0T a1 W w0s w0u r1z).mono fun e W' ⟨he, bel⟩ => ?_
  subst he
  exact ⟨_, rfl, _, _, _, [], _, [], hW', trodAll_mk1 (shut_bool Try.underlying4 _), (trodAll_cons_mk (Below.trod laidOut (by kernel_rfl) (of_decide_eq_true (by kernel_rfl)) k0 bel lt0) (trodAll_cons_mk (shut_string Try.underlying9 w1) trodAll_mk0)), rfl, bel.frame _, fun h => by cases h⟩

/-! ### The row's step -/
set_option maxRecDepth 100000 in
theorem lifted (os : Os) (started : os.Started) (H : Type) (enc : TypeId × Value → H) :
    ReturnsInHanded {} Try.checked os 4 .any (Rows.smallMeansSpec.pre6 enc Try.prog Try.f4 Rows.smallMeansRow.domain false) (Rows.smallMeansSpec.post enc Try.prog Try.f4 false true false false) := by
  refine returnsInHanded_of_change_sized (C := Try.checked) own started (by kernel_rfl) Try.func4
    (ChangeSpec.witness6 (enc := enc) (C := Try.checked) false ⟨#[], #[.agg #[.slice none 0 0, .slice none 0 0], .string .empty], []⟩ 8 (by kernel_rfl) (by kernel_rfl) (by kernel_rfl) (by kernel_rfl)) ?_
  intro W base args ds gs before hval hW hcnd hsz _
  exact contract H enc W base args ds gs before hval hW hsz

theorem over : Rows.smallMeansRow.holds Try.pinned (OpenSpec.ofChange Rows.smallMeansSpec) :=
  OpenClaim.holds_of_wide 4 Try.f4 rfl rfl rfl rfl rfl rfl rfl ⟨rfl, rfl, rfl, rfl, rfl⟩ rfl rfl rfl rfl rfl (by kernel_rfl) Try.func4 (by kernel_rfl)
    (of_decide_eq_true (by kernel_rfl)) (by unfold Func.isWrapper; first | (rw [if_pos (by decide +kernel)]; kernel_rfl) | (rw [if_neg (by decide +kernel)]; exact ⟨rfl, rfl⟩))
    (fun os started H enc _ => lifted os started H enc)

end Go.Proofs.Ytlgcggfenljdnaa.smallMeans
namespace Go.Proofs.Ytlgcggfenljdnaa
/-- The given statement. -/
theorem smallMeans_holds : Rows.SmallMeansSaid := smallMeans.over
#print axioms smallMeans_holds
end Go.Proofs.Ytlgcggfenljdnaa
