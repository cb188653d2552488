/-
  The law ClassSets holds: for every three classes the Go text returns true.
-/
import Derived.Test.YtgoejdakmbpcmaaRows
import Derived.WalkKit
import Derived.ProofKit
import Derived.OpenShut
import Derived.ShutString
import Derived.SizedLaws
import Derived.ChangeOld
import Derived.Below
import Derived.Carry
import Derived.WalkLawsBesides
import Derived.WalkSpells
import Derived.Test.YtgoejdakmbpcmaaOpens
import Derived.Deep.RegionHeld3
import Derived.Test.YtgoejdakmbpcmaaSets
import Derived.Test.YtgoejdakmbpcmaaRanges
import Derived.Test.YtgoejdakmbpcmaaEqs
import Derived.Test.YtgoejdakmbpcmaaKeeps
import Derived.Test.YtgoejdakmbpcmaaLex
namespace Go.Proofs.Ytgoejdakmbpcmaa.classSets
open Go.ChangeShapes Go.WideShapes Go.ChangeAt Go.RowKit
open Go.ChangeMaps (open_string shut_string)
open Cls
set_option linter.unusedVariables false

theorem own : ownKnob Try.prog.godebug = none := by kernel_rfl
theorem laidOut : laidOutB Try.prog = true := by kernel_rfl

/-! ### The walk: the Go text returns true. -/
set_option maxHeartbeats 100000000 in
set_option maxRecDepth 20000 in
theorem walk (a0c : Cls.Cl) (a1c : Cls.Cl) (a2c : Cls.Cl) (w : World)  :
    Calls Try.prog 5 #[.agg #[.int .u64 (a0c.1.toNat : Int), .int .u64 (a0c.2.1.toNat : Int), .int .u64 (a0c.2.2.1.toNat : Int), .int .u64 (a0c.2.2.2.toNat : Int)], .agg #[.int .u64 (a1c.1.toNat : Int), .int .u64 (a1c.2.1.toNat : Int), .int .u64 (a1c.2.2.1.toNat : Int), .int .u64 (a1c.2.2.2.toNat : Int)], .agg #[.int .u64 (a2c.1.toNat : Int), .int .u64 (a2c.2.1.toNat : Int), .int .u64 (a2c.2.2.1.toNat : Int), .int .u64 (a2c.2.2.2.toNat : Int)]] w fun e w' => e = .returned (.bool true) ∧ Below w.heap.size w w' := by
  have hq := eqIn24
  have hqz := eqIn_zero
  have hg := guard24
  have hq35 : ∀ w, (Op.equalIn 10000 24 (.agg #[.int .u64 ((range 3 5).1.toNat : Int), .int .u64 ((range 3 5).2.1.toNat : Int), .int .u64 ((range 3 5).2.2.1.toNat : Int), .int .u64 ((range 3 5).2.2.2.toNat : Int)]) (.agg #[.int .u64 56, .int .u64 0, .int .u64 0, .int .u64 0])).run Try.prog w = .ok true w := fun w => by
    rw [eqIn_lit (range 3 5) (56#64, 0#64, 0#64, 0#64) 56 0 0 0 rfl rfl rfl rfl w, decide_eq_true (by decide)]
  have e1 := neg_join a0c a1c
  have e2 := neg_neg a0c
  have e3 := meet_join a0c a1c a2c
  have e4 := join_meet a0c a1c a2c
  have e5 := join_absorb a0c a1c
  have e6 := join_neg a0c
  have e7 := meet_neg a0c
  go_enter Try.func5, Try.ntmps5
  go_wp2_with fail
  refine (range_any 3 5 (by omega) (by omega) (by omega) _).mono ?_
  rintro e W1 ⟨rfl, hb⟩
  have Gc := (((bx_new w a0c).alloc (.cells #[.int .u64 (a1c.1.toNat : Int), .int .u64 (a1c.2.1.toNat : Int), .int .u64 (a1c.2.2.1.toNat : Int), .int .u64 (a1c.2.2.2.toNat : Int)] 24)).alloc (.cells #[.int .u64 (a2c.1.toNat : Int), .int .u64 (a2c.2.1.toNat : Int), .int .u64 (a2c.2.2.1.toNat : Int), .int .u64 (a2c.2.2.2.toNat : Int)] 24)).next hb
  have Gd := ((bx_new (w.alloc (.cells #[.int .u64 (a0c.1.toNat : Int), .int .u64 (a0c.2.1.toNat : Int), .int .u64 (a0c.2.2.1.toNat : Int), .int .u64 (a0c.2.2.2.toNat : Int)] 24)) a1c).alloc (.cells #[.int .u64 (a2c.1.toNat : Int), .int .u64 (a2c.2.1.toNat : Int), .int .u64 (a2c.2.2.1.toNat : Int), .int .u64 (a2c.2.2.2.toNat : Int)] 24)).next hb
  have Ge := (bx_new ((w.alloc (.cells #[.int .u64 (a0c.1.toNat : Int), .int .u64 (a0c.2.1.toNat : Int), .int .u64 (a0c.2.2.1.toNat : Int), .int .u64 (a0c.2.2.2.toNat : Int)] 24)).alloc (.cells #[.int .u64 (a1c.1.toNat : Int), .int .u64 (a1c.2.1.toNat : Int), .int .u64 (a1c.2.2.1.toNat : Int), .int .u64 (a1c.2.2.2.toNat : Int)] 24)) a2c).next hb
  have HB : Hid (Below w.heap.size w W1) := ((((Below.refl _ w).alloc (Nat.le_refl _) _).alloc (by simp) _).alloc (by simp; omega) _).trans (hb.mono (by simp; omega))
  clear hb
  have hs1 : (w.alloc (.cells #[.int .u64 (a0c.1.toNat : Int), .int .u64 (a0c.2.1.toNat : Int), .int .u64 (a0c.2.2.1.toNat : Int), .int .u64 (a0c.2.2.2.toNat : Int)] 24)).heap.size = w.heap.size + 1 := by simp
  have hs2 : ((w.alloc (.cells #[.int .u64 (a0c.1.toNat : Int), .int .u64 (a0c.2.1.toNat : Int), .int .u64 (a0c.2.2.1.toNat : Int), .int .u64 (a0c.2.2.2.toNat : Int)] 24)).alloc (.cells #[.int .u64 (a1c.1.toNat : Int), .int .u64 (a1c.2.1.toNat : Int), .int .u64 (a1c.2.2.1.toNat : Int), .int .u64 (a1c.2.2.2.toNat : Int)] 24)).heap.size = w.heap.size + 1 + 1 := by simp
  rw [hs1] at Gd
  rw [hs2] at Ge
  clear hs1 hs2
  have S0 : S3 w w.heap.size (w.heap.size + 1) (w.heap.size + 1 + 1) a0c a1c a2c W1 := ⟨HB.out, Gc, Gd, Ge⟩
  clear HB Gc Gd Ge
  go_wp2_with fail
  clear hq35
  have pc0 : ∀ p : Kp (S3 w w.heap.size (w.heap.size + 1) (w.heap.size + 1 + 1) a0c a1c a2c), p.W.cell? ⟨w.heap.size, 0, none⟩ = some (.int .u64 (a0c.1.toNat : Int)) := fun p => p.h.2.1.1
  have pc1 : ∀ p : Kp (S3 w w.heap.size (w.heap.size + 1) (w.heap.size + 1 + 1) a0c a1c a2c), p.W.cell? ⟨w.heap.size, 1, none⟩ = some (.int .u64 (a0c.2.1.toNat : Int)) := fun p => p.h.2.1.2.1
  have pc2 : ∀ p : Kp (S3 w w.heap.size (w.heap.size + 1) (w.heap.size + 1 + 1) a0c a1c a2c), p.W.cell? ⟨w.heap.size, 2, none⟩ = some (.int .u64 (a0c.2.2.1.toNat : Int)) := fun p => p.h.2.1.2.2.1
  have pc3 : ∀ p : Kp (S3 w w.heap.size (w.heap.size + 1) (w.heap.size + 1 + 1) a0c a1c a2c), p.W.cell? ⟨w.heap.size, 3, none⟩ = some (.int .u64 (a0c.2.2.2.toNat : Int)) := fun p => p.h.2.1.2.2.2
  have pd0 : ∀ p : Kp (S3 w w.heap.size (w.heap.size + 1) (w.heap.size + 1 + 1) a0c a1c a2c), p.W.cell? ⟨(w.heap.size + 1), 0, none⟩ = some (.int .u64 (a1c.1.toNat : Int)) := fun p => p.h.2.2.1.1
  have pd1 : ∀ p : Kp (S3 w w.heap.size (w.heap.size + 1) (w.heap.size + 1 + 1) a0c a1c a2c), p.W.cell? ⟨(w.heap.size + 1), 1, none⟩ = some (.int .u64 (a1c.2.1.toNat : Int)) := fun p => p.h.2.2.1.2.1
  have pd2 : ∀ p : Kp (S3 w w.heap.size (w.heap.size + 1) (w.heap.size + 1 + 1) a0c a1c a2c), p.W.cell? ⟨(w.heap.size + 1), 2, none⟩ = some (.int .u64 (a1c.2.2.1.toNat : Int)) := fun p => p.h.2.2.1.2.2.1
  have pd3 : ∀ p : Kp (S3 w w.heap.size (w.heap.size + 1) (w.heap.size + 1 + 1) a0c a1c a2c), p.W.cell? ⟨(w.heap.size + 1), 3, none⟩ = some (.int .u64 (a1c.2.2.2.toNat : Int)) := fun p => p.h.2.2.1.2.2.2
  have pk0 : ∀ p : Kp (S3 w w.heap.size (w.heap.size + 1) (w.heap.size + 1 + 1) a0c a1c a2c), p.W.cell? ⟨(w.heap.size + 1 + 1), 0, none⟩ = some (.int .u64 (a2c.1.toNat : Int)) := fun p => p.h.2.2.2.1
  have pk1 : ∀ p : Kp (S3 w w.heap.size (w.heap.size + 1) (w.heap.size + 1 + 1) a0c a1c a2c), p.W.cell? ⟨(w.heap.size + 1 + 1), 1, none⟩ = some (.int .u64 (a2c.2.1.toNat : Int)) := fun p => p.h.2.2.2.2.1
  have pk2 : ∀ p : Kp (S3 w w.heap.size (w.heap.size + 1) (w.heap.size + 1 + 1) a0c a1c a2c), p.W.cell? ⟨(w.heap.size + 1 + 1), 2, none⟩ = some (.int .u64 (a2c.2.2.1.toNat : Int)) := fun p => p.h.2.2.2.2.2.1
  have pk3 : ∀ p : Kp (S3 w w.heap.size (w.heap.size + 1) (w.heap.size + 1 + 1) a0c a1c a2c), p.W.cell? ⟨(w.heap.size + 1 + 1), 3, none⟩ = some (.int .u64 (a2c.2.2.2.toNat : Int)) := fun p => p.h.2.2.2.2.2.2
  have hne : Nonempty (Kp (S3 w w.heap.size (w.heap.size + 1) (w.heap.size + 1 + 1) a0c a1c a2c)) := ⟨⟨_, S0⟩⟩
  simp only [List.append_eq, List.cons_append, List.nil_append]
  refine wp_region_kept mixed lex5 S0.drew ?_
  clear S0
  repeat (go_big_quiet_step (first | (go_at_call 14; exact Kp.calls _ S3.next (join_any _ _ _)) | (go_at_call 16; exact Kp.calls _ S3.next (meet_any _ _ _)) | (go_at_call 18; exact Kp.calls _ S3.next (not_any _ _)) | (go_at_call 10; exact Kp.calls _ S3.next (range_any 0 255 (by omega) (by omega) (by omega) _))))
  refine wpQuiet_nil ?_
  intro W2 hw2
  obtain ⟨⟨W2, HS⟩, rfl⟩ := hw2
  have HBx : Hid (Below w.heap.size w W2) := HS.1
  clear HS hne
  go_wp2_with fail
  go_ret
  exact ⟨rfl, HBx.out⟩

/-! ### What the walk gives, for every argument -/
set_option maxRecDepth 100000 in
theorem contract (H : Type) (enc : TypeId × Value → H) (W : World) (base : Nat) (args : Array Value) (ds gs : List (DataW H)) (before : List MemPlace)
    (hval : ∀ (j : Nat) t v, Try.f5.params[j]? = some t → args[j]? = some v → Value.okWide Try.prog W .any base t v)
    (hW : DataW.Whole enc Try.prog Try.f5.params.toList Rows.classSetsSpec.vars false W args.toList ds gs before) (hsz : (DataW.weightsEach Try.prog (Try.f5.params.toList ++ Rows.classSetsSpec.plain.varTypes Try.prog) (ds ++ gs)).all (· ≤ reachBytes) = true) :
    Calls Try.prog 5 args W fun e W' => ∃ v, e = .returned v ∧ Rows.classSetsSpec.post enc Try.prog Try.f5 false true false false W args v W' := by
  have hW' := hW
  obtain ⟨p, q, hA0, hV, rfl, hfz, hnd⟩ := hW
  have hA : DataW.TrodAll enc Try.prog W 0 (fun _ => true) true Try.f5.params.toList args.toList ds p := hA0
  rw [Try.params5] at hA hval hsz
  obtain ⟨v0, vs0, d0, ds0, p0, q0, hargs, rfl, rfl, h0, r0⟩ := trodAll_cons hA
  obtain ⟨v1, vs1, d1, ds1, p1, q1, rfl, rfl, rfl, h1, r1⟩ := trodAll_cons r0
  obtain ⟨v2, vs2, d2, ds2, p2, q2, rfl, rfl, rfl, h2, r2⟩ := trodAll_cons r1
  obtain ⟨rfl, rfl, rfl⟩ := trodAll_nil r2
  obtain rfl : args = #[v0, v1, v2] := by cases args; simp_all
  obtain ⟨rfl, rfl⟩ := trodVars_none hV
  have k0 := h0
  have lt0 : ∀ x ∈ p0, x.block < W.heap.size := by obtain ⟨m, hm⟩ := k0; exact DataW.trod_lt m _ _ _ hm
  obtain ⟨a0c, rfl⟩ := open_class (hval 0 24 v0 rfl rfl) h0
  have k1 := h1
  have lt1 : ∀ x ∈ p1, x.block < W.heap.size := by obtain ⟨m, hm⟩ := k1; exact DataW.trod_lt m _ _ _ hm
  obtain ⟨a1c, rfl⟩ := open_class (hval 1 24 v1 rfl rfl) h1
  have k2 := h2
  have lt2 : ∀ x ∈ p2, x.block < W.heap.size := by obtain ⟨m, hm⟩ := k2; exact DataW.trod_lt m _ _ _ hm
  obtain ⟨a2c, rfl⟩ := open_class (hval 2 24 v2 rfl rfl) h2
  clear hA0
  refine (walk a0c a1c a2c W ).mono fun e W' ⟨he, bel⟩ => ?_
  subst he
  exact ⟨_, rfl, _, _, _, [], _, [], hW', trodAll_mk1 (shut_bool Try.underlying4 _), (trodAll_cons_mk (Below.trod laidOut (by kernel_rfl) (of_decide_eq_true (by kernel_rfl)) k0 bel lt0) (trodAll_cons_mk (Below.trod laidOut (by kernel_rfl) (of_decide_eq_true (by kernel_rfl)) k1 bel lt1) (trodAll_cons_mk (Below.trod laidOut (by kernel_rfl) (of_decide_eq_true (by kernel_rfl)) k2 bel lt2) trodAll_mk0))), rfl, bel.frame _, fun h => by cases h⟩

/-! ### The row's step -/
set_option maxRecDepth 100000 in
theorem lifted (os : Os) (started : os.Started) (H : Type) (enc : TypeId × Value → H) :
    ReturnsInHanded {} Try.checked os 5 .any (Rows.classSetsSpec.pre6 enc Try.prog Try.f5 Rows.classSetsRow.domain false) (Rows.classSetsSpec.post enc Try.prog Try.f5 false true false false) := by
  refine returnsInHanded_of_change_sized (C := Try.checked) own started (by kernel_rfl) Try.func5
    (ChangeSpec.witness6 (enc := enc) (C := Try.checked) false ⟨#[], #[.agg #[.int .u64 0, .int .u64 0, .int .u64 0, .int .u64 0], .agg #[.int .u64 0, .int .u64 0, .int .u64 0, .int .u64 0], .agg #[.int .u64 0, .int .u64 0, .int .u64 0, .int .u64 0]], []⟩ 8 (by kernel_rfl) (by kernel_rfl) (by kernel_rfl) (by kernel_rfl)) ?_
  intro W base args ds gs before hval hW hcnd hsz _
  exact contract H enc W base args ds gs before hval hW hsz

theorem over : Rows.classSetsRow.holds Try.pinned (OpenSpec.ofChange Rows.classSetsSpec) :=
  OpenClaim.holds_of_wide 5 Try.f5 rfl rfl rfl rfl rfl rfl rfl ⟨rfl, rfl, rfl, rfl, rfl⟩ rfl rfl rfl rfl rfl (by kernel_rfl) Try.func5 (by kernel_rfl)
    (of_decide_eq_true (by kernel_rfl)) (by unfold Func.isWrapper; first | (rw [if_pos (by decide +kernel)]; kernel_rfl) | (rw [if_neg (by decide +kernel)]; exact ⟨rfl, rfl⟩))
    (fun os started H enc _ => lifted os started H enc)

end Go.Proofs.Ytgoejdakmbpcmaa.classSets
namespace Go.Proofs.Ytgoejdakmbpcmaa
/-- The given statement. -/
theorem classSets_holds : Rows.ClassSetsSaid := classSets.over
#print axioms classSets_holds
end Go.Proofs.Ytgoejdakmbpcmaa
