/-
  Whatever frame, place and byte are handed in, the call of pushkeep.FrameTurned returns true: a frame of which one byte behind its first four was turned is not told. Conditions: none.
-/
import Derived.Test.YtnheaafepejaoaaRows
import Derived.WalkKit
import Derived.ProofKit
import Derived.OpenShut
import Derived.ShutString
import Derived.SizedLaws
import Derived.ChangeOld
import Derived.Below
import Derived.Carry
import Derived.WalkLawsBesides
import Derived.WalkSpells
import Derived.Test.YtnheaafepejaoaaOpens
import Derived.Test.YtnheaafepejaoaaFeeds
import Derived.Test.YtnheaafepejaoaaRests
namespace Go.Proofs.Ytnheaafepejaoaa.frameTurned
open Go.ChangeShapes Go.WideShapes Go.ChangeAt Go.RowKit
open Go.ChangeMaps (open_string shut_string)
open Frm
set_option linter.unusedVariables false

theorem own : ownKnob Try.prog.godebug = none := by kernel_rfl
theorem laidOut : laidOutB Try.prog = true := by kernel_rfl
theorem len_list' (s : ByteArray) : s.size = s.data.toList.length := by simp

/-! ### The walk: the Go text returns true. -/
set_option maxHeartbeats 1600000 in
set_option maxRecDepth 20000 in
theorem walk (a0k : Int) (a0h : Int) (a0b : ByteArray) (a1 : Int) (a2 : Int) (w : World) (w1 : (Lit.int .i64 a1).wf = true) (w2 : (Lit.int .u8 a2).wf = true) :
    Calls Try.prog 7 #[.agg #[.int .i64 a0k, .int .i64 a0h, .string a0b], .int .i64 a1, .int .u8 a2] w fun e w' => e = .returned (.bool true) ∧ Below w.heap.size w w' := by
  have hat := bounds_i64 w1
  have hby := bounds_u8 w2
  clear w1 w2
  obtain ⟨g, rfl⟩ : ∃ g : UInt8, a2 = (g.toNat : Int) := ⟨UInt8.ofNat a2.toNat, by rw [UInt8.toNat_ofNat']; omega⟩
  by_cases h : chk ⟨a0k, a0h, a0b⟩ = 0
  · have e1 := out_good ⟨a0k, a0h, a0b⟩ h
    have hl := wire_length ⟨a0k, a0h, a0b⟩
    obtain ⟨_, _, _, _, h5⟩ := chk_ok ⟨a0k, a0h, a0b⟩ h
    simp only at h5 hl
    obtain ⟨S, HS⟩ : ∃ S : ByteArray, Hid (S = ⟨(wire ⟨a0k, a0h, a0b⟩).toArray⟩) := ⟨_, rfl⟩
    have hS : S.size = a0b.size + 8 := by rw [HS.out, size_mk]; omega
    have hSd : Hid (S.data.toList = wire ⟨a0k, a0h, a0b⟩) := by show _ = _; rw [HS.out]
    by_cases hg : g = 0
    · have hg0 : ((g.toNat : Int) == 0) = true := by subst hg; rfl
      go_enter Try.func7, Try.ntmps7
      go_wp2_with fail
      refine (write_parts a0k a0h a0b _).mono ?_
      rintro e w1 ⟨rfl, hb1⟩
      rw [h, e1, ← HS.out]
      have s1 := hb1.size
      rw [World.size_alloc] at s1
      have B1 : Below w.heap.size w w1 := ((Below.refl _ w).alloc (Nat.le_refl _) _).trans (hb1.mono (by simp))
      have c2 : w1.cell? ⟨w.heap.size, 2, none⟩ = some (.string a0b) := by rw [hb1.cell (by simp)]; simp
      clear hb1
      go_wp2_with fail
      go_ret
      exact ⟨rfl, B1⟩
    · have hg0 : ((g.toNat : Int) == 0) = false := by
        have : g.toNat ≠ 0 := fun e => hg (by apply UInt8.toNat_inj.1; simpa using e)
        simp; omega
      go_enter Try.func7, Try.ntmps7
      go_wp2_with fail
      refine (write_parts a0k a0h a0b _).mono ?_
      rintro e w1 ⟨rfl, hb1⟩
      rw [h, e1, ← HS.out]
      have s1 := hb1.size
      rw [World.size_alloc] at s1
      have B1 : Below w.heap.size w w1 := ((Below.refl _ w).alloc (Nat.le_refl _) _).trans (hb1.mono (by simp))
      have c2 : w1.cell? ⟨w.heap.size, 2, none⟩ = some (.string a0b) := by rw [hb1.cell (by simp)]; simp
      clear hb1
      obtain ⟨cap, W2, hrun, hcell, hfree, hbel, hsz⟩ := bytes_made w1 S
      have HC : Hid (∀ j, j < S.size → W2.cell? ⟨w1.heap.size, j, none⟩ = some (.int .u8 ((S.data.toList.getD j 0).toNat : Int))) := hcell
      have HF : Hid (∀ j, j < S.size → W2.frozen? ⟨w1.heap.size, j, none⟩ = false) := hfree
      clear hcell hfree
      go_wp2_with fail
      clear hrun
      refine (rest_any _ _ hat (by omega) (by omega) _).mono ?_
      rintro e W3 ⟨⟨K, rfl, hK⟩, hW3⟩
      subst hW3
      have hj : 4 + K < S.size := by omega
      obtain ⟨c, HCc, hc⟩ : ∃ c : UInt8, Hid (c = S.data.toList.getD (4 + K) 0) ∧ W3.cell? ⟨w1.heap.size, 4 + K, none⟩ = some (.int .u8 (c.toNat : Int)) := ⟨_, rfl, HC.out _ hj⟩
      have hf := HF.out _ hj
      have j0 : (0 : Int) ≤ 4 + (K : Int) := by omega
      have j1 : 4 + (K : Int) < (S.size : Int) := by omega
      obtain ⟨y, HYy⟩ : ∃ y, Hid (y = c ^^^ g) := ⟨_, rfl⟩
      have hx : bits .xor .u8 (c.toNat : Int) (g.toNat : Int) = (y.toNat : Int) := by rw [HYy.out]; exact xor_byte8 c g
      have hconv := conv_set (w := W3) (c := cap) (n := a0b.size + 8) (p := 4 + K) (v := y) (l := S.data.toList) (by rw [← len_list' S, hS]) (by rw [← len_list' S]; exact hj) (by rw [← len_list' S]; exact HC.out)
      have B4 : Below w.heap.size w (W3.setCell ⟨w1.heap.size, 4 + K, none⟩ (.int .u8 (y.toNat : Int))) := (B1.trans (hbel.mono (by omega))).setCell (p := ⟨w1.heap.size, 4 + K, none⟩) (by show w.heap.size ≤ w1.heap.size; omega) _
      have hz4 : w.heap.size ≤ (W3.setCell ⟨w1.heap.size, 4 + K, none⟩ (.int .u8 (y.toNat : Int))).heap.size := B4.size
      obtain ⟨T, HT⟩ : ∃ T : ByteArray, T = ⟨(S.data.toList.set (4 + K) y).toArray⟩ := ⟨_, rfl⟩
      rw [← HT] at hconv
      have hTs : T.size = a0b.size + 8 := by rw [HT, size_mk, List.length_set, ← len_list' S]; exact hS
      have HTd : Hid (ff (T.data.toList) = ([], [], 5)) := by
        show _ = _
        rw [HT, HYy.out, HCc.out, hSd.out]
        exact ff_turned ⟨a0k, a0h, a0b⟩ h (4 + K) g hg (by omega) (by rw [hl]; omega)
      clear HT HC HF
      go_wp2_with fail
      refine (feed_live ⟨#[]⟩ T (by rw [hTs]; show 0 + (a0b.size + 8) ≤ _; omega) _).mono ?_
      rintro e w5 ⟨v, rfl, hown, hb5⟩
      rw [show (ByteArray.mk #[]).data.toList ++ T.data.toList = T.data.toList from rfl, HTd.out] at hown ⊢
      have hv : v = .slice none 0 0 ∨ ∃ a cap, v = .slice (some a) 0 cap := by
        obtain ⟨_, ⟨h1, _⟩ | ⟨g', cap', cur, h1, _⟩⟩ := hown
        · exact Or.inl h1
        · exact Or.inr ⟨_, _, h1⟩
      have B5 := B4.trans (hb5.mono hz4)
      rcases hv with rfl | ⟨a, cap', rfl⟩
      · go_wp2_with fail
        go_ret
        exact ⟨rfl, B5.alloc (by have := hb5.size; omega) _⟩
      · go_wp2_with fail
        go_ret
        exact ⟨rfl, B5.alloc (by have := hb5.size; omega) _⟩
  · have e1 := out_bad ⟨a0k, a0h, a0b⟩ h
    have hb : (((chk ⟨a0k, a0h, a0b⟩ : Nat) : Int) == 0) = false := by simp; omega
    go_enter Try.func7, Try.ntmps7
    go_wp2_with fail
    refine (write_parts a0k a0h a0b _).mono ?_
    rintro e w1 ⟨rfl, hb1⟩
    rw [e1]
    have s1 := hb1.size
    rw [World.size_alloc] at s1
    have B1 : Below w.heap.size w w1 := ((Below.refl _ w).alloc (Nat.le_refl _) _).trans (hb1.mono (by simp))
    have c0 : w1.cell? ⟨w.heap.size, 0, none⟩ = some (.int .i64 a0k) := by rw [hb1.cell (by simp)]; simp
    have c1 : w1.cell? ⟨w.heap.size, 1, none⟩ = some (.int .i64 a0h) := by rw [hb1.cell (by simp)]; simp
    have c2 : w1.cell? ⟨w.heap.size, 2, none⟩ = some (.string a0b) := by rw [hb1.cell (by simp)]; simp
    clear hb1
    go_wp2_with fail
    refine (check_parts a0k a0h a0b _).mono ?_
    rintro e w4 ⟨rfl, hb4⟩
    have B4 := B1.trans (hb4.mono (by omega))
    go_wp2_with fail
    go_ret
    exact ⟨rfl, B4⟩

/-! ### What the walk gives, for every argument -/
set_option maxRecDepth 100000 in
theorem contract (H : Type) (enc : TypeId × Value → H) (W : World) (base : Nat) (args : Array Value) (ds gs : List (DataW H)) (before : List MemPlace)
    (hval : ∀ (j : Nat) t v, Try.f7.params[j]? = some t → args[j]? = some v → Value.okWide Try.prog W .any base t v)
    (hW : DataW.Whole enc Try.prog Try.f7.params.toList Rows.frameTurnedSpec.vars false W args.toList ds gs before) (hsz : (DataW.weightsEach Try.prog (Try.f7.params.toList ++ Rows.frameTurnedSpec.plain.varTypes Try.prog) (ds ++ gs)).all (· ≤ reachBytes) = true) :
    Calls Try.prog 7 args W fun e W' => ∃ v, e = .returned v ∧ Rows.frameTurnedSpec.post enc Try.prog Try.f7 false true false false W args v W' := by
  have hW' := hW
  obtain ⟨p, q, hA0, hV, rfl, hfz, hnd⟩ := hW
  have hA : DataW.TrodAll enc Try.prog W 0 (fun _ => true) true Try.f7.params.toList args.toList ds p := hA0
  rw [Try.params7] at hA hval hsz
  obtain ⟨v0, vs0, d0, ds0, p0, q0, hargs, rfl, rfl, h0, r0⟩ := trodAll_cons hA
  obtain ⟨v1, vs1, d1, ds1, p1, q1, rfl, rfl, rfl, h1, r1⟩ := trodAll_cons r0
  obtain ⟨v2, vs2, d2, ds2, p2, q2, rfl, rfl, rfl, h2, r2⟩ := trodAll_cons r1
  obtain ⟨rfl, rfl, rfl⟩ := trodAll_nil r2
  obtain rfl : args = #[v0, v1, v2] := by cases args; simp_all
  obtain ⟨rfl, rfl⟩ := trodVars_none hV
  have k0 := h0
  have lt0 : ∀ x ∈ p0, x.block < W.heap.size := by obtain ⟨m, hm⟩ := k0; exact DataW.trod_lt m _ _ _ hm
  obtain ⟨a0k, a0h, a0b, rfl⟩ := open_frame (hval 0 23 v0 rfl rfl) h0
  obtain ⟨a1, rfl, rfl, rfl, w1⟩ := open_int Try.underlying3 (hval 1 3 v1 rfl rfl) h1
  obtain ⟨a2, rfl, rfl, rfl, w2⟩ := open_int Try.underlying5 (hval 2 5 v2 rfl rfl) h2
  clear hA0
  refine (walk a0k a0h a0b a1 a2 W w1 w2).mono fun e W' ⟨he, bel⟩ => ?_
  subst he
  exact ⟨_, rfl, _, _, _, [], _, [], hW', trodAll_mk1 (shut_bool Try.underlying4 _), (trodAll_cons_mk (Below.trod laidOut (by kernel_rfl) (of_decide_eq_true (by kernel_rfl)) k0 bel lt0) (trodAll_cons_mk (shut_int Try.underlying3 w1) (trodAll_cons_mk (shut_int Try.underlying5 w2) trodAll_mk0))), rfl, bel.frame _, fun h => by cases h⟩

/-! ### The row's step -/
set_option maxRecDepth 100000 in
theorem lifted (os : Os) (started : os.Started) (H : Type) (enc : TypeId × Value → H) :
    ReturnsInHanded {} Try.checked os 7 .any (Rows.frameTurnedSpec.pre6 enc Try.prog Try.f7 Rows.frameTurnedRow.domain false) (Rows.frameTurnedSpec.post enc Try.prog Try.f7 false true false false) := by
  refine returnsInHanded_of_change_sized (C := Try.checked) own started (by kernel_rfl) Try.func7
    (ChangeSpec.witness6 (enc := enc) (C := Try.checked) false ⟨#[], #[.agg #[.int .i64 0, .int .i64 0, .string .empty], .int .i64 0, .int .u8 0], []⟩ 8 (by kernel_rfl) (by kernel_rfl) (by kernel_rfl) (by kernel_rfl)) ?_
  intro W base args ds gs before hval hW hcnd hsz _
  exact contract H enc W base args ds gs before hval hW hsz

theorem over : Rows.frameTurnedRow.holds Try.pinned (OpenSpec.ofChange Rows.frameTurnedSpec) :=
  OpenClaim.holds_of_wide 7 Try.f7 rfl rfl rfl rfl rfl rfl rfl ⟨rfl, rfl, rfl, rfl, rfl⟩ rfl rfl rfl rfl rfl (by kernel_rfl) Try.func7 (by kernel_rfl)
    (of_decide_eq_true (by kernel_rfl)) (by unfold Func.isWrapper; first | (rw [if_pos (by decide +kernel)]; kernel_rfl) | (rw [if_neg (by decide +kernel)]; exact ⟨rfl, rfl⟩))
    (fun os started H enc _ => lifted os started H enc)

end Go.Proofs.Ytnheaafepejaoaa.frameTurned
namespace Go.Proofs.Ytnheaafepejaoaa
/-- The given statement. -/
theorem frameTurned_holds : Rows.FrameTurnedSaid := frameTurned.over
#print axioms frameTurned_holds
end Go.Proofs.Ytnheaafepejaoaa
