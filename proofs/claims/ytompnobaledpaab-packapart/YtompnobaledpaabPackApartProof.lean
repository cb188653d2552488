/-
  Whatever two lists and two numbers are handed in, the call of pushkeep.PackApart returns true: two lists have one text just if they are one list; the greater of two numbers has no fewer bytes. Conditions: none.
-/
import Derived.Test.YtompnobaledpaabRows
import Derived.WalkKit
import Derived.ProofKit
import Derived.OpenShut
import Derived.ShutString
import Derived.SizedLaws
import Derived.ChangeOld
import Derived.Below
import Derived.SliceStrings
import Derived.Carry
import Derived.WalkLawsBesides
import Derived.WalkSpells
import Derived.BigQuiet
import Derived.Deep.QuietTactic
import Derived.Test.YtompnobaledpaabWalks
namespace Go.Proofs.Ytompnobaledpaab.packApart
open Go.ChangeShapes Go.WideShapes Go.ChangeAt Go.RowKit
open Go.ChangeMaps (open_string shut_string)
open Pack
set_option linter.unusedVariables false

theorem own : ownKnob Try.prog.godebug = none := by kernel_rfl
theorem laidOut : laidOutB Try.prog = true := by kernel_rfl
theorem strs_nil (w : World) : Strs w (.slice none 0 0) [] := ⟨none, 0, rfl, by simp, Or.inl rfl⟩
theorem strs_of_cells {w : World} {x : Addr} {len cap : Nat} {ss : List ByteArray} (hl : len ≤ cap) (hm : cap ≤ maxLen) (hz : ss.length = cap) (hcell : ∀ i, i < ss.length → w.cell? (x.add i) = some (.string (ss.getD i ByteArray.empty))) :
    Strs w (.slice (some x) len cap) (ss.take len) := by
  have hlen : (ss.take len).length = len := by simp; omega
  refine ⟨some x, cap, by rw [hlen], by rw [hlen]; unfold maxLen at hm; omega, ?_⟩
  by_cases h0 : len = 0
  · left; subst h0; simp
  · right
    obtain ⟨b, off, spot⟩ := x
    have hspot : spot = none := by simpa [Addr.add] using World.cell?_spot (hcell 0 (by omega))
    subst hspot
    have hplain : ∀ j, j < ss.length → w.cell? ⟨b, off + j, none⟩ = some (.string (ss.getD j ByteArray.empty)) := fun j hj => by rw [← Go.WideShapes.add_plain]; exact hcell j hj
    refine ⟨b, off, rfl, ?_, fun i hi => ?_⟩
    · rcases Nat.lt_or_ge b w.heap.size with h' | h'
      · exact h'
      · have := hplain 0 (by omega)
        simp [World.cell?, Array.getElem?_eq_none h'] at this
    · rw [hlen] at hi
      rw [hplain i (by omega)]
      simp [List.getD, List.getElem?_take_of_lt hi]
theorem two_or {ls : List ByteArray} : listE (bytes ls) = 0 ∨ listE (bytes ls) = 2 := by
  unfold listE; split
  · exact Or.inr rfl
  · exact Or.inl rfl
theorem bytes_inj {a b : List ByteArray} (h : bytes a = bytes b) : a = b := by
  induction a generalizing b with
  | nil => cases b with
    | nil => rfl
    | cons y b => simp [bytes] at h
  | cons x a ih => cases b with
    | nil => simp [bytes] at h
    | cons y b =>
      simp only [bytes, List.map_cons, List.cons.injEq] at h
      have hx : x = y := by
        apply ByteArray.ext
        exact Array.ext' h.1
      rw [hx, ih h.2]
theorem lists_apart {a b : List ByteArray} (ha : listE (bytes a) = 0) (hb : listE (bytes b) = 0) (h : a ≠ b) : upto a a.length ≠ upto b b.length := by
  rw [upto_all, upto_all]
  exact fun e => h (bytes_inj (list_inj ha hb e))

/-! ### The walk: the Go text returns true. -/
set_option maxHeartbeats 4000000 in
set_option maxRecDepth 20000 in
theorem walk (v0 : Value) (l0 : List ByteArray) (v1 : Value) (l1 : List ByteArray) (a2 : Int) (a3 : Int) (w : World) (w0 : Strs w v0 l0) (w1 : Strs w v1 l1) (w2 : (Lit.int .u64 a2).wf = true) (w3 : (Lit.int .u64 a3).wf = true) :
    Calls Try.prog 3 #[v0, v1, .int .u64 a2, .int .u64 a3] w fun e w' => e = .returned (.bool true) ∧ Below w.heap.size w w' := by
  obtain ⟨n, rfl, hn⟩ : ∃ n : Nat, a2 = (n : Int) ∧ n < 18446744073709551616 := by have := bounds_u64 w2; exact ⟨a2.toNat, by omega, by omega⟩
  obtain ⟨m, rfl, hm⟩ : ∃ m : Nat, a3 = (m : Int) ∧ m < 18446744073709551616 := by have := bounds_u64 w3; exact ⟨a3.toNat, by omega, by omega⟩
  clear w2 w3
  by_cases hnm : n = m
  · subst hnm
    go_enter Try.func3, Try.ntmps3
    go_wp2_with fail
    refine (list_any v0 l0 _ w0).mono ?_
    rintro e w4 ⟨rfl, hb4⟩
    go_wp2_with fail
    refine (list_any v1 l1 _ (w1.below hb4 (Nat.le_refl _))).mono ?_
    rintro e w5 ⟨rfl, hb5⟩
    have hB5 := hb4.trans (hb5.mono hb4.size)
    clear hb4 hb5
    rcases two_or (ls := l0) with hE0 | hE0
    · rcases two_or (ls := l1) with hE1 | hE1
      · rw [hE0, hE1, listT_ok l0 hE0, listT_ok l1 hE1]
        by_cases hll : l0 = l1
        · subst hll
          go_wp2_with fail
          refine (equal_any _ v0 v1 _ _ (w0.below hB5 (Nat.le_refl _)) (w1.below hB5 (Nat.le_refl _))).mono ?_
          rintro e w6 ⟨rfl, nq, rfl⟩
          have hB6 := below_drewN hB5 nq
          go_wp2_with fail
          refine (num_any n hn _).mono ?_
          rintro e u1 ⟨rfl, hu1⟩
          have hU1 := hB6.trans (hu1.mono hB6.size)
          clear hu1
          go_wp2_with fail
          refine (num_any n hn _).mono ?_
          rintro e u2 ⟨rfl, hu2⟩
          have hU2 := hU1.trans (hu2.mono hU1.size)
          clear hu2
          go_wp2_with fail
          go_ret
          exact ⟨by simp, hU2⟩
        · have hap : (upto l0 l0.length == upto l1 l1.length) = false := by simpa using lists_apart hE0 hE1 hll
          go_wp2_with fail
          refine (equal_any _ v0 v1 _ _ (w0.below hB5 (Nat.le_refl _)) (w1.below hB5 (Nat.le_refl _))).mono ?_
          rintro e w6 ⟨rfl, nq, rfl⟩
          have hB6 := below_drewN hB5 nq
          go_wp2_with fail
          refine (num_any n hn _).mono ?_
          rintro e u1 ⟨rfl, hu1⟩
          have hU1 := hB6.trans (hu1.mono hB6.size)
          clear hu1
          go_wp2_with fail
          refine (num_any n hn _).mono ?_
          rintro e u2 ⟨rfl, hu2⟩
          have hU2 := hU1.trans (hu2.mono hU1.size)
          clear hu2
          go_wp2_with fail
          go_ret
          exact ⟨by simp, hU2⟩
      · rw [hE0, hE1, listT_ok l0 hE0, listT_bad l1 hE1]
        go_wp2_with fail
        refine (num_any n hn _).mono ?_
        rintro e u1 ⟨rfl, hu1⟩
        have hU1 := hB5.trans (hu1.mono hB5.size)
        clear hu1
        go_wp2_with fail
        refine (num_any n hn _).mono ?_
        rintro e u2 ⟨rfl, hu2⟩
        have hU2 := hU1.trans (hu2.mono hU1.size)
        clear hu2
        go_wp2_with fail
        go_ret
        exact ⟨by simp, hU2⟩
    · rw [hE0]
      go_wp2_with fail
      refine (num_any n hn _).mono ?_
      rintro e u1 ⟨rfl, hu1⟩
      have hU1 := hB5.trans (hu1.mono hB5.size)
      clear hu1
      go_wp2_with fail
      refine (num_any n hn _).mono ?_
      rintro e u2 ⟨rfl, hu2⟩
      have hU2 := hU1.trans (hu2.mono hU1.size)
      clear hu2
      go_wp2_with fail
      go_ret
      exact ⟨by simp, hU2⟩
  · have hnb : ((n : Int) == (m : Int)) = false := by simp; omega
    have hne : (num n == num m) = false := by simp; exact fun e => hnm (num_inj e)
    have hne2 : (num m == num n) = false := by simp; exact fun e => hnm (num_inj e).symm
    by_cases hle : n ≤ m
    · have hle2 : (n : Int) ≤ (m : Int) := by omega
      go_enter Try.func3, Try.ntmps3
      go_wp2_with fail
      refine (list_any v0 l0 _ w0).mono ?_
      rintro e w4 ⟨rfl, hb4⟩
      go_wp2_with fail
      refine (list_any v1 l1 _ (w1.below hb4 (Nat.le_refl _))).mono ?_
      rintro e w5 ⟨rfl, hb5⟩
      have hB5 := hb4.trans (hb5.mono hb4.size)
      clear hb4 hb5
      rcases two_or (ls := l0) with hE0 | hE0
      · rcases two_or (ls := l1) with hE1 | hE1
        · rw [hE0, hE1, listT_ok l0 hE0, listT_ok l1 hE1]
          by_cases hll : l0 = l1
          · subst hll
            go_wp2_with fail
            refine (equal_any _ v0 v1 _ _ (w0.below hB5 (Nat.le_refl _)) (w1.below hB5 (Nat.le_refl _))).mono ?_
            rintro e w6 ⟨rfl, nq, rfl⟩
            have hB6 := below_drewN hB5 nq
            go_wp2_with fail
            refine (num_any n hn _).mono ?_
            rintro e u1 ⟨rfl, hu1⟩
            have hU1 := hB6.trans (hu1.mono hB6.size)
            clear hu1
            go_wp2_with fail
            refine (num_any m hm _).mono ?_
            rintro e u2 ⟨rfl, hu2⟩
            have hU2 := hU1.trans (hu2.mono hU1.size)
            clear hu2
            go_wp2_with fail
            go_ret
            exact ⟨by simp, hU2⟩
          · have hap : (upto l0 l0.length == upto l1 l1.length) = false := by simpa using lists_apart hE0 hE1 hll
            go_wp2_with fail
            refine (equal_any _ v0 v1 _ _ (w0.below hB5 (Nat.le_refl _)) (w1.below hB5 (Nat.le_refl _))).mono ?_
            rintro e w6 ⟨rfl, nq, rfl⟩
            have hB6 := below_drewN hB5 nq
            go_wp2_with fail
            refine (num_any n hn _).mono ?_
            rintro e u1 ⟨rfl, hu1⟩
            have hU1 := hB6.trans (hu1.mono hB6.size)
            clear hu1
            go_wp2_with fail
            refine (num_any m hm _).mono ?_
            rintro e u2 ⟨rfl, hu2⟩
            have hU2 := hU1.trans (hu2.mono hU1.size)
            clear hu2
            go_wp2_with fail
            go_ret
            exact ⟨by simp, hU2⟩
        · rw [hE0, hE1, listT_ok l0 hE0, listT_bad l1 hE1]
          go_wp2_with fail
          refine (num_any n hn _).mono ?_
          rintro e u1 ⟨rfl, hu1⟩
          have hU1 := hB5.trans (hu1.mono hB5.size)
          clear hu1
          go_wp2_with fail
          refine (num_any m hm _).mono ?_
          rintro e u2 ⟨rfl, hu2⟩
          have hU2 := hU1.trans (hu2.mono hU1.size)
          clear hu2
          go_wp2_with fail
          go_ret
          exact ⟨by simp, hU2⟩
      · rw [hE0]
        go_wp2_with fail
        refine (num_any n hn _).mono ?_
        rintro e u1 ⟨rfl, hu1⟩
        have hU1 := hB5.trans (hu1.mono hB5.size)
        clear hu1
        go_wp2_with fail
        refine (num_any m hm _).mono ?_
        rintro e u2 ⟨rfl, hu2⟩
        have hU2 := hU1.trans (hu2.mono hU1.size)
        clear hu2
        go_wp2_with fail
        go_ret
        exact ⟨by simp, hU2⟩
    · have hle2 : (m : Int) < (n : Int) := by omega
      have hlen := num_mono n m (by omega)
      have hlen2 : ((num m).length : Int) ≤ ((num n).length : Int) := by omega
      go_enter Try.func3, Try.ntmps3
      go_wp2_with fail
      refine (list_any v0 l0 _ w0).mono ?_
      rintro e w4 ⟨rfl, hb4⟩
      go_wp2_with fail
      refine (list_any v1 l1 _ (w1.below hb4 (Nat.le_refl _))).mono ?_
      rintro e w5 ⟨rfl, hb5⟩
      have hB5 := hb4.trans (hb5.mono hb4.size)
      clear hb4 hb5
      rcases two_or (ls := l0) with hE0 | hE0
      · rcases two_or (ls := l1) with hE1 | hE1
        · rw [hE0, hE1, listT_ok l0 hE0, listT_ok l1 hE1]
          by_cases hll : l0 = l1
          · subst hll
            go_wp2_with fail
            refine (equal_any _ v0 v1 _ _ (w0.below hB5 (Nat.le_refl _)) (w1.below hB5 (Nat.le_refl _))).mono ?_
            rintro e w6 ⟨rfl, nq, rfl⟩
            have hB6 := below_drewN hB5 nq
            go_wp2_with fail
            refine (num_any m hm _).mono ?_
            rintro e u1 ⟨rfl, hu1⟩
            have hU1 := hB6.trans (hu1.mono hB6.size)
            clear hu1
            go_wp2_with fail
            refine (num_any n hn _).mono ?_
            rintro e u2 ⟨rfl, hu2⟩
            have hU2 := hU1.trans (hu2.mono hU1.size)
            clear hu2
            go_wp2_with fail
            refine (num_any n hn _).mono ?_
            rintro e u3 ⟨rfl, hu3⟩
            have hU3 := hU2.trans (hu3.mono hU2.size)
            clear hu3
            go_wp2_with fail
            refine (num_any m hm _).mono ?_
            rintro e u4 ⟨rfl, hu4⟩
            have hU4 := hU3.trans (hu4.mono hU3.size)
            clear hu4
            go_wp2_with fail
            go_ret
            exact ⟨by simp, hU4⟩
          · have hap : (upto l0 l0.length == upto l1 l1.length) = false := by simpa using lists_apart hE0 hE1 hll
            go_wp2_with fail
            refine (equal_any _ v0 v1 _ _ (w0.below hB5 (Nat.le_refl _)) (w1.below hB5 (Nat.le_refl _))).mono ?_
            rintro e w6 ⟨rfl, nq, rfl⟩
            have hB6 := below_drewN hB5 nq
            go_wp2_with fail
            refine (num_any m hm _).mono ?_
            rintro e u1 ⟨rfl, hu1⟩
            have hU1 := hB6.trans (hu1.mono hB6.size)
            clear hu1
            go_wp2_with fail
            refine (num_any n hn _).mono ?_
            rintro e u2 ⟨rfl, hu2⟩
            have hU2 := hU1.trans (hu2.mono hU1.size)
            clear hu2
            go_wp2_with fail
            refine (num_any n hn _).mono ?_
            rintro e u3 ⟨rfl, hu3⟩
            have hU3 := hU2.trans (hu3.mono hU2.size)
            clear hu3
            go_wp2_with fail
            refine (num_any m hm _).mono ?_
            rintro e u4 ⟨rfl, hu4⟩
            have hU4 := hU3.trans (hu4.mono hU3.size)
            clear hu4
            go_wp2_with fail
            go_ret
            exact ⟨by simp, hU4⟩
        · rw [hE0, hE1, listT_ok l0 hE0, listT_bad l1 hE1]
          go_wp2_with fail
          refine (num_any m hm _).mono ?_
          rintro e u1 ⟨rfl, hu1⟩
          have hU1 := hB5.trans (hu1.mono hB5.size)
          clear hu1
          go_wp2_with fail
          refine (num_any n hn _).mono ?_
          rintro e u2 ⟨rfl, hu2⟩
          have hU2 := hU1.trans (hu2.mono hU1.size)
          clear hu2
          go_wp2_with fail
          refine (num_any n hn _).mono ?_
          rintro e u3 ⟨rfl, hu3⟩
          have hU3 := hU2.trans (hu3.mono hU2.size)
          clear hu3
          go_wp2_with fail
          refine (num_any m hm _).mono ?_
          rintro e u4 ⟨rfl, hu4⟩
          have hU4 := hU3.trans (hu4.mono hU3.size)
          clear hu4
          go_wp2_with fail
          go_ret
          exact ⟨by simp, hU4⟩
      · rw [hE0]
        go_wp2_with fail
        refine (num_any m hm _).mono ?_
        rintro e u1 ⟨rfl, hu1⟩
        have hU1 := hB5.trans (hu1.mono hB5.size)
        clear hu1
        go_wp2_with fail
        refine (num_any n hn _).mono ?_
        rintro e u2 ⟨rfl, hu2⟩
        have hU2 := hU1.trans (hu2.mono hU1.size)
        clear hu2
        go_wp2_with fail
        refine (num_any n hn _).mono ?_
        rintro e u3 ⟨rfl, hu3⟩
        have hU3 := hU2.trans (hu3.mono hU2.size)
        clear hu3
        go_wp2_with fail
        refine (num_any m hm _).mono ?_
        rintro e u4 ⟨rfl, hu4⟩
        have hU4 := hU3.trans (hu4.mono hU3.size)
        clear hu4
        go_wp2_with fail
        go_ret
        exact ⟨by simp, hU4⟩

/-! ### The row's step -/
set_option maxRecDepth 100000 in
theorem lifted (os : Os) (started : os.Started) (H : Type) (enc : TypeId × Value → H) :
    ReturnsInHanded {} Try.checked os 3 .any (Rows.packApartSpec.pre6 enc Try.prog Try.f3 Rows.packApartRow.domain false) (Rows.packApartSpec.post enc Try.prog Try.f3 false true false false) := by
  refine returnsInHanded_of_change_sized (C := Try.checked) own started (by kernel_rfl) Try.func3
    (ChangeSpec.witness6 (enc := enc) (C := Try.checked) false ⟨#[], #[.slice none 0 0, .slice none 0 0, .int .u64 0, .int .u64 0], []⟩ 8 (by kernel_rfl) (by kernel_rfl) (by kernel_rfl) (by kernel_rfl)) ?_
  intro W base args ds gs before hval0 hW hcnd hsz0 _
  have hval : ∀ (j : Nat) t v, Try.f3.params[j]? = some t → args[j]? = some v → Value.okWide Try.prog W .any base t v := hval0
  have hsz : (DataW.weightsEach Try.prog (Try.f3.params.toList ++ Rows.packApartSpec.plain.varTypes Try.prog) (ds ++ gs)).all (· ≤ reachBytes) = true := hsz0
  have hW' := hW
  obtain ⟨p, q, hA0, hV, rfl, hfz, hnd⟩ := hW
  have hA : DataW.TrodAll enc Try.prog W 0 (fun _ => true) true Try.f3.params.toList args.toList ds p := hA0
  rw [Try.params3] at hA hval hsz
  obtain ⟨v0, vs0, d0, ds0, p0, q0, hargs, rfl, rfl, h0, r0⟩ := trodAll_cons hA
  obtain ⟨v1, vs1, d1, ds1, p1, q1, rfl, rfl, rfl, h1, r1⟩ := trodAll_cons r0
  obtain ⟨v2, vs2, d2, ds2, p2, q2, rfl, rfl, rfl, h2, r2⟩ := trodAll_cons r1
  obtain ⟨v3, vs3, d3, ds3, p3, q3, rfl, rfl, rfl, h3, r3⟩ := trodAll_cons r2
  obtain ⟨rfl, rfl, rfl⟩ := trodAll_nil r3
  obtain rfl : args = #[v0, v1, v2, v3] := by cases args; simp_all
  obtain ⟨rfl, rfl⟩ := trodVars_none hV
  obtain ⟨a0, len0, cap0, rfl⟩ := okWide_slice Try.underlying22 (hval 0 22 v0 rfl rfl)
  have k0 := h0
  have lt0 : ∀ x ∈ p0, x.block < W.heap.size := by obtain ⟨m, hm⟩ := k0; exact DataW.trod_lt m _ _ _ hm
  obtain ⟨l0, s0⟩ : ∃ ls, Strs W (.slice a0 len0 cap0) ls := by
    obtain ⟨fuel, hf⟩ := h0
    rcases open_strings Try.underlying22 Try.underlying9 (by kernel_rfl) hf with ⟨hcs, _⟩ | ⟨x, l, c, ss, hcs, _, hl, hm, hz, _, hcell, hws⟩
    · simp [Value.cells] at hcs
      obtain ⟨rfl, rfl, rfl⟩ := hcs
      exact ⟨[], strs_nil W⟩
    · simp [Value.cells] at hcs
      obtain ⟨rfl, rfl, rfl⟩ := hcs
      exact ⟨ss.take len0, strs_of_cells hl hm (by simpa using hz) hcell⟩
  obtain ⟨a1, len1, cap1, rfl⟩ := okWide_slice Try.underlying22 (hval 1 22 v1 rfl rfl)
  have k1 := h1
  have lt1 : ∀ x ∈ p1, x.block < W.heap.size := by obtain ⟨m, hm⟩ := k1; exact DataW.trod_lt m _ _ _ hm
  obtain ⟨l1, s1⟩ : ∃ ls, Strs W (.slice a1 len1 cap1) ls := by
    obtain ⟨fuel, hf⟩ := h1
    rcases open_strings Try.underlying22 Try.underlying9 (by kernel_rfl) hf with ⟨hcs, _⟩ | ⟨x, l, c, ss, hcs, _, hl, hm, hz, _, hcell, hws⟩
    · simp [Value.cells] at hcs
      obtain ⟨rfl, rfl, rfl⟩ := hcs
      exact ⟨[], strs_nil W⟩
    · simp [Value.cells] at hcs
      obtain ⟨rfl, rfl, rfl⟩ := hcs
      exact ⟨ss.take len1, strs_of_cells hl hm (by simpa using hz) hcell⟩
  obtain ⟨a2, rfl, rfl, rfl, w2⟩ := open_int Try.underlying23 (hval 2 23 v2 rfl rfl) h2
  obtain ⟨a3, rfl, rfl, rfl, w3⟩ := open_int Try.underlying23 (hval 3 23 v3 rfl rfl) h3
  clear hA0 hval0
  refine (walk _ l0 _ l1 a2 a3 W s0 s1 w2 w3).mono fun e W' ⟨he, bel⟩ => ?_
  subst he
  exact ⟨_, rfl, _, _, _, [], _, [], hW', trodAll_mk1 (shut_bool Try.underlying4 _), (trodAll_cons_mk (Below.trod laidOut (by kernel_rfl) (of_decide_eq_true (by kernel_rfl)) k0 bel lt0) (trodAll_cons_mk (Below.trod laidOut (by kernel_rfl) (of_decide_eq_true (by kernel_rfl)) k1 bel lt1) (trodAll_cons_mk (shut_int Try.underlying23 w2) (trodAll_cons_mk (shut_int Try.underlying23 w3) trodAll_mk0)))), rfl, bel.frame _, fun h => by cases h⟩

theorem over : Rows.packApartRow.holds Try.pinned (OpenSpec.ofChange Rows.packApartSpec) :=
  OpenClaim.holds_of_wide 3 Try.f3 rfl rfl rfl rfl rfl rfl rfl ⟨rfl, rfl, rfl, rfl, rfl⟩ rfl rfl rfl rfl rfl (by kernel_rfl) Try.func3 (by kernel_rfl)
    (of_decide_eq_true (by kernel_rfl)) (by unfold Func.isWrapper; first | (rw [if_pos (by decide +kernel)]; kernel_rfl) | (rw [if_neg (by decide +kernel)]; exact ⟨rfl, rfl⟩))
    (fun os started H enc _ => lifted os started H enc)

end Go.Proofs.Ytompnobaledpaab.packApart
namespace Go.Proofs.Ytompnobaledpaab
/-- The given statement. -/
theorem packApart_holds : Rows.PackApartSaid := packApart.over
#print axioms packApart_holds
end Go.Proofs.Ytompnobaledpaab
