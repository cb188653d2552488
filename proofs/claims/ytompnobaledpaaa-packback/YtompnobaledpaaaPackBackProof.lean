/-
  Whatever number, texts and list are handed in, the call of pushkeep.PackBack returns true: what is written is read as it was, whatever stands behind. Conditions: none.
-/
import Derived.Test.YtompnobaledpaaaRows
import Derived.WalkKit
import Derived.ProofKit
import Derived.OpenShut
import Derived.ShutString
import Derived.SizedLaws
import Derived.ChangeOld
import Derived.Below
import Derived.SliceStrings
import Derived.Carry
import Derived.WalkLawsBesides
import Derived.WalkSpells
import Derived.BigQuiet
import Derived.Deep.QuietTactic
import Derived.Test.YtompnobaledpaaaReadWalks
namespace Go.Proofs.Ytompnobaledpaaa.packBack
open Go.ChangeShapes Go.WideShapes Go.ChangeAt Go.RowKit
open Go.ChangeMaps (open_string shut_string)
open Pack
set_option linter.unusedVariables false

theorem own : ownKnob Try.prog.godebug = none := by kernel_rfl
theorem laidOut : laidOutB Try.prog = true := by kernel_rfl
theorem strs_nil (w : World) : Strs w (.slice none 0 0) [] := ⟨none, 0, rfl, by simp, Or.inl rfl⟩
theorem strs_of_cells {w : World} {x : Addr} {len cap : Nat} {ss : List ByteArray} (hl : len ≤ cap) (hm : cap ≤ maxLen) (hz : ss.length = cap) (hcell : ∀ i, i < ss.length → w.cell? (x.add i) = some (.string (ss.getD i ByteArray.empty))) :
    Strs w (.slice (some x) len cap) (ss.take len) := by
  have hlen : (ss.take len).length = len := by simp; omega
  refine ⟨some x, cap, by rw [hlen], by rw [hlen]; unfold maxLen at hm; omega, ?_⟩
  by_cases h0 : len = 0
  · left; subst h0; simp
  · right
    obtain ⟨b, off, spot⟩ := x
    have hspot : spot = none := by simpa [Addr.add] using World.cell?_spot (hcell 0 (by omega))
    subst hspot
    have hplain : ∀ j, j < ss.length → w.cell? ⟨b, off + j, none⟩ = some (.string (ss.getD j ByteArray.empty)) := fun j hj => by rw [← Go.WideShapes.add_plain]; exact hcell j hj
    refine ⟨b, off, rfl, ?_, fun i hi => ?_⟩
    · rcases Nat.lt_or_ge b w.heap.size with h' | h'
      · exact h'
      · have := hplain 0 (by omega)
        simp [World.cell?, Array.getElem?_eq_none h'] at this
    · rw [hlen] at hi
      rw [hplain i (by omega)]
      simp [List.getD, List.getElem?_take_of_lt hi]
theorem cat_list (l : List UInt8) (s : ByteArray) : (ByteArray.mk l.toArray ++ s).data.toList = l ++ s.data.toList := by simp
theorem two_or {ls : List ByteArray} : listE (bytes ls) = 0 ∨ listE (bytes ls) = 2 := by
  unfold listE; split
  · exact Or.inr rfl
  · exact Or.inl rfl

/-! ### The walk: the Go text returns true. -/
set_option maxHeartbeats 800000 in
set_option maxRecDepth 20000 in
theorem walk (a0 : Int) (a1 : ByteArray) (a2 : ByteArray) (v3 : Value) (l3 : List ByteArray) (w : World) (w0 : (Lit.int .u64 a0).wf = true) (w1 : a1.size ≤ 140737488351232) (w2 : a2.size ≤ 140737488351232) (w3 : Strs w v3 l3) :
    Calls Try.prog 6 #[.int .u64 a0, .string a1, .string a2, v3] w fun e w' => e = .returned (.bool true) ∧ Below w.heap.size w w' := by
  obtain ⟨n, rfl, hn⟩ : ∃ n : Nat, a0 = (n : Int) ∧ n < 18446744073709551616 := by have := bounds_u64 w0; exact ⟨a0.toNat, by omega, by omega⟩
  clear w0
  have hnl := (num_len n hn).1
  obtain ⟨b1, b2, b3⟩ := read_num n hn a2.data.toList
  have hs1 : (ByteArray.mk (num n).toArray).size + a2.size ≤ 9223372036854775807 := by show (num n).toArray.size + a2.size ≤ _; simp; omega
  have hs2 : (ByteArray.mk (num n).toArray ++ a2).size ≤ 9223372036854775807 := by rw [ByteArray.size_append]; exact hs1
  go_enter Try.func6, Try.ntmps6
  go_wp2_with fail
  refine (num_any n hn _).mono ?_
  rintro e w4 ⟨rfl, hb4⟩
  go_wp2_with fail
  refine (read_any _ hs2 _).mono ?_
  rintro e w5 ⟨rfl, hw5⟩
  subst hw5
  rw [cat_list, b1, b2, b3]
  go_wp2_with fail
  refine (num_any n hn _).mono ?_
  rintro e w6 ⟨rfl, hb6⟩
  have hB6 := hb4.trans (hb6.mono hb4.size)
  clear hs1 hs2 b1 b2 b3 hb4 hb6
  go_wp2_with fail
  by_cases h : a1.size ≤ 4096
  · have hq : (a1.size : Int) ≤ 4096 := by omega
    obtain ⟨t1, t2, t3⟩ := text_back a1.data.toList a2.data.toList (by simpa using h)
    have htl := text_len a1 h
    have hs1 : (ByteArray.mk (text a1.data.toList).toArray).size + a2.size ≤ 9223372036854775000 := by show (text a1.data.toList).toArray.size + a2.size ≤ _; simp; omega
    have hs3 : (ByteArray.mk (text a1.data.toList).toArray).size + a2.size ≤ 9223372036854775807 := by omega
    have hs2 : (ByteArray.mk (text a1.data.toList).toArray ++ a2).size ≤ 9223372036854775000 := by rw [ByteArray.size_append]; exact hs1
    refine (text_ok a1 h _).mono ?_
    rintro e w7 ⟨rfl, hb7⟩
    have hB7 := hB6.trans (hb7.mono hB6.size)
    go_wp2_with fail
    refine (readtext_any _ hs2 _).mono ?_
    rintro e w8 ⟨rfl, hb8⟩
    have hB8 := hB7.trans (hb8.mono hB7.size)
    rw [cat_list, t1, t2, t3]
    clear hs1 hs2 hs3 t1 t2 t3 hb7 hb8
    go_wp2_with fail
    refine (list_any v3 l3 _ (w3.below hB8 (Nat.le_refl _))).mono ?_
    rintro e w9 ⟨rfl, hb9⟩
    have hB9 := hB8.trans (hb9.mono hB8.size)
    rcases two_or (ls := l3) with hE | hE
    · rw [hE, listT_ok l3 hE, upto_all]
      obtain ⟨y1, y2⟩ := list_back _ hE
      obtain ⟨z1, z2⟩ := listE_zero _ hE
      rw [bytes_length] at z1
      have hsz : (ByteArray.mk (list (bytes l3)).toArray).size ≤ 140737488351232 := by
        show (list (bytes l3)).toArray.size ≤ _
        have := upto_len l3 z1 l3.length (Nat.le_refl _) (fun i hi => by
          have := z2 _ (List.getElem_mem (l := bytes l3) (n := i) (by rw [bytes_length]; exact hi))
          rw [bytes_at l3 i hi] at this
          simpa using this)
        rw [upto_all] at this
        simp; omega
      go_wp2_with fail
      refine (readlist_any _ hsz _).mono ?_
      rintro e w10 ⟨x, rfl, hown, hb10⟩
      have hB10 := hB9.trans (hb10.mono hB9.size)
      have y1' : le (ByteArray.mk (list (bytes l3)).toArray).data.toList = 0 := y1
      have y2' : mk (ll (ByteArray.mk (list (bytes l3)).toArray).data.toList) = l3 := by
        show mk (ll (list (bytes l3))) = l3
        rw [y2, mk_bytes]
      rw [y1']
      rw [y2'] at hown
      have hS := strs_of_own hown (by omega)
      clear hown hb10 hb9 y1 y2 y1' y2'
      go_wp2_with fail
      refine (equal_any _ x v3 _ _ hS (w3.below hB10 (Nat.le_refl _))).mono ?_
      rintro e w11 ⟨rfl, nq, rfl⟩
      go_wp2_with fail
      go_ret
      exact ⟨by simp, below_drewN hB10 nq⟩
    · rw [hE, listT_bad l3 hE]
      go_wp2_with fail
      go_ret
      exact ⟨by simp, hB9⟩
  · have hq : (4096 : Int) < (a1.size : Int) := by omega
    refine (text_large a1 (by omega) _).mono ?_
    rintro e w7 ⟨rfl, rfl⟩
    go_wp2_with fail
    go_ret
    exact ⟨by simp, hB6⟩

/-! ### The row's step -/
set_option maxRecDepth 100000 in
theorem lifted (os : Os) (started : os.Started) (H : Type) (enc : TypeId × Value → H) :
    ReturnsInHanded {} Try.checked os 6 .any (Rows.packBackSpec.pre6 enc Try.prog Try.f6 Rows.packBackRow.domain false) (Rows.packBackSpec.post enc Try.prog Try.f6 false true false false) := by
  refine returnsInHanded_of_change_sized (C := Try.checked) own started (by kernel_rfl) Try.func6
    (ChangeSpec.witness6 (enc := enc) (C := Try.checked) false ⟨#[], #[.int .u64 0, .string ByteArray.empty, .string ByteArray.empty, .slice none 0 0], []⟩ 8 (by kernel_rfl) (by kernel_rfl) (by kernel_rfl) (by kernel_rfl)) ?_
  intro W base args ds gs before hval0 hW hcnd hsz0 _
  have hval : ∀ (j : Nat) t v, Try.f6.params[j]? = some t → args[j]? = some v → Value.okWide Try.prog W .any base t v := hval0
  have hsz : (DataW.weightsEach Try.prog (Try.f6.params.toList ++ Rows.packBackSpec.plain.varTypes Try.prog) (ds ++ gs)).all (· ≤ reachBytes) = true := hsz0
  have hW' := hW
  obtain ⟨p, q, hA0, hV, rfl, hfz, hnd⟩ := hW
  have hA : DataW.TrodAll enc Try.prog W 0 (fun _ => true) true Try.f6.params.toList args.toList ds p := hA0
  rw [Try.params6] at hA hval hsz
  obtain ⟨v0, vs0, d0, ds0, p0, q0, hargs, rfl, rfl, h0, r0⟩ := trodAll_cons hA
  obtain ⟨v1, vs1, d1, ds1, p1, q1, rfl, rfl, rfl, h1, r1⟩ := trodAll_cons r0
  obtain ⟨v2, vs2, d2, ds2, p2, q2, rfl, rfl, rfl, h2, r2⟩ := trodAll_cons r1
  obtain ⟨v3, vs3, d3, ds3, p3, q3, rfl, rfl, rfl, h3, r3⟩ := trodAll_cons r2
  obtain ⟨rfl, rfl, rfl⟩ := trodAll_nil r3
  obtain rfl : args = #[v0, v1, v2, v3] := by cases args; simp_all
  obtain ⟨rfl, rfl⟩ := trodVars_none hV
  obtain ⟨a0, rfl, rfl, rfl, w0⟩ := open_int Try.underlying22 (hval 0 22 v0 rfl rfl) h0
  obtain ⟨a1, rfl, rfl, rfl, w1⟩ := open_string Try.underlying9 (hval 1 9 v1 rfl rfl) h1
  obtain ⟨a2, rfl, rfl, rfl, w2⟩ := open_string Try.underlying9 (hval 2 9 v2 rfl rfl) h2
  obtain ⟨a3, len3, cap3, rfl⟩ := okWide_slice Try.underlying33 (hval 3 33 v3 rfl rfl)
  have k3 := h3
  have lt3 : ∀ x ∈ p3, x.block < W.heap.size := by obtain ⟨m, hm⟩ := k3; exact DataW.trod_lt m _ _ _ hm
  obtain ⟨l3, s3⟩ : ∃ ls, Strs W (.slice a3 len3 cap3) ls := by
    obtain ⟨fuel, hf⟩ := h3
    rcases open_strings Try.underlying33 Try.underlying9 (by kernel_rfl) hf with ⟨hcs, _⟩ | ⟨x, l, c, ss, hcs, _, hl, hm, hz, _, hcell, hws⟩
    · simp [Value.cells] at hcs
      obtain ⟨rfl, rfl, rfl⟩ := hcs
      exact ⟨[], strs_nil W⟩
    · simp [Value.cells] at hcs
      obtain ⟨rfl, rfl, rfl⟩ := hcs
      exact ⟨ss.take len3, strs_of_cells hl hm (by simpa using hz) hcell⟩
  have r1z : a1.size ≤ 140737488351232 := by have := sized_string hsz (j := 1) (t := 9) rfl rfl; simpa [reachBytes] using this
  have r2z : a2.size ≤ 140737488351232 := by have := sized_string hsz (j := 2) (t := 9) rfl rfl; simpa [reachBytes] using this
  clear hA0 hval0
  refine (walk a0 a1 a2 _ l3 W w0 r1z r2z s3).mono fun e W' ⟨he, bel⟩ => ?_
  subst he
  exact ⟨_, rfl, _, _, _, [], _, [], hW', trodAll_mk1 (shut_bool Try.underlying4 _), (trodAll_cons_mk (shut_int Try.underlying22 w0) (trodAll_cons_mk (shut_string Try.underlying9 w1) (trodAll_cons_mk (shut_string Try.underlying9 w2) (trodAll_cons_mk (Below.trod laidOut (by kernel_rfl) (of_decide_eq_true (by kernel_rfl)) k3 bel lt3) trodAll_mk0)))), rfl, bel.frame _, fun h => by cases h⟩

theorem over : Rows.packBackRow.holds Try.pinned (OpenSpec.ofChange Rows.packBackSpec) :=
  OpenClaim.holds_of_wide 6 Try.f6 rfl rfl rfl rfl rfl rfl rfl ⟨rfl, rfl, rfl, rfl, rfl⟩ rfl rfl rfl rfl rfl (by kernel_rfl) Try.func6 (by kernel_rfl)
    (of_decide_eq_true (by kernel_rfl)) (by unfold Func.isWrapper; first | (rw [if_pos (by decide +kernel)]; kernel_rfl) | (rw [if_neg (by decide +kernel)]; exact ⟨rfl, rfl⟩))
    (fun os started H enc _ => lifted os started H enc)

end Go.Proofs.Ytompnobaledpaaa.packBack
namespace Go.Proofs.Ytompnobaledpaaa
/-- The given statement. -/
theorem packBack_holds : Rows.PackBackSaid := packBack.over
#print axioms packBack_holds
end Go.Proofs.Ytompnobaledpaaa
