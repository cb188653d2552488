/-
  Whatever text is handed in, the call of pushkeep.PackOne returns true: what is read is written as just those bytes. Conditions: none.
-/
import Derived.Test.YtompnobaledpaaaRows
import Derived.WalkKit
import Derived.ProofKit
import Derived.OpenShut
import Derived.ShutString
import Derived.Test.YtompnobaledpaaaReadWalks
import Derived.WalkLawsBesides
import Derived.WalkSpells
import Derived.SizedLaws
import Derived.ChangeOld
import Derived.Below
import Derived.Deep.RegionHeld3
import Derived.BigQuiet
import Derived.Deep.QuietTactic
namespace Go.Proofs.Ytompnobaledpaaa.packOne
open Go.ChangeShapes Go.WideShapes Go.ChangeAt Go.RowKit
open Go.ChangeMaps (open_string shut_string)
open Pack
set_option linter.unusedVariables false      -- a walk need not use every 'w<i>' (that an integer argument fits its kind)

theorem own : ownKnob Try.prog.godebug = none := by kernel_rfl

/-! ### The walk: the Go text returns true. -/
theorem known_read : rn [128, 1] = 128 ∧ rk [128, 1] = 2 ∧ re [128, 1] = 0 := by decide
theorem front_list (s : ByteArray) (k : Nat) : s.extract 0 k = ByteArray.mk (s.data.toList.take k).toArray := by
  apply ByteArray.ext
  apply Array.ext'
  simp
theorem own_strs {w : World} {base : Nat} {v : Value} {ls : List ByteArray} (h : w.ownsRow base 9 1 v ls.length (ls.map Value.string)) (hm : ls.length ≤ 100) : Strs w v ls := strs_of_own h (by omega)
theorem own_none {w : World} {base : Nat} {v : Value} {l : List UInt8} (h : w.ownsRow base 9 1 v (mk (ll l)).length ((mk (ll l)).map Value.string)) (hl : le l ≠ 0) : ∃ ao cap, v = .slice ao 0 cap := by
  have e : ll l = [] := by unfold ll; rw [if_neg hl]
  rw [e] at h
  rcases h.2 with ⟨h1, _⟩ | ⟨g, cap, cur, h1, _⟩
  · exact ⟨_, _, h1⟩
  · exact ⟨_, _, h1⟩
theorem list_same (s : ByteArray) (h : le s.data.toList = 0) : ByteArray.mk (listT (bytes (mk (ll s.data.toList)))).toArray = s := by
  obtain ⟨h1, h2⟩ := list_one _ h
  rw [bytes_mk]
  unfold listT
  rw [if_pos h1, h2]
set_option maxHeartbeats 1000000 in
theorem walk (a0 : ByteArray) (w0 : a0.size ≤ 140737488351232) (w : World) :
    Calls Try.prog 7 #[.string a0] w fun e w' => e = .returned (.bool true) ∧ Below w.heap.size w w' := by
  have hlen : a0.data.toList.length = a0.size := by simp
  obtain ⟨q1, q2, q3⟩ := known_read
  have hrn := rn_lt a0.data.toList
  have hrk := rk_le a0.data.toList
  by_cases h0 : re a0.data.toList = 0
  · obtain ⟨n1, n2, n3, n4⟩ := num_read _ h0
    obtain ⟨n, HN, hn⟩ : ∃ n : Nat, Hid (n = rn a0.data.toList) ∧ n < 18446744073709551616 := ⟨_, rfl, hrn⟩
    obtain ⟨k, HK, hk⟩ : ∃ k : Nat, Hid (k = rk a0.data.toList) ∧ k ≤ a0.size := ⟨_, rfl, by omega⟩
    have heq : a0.extract 0 k = ByteArray.mk (num n).toArray := by rw [front_list, HK.out, HN.out, n2]
    have hkb : (k : Int) ≤ (a0.size : Int) := by omega
    have hk0 : (0 : Int) ≤ (k : Int) := Int.natCast_nonneg _
    have hd : decide (a0.size < k) = false := by simp; omega
    go_enter Try.func7, Try.ntmps7
    go_wp2_with fail
    refine (read_any _ (by decide) _).mono ?_
    rintro e w' ⟨rfl, hw'⟩
    subst hw'
    rw [show rn (ByteArray.mk #[128, 1]).data.toList = 128 from q1, show rk (ByteArray.mk #[128, 1]).data.toList = 2 from q2, show re (ByteArray.mk #[128, 1]).data.toList = 0 from q3]
    go_wp2_with fail
    refine (read_any a0 (by omega) _).mono ?_
    rintro e w2 ⟨rfl, hw2⟩
    subst hw2
    rw [h0, ← HN.out, ← HK.out]
    go_wp2_with fail
    go_region_held3 (fun _ => True) (trivial) ((go_at_call 11; refine (num_any n hn _).mono ?_; rintro e w3 ⟨rfl, hb3⟩))
    have hB3 : Below w2.heap.size w2 w3 := (Below.refl _ w2).drew.trans hb3
    clear hb3 n1 n2 n3 n4 heq hd HN HK
    go_wp2_with fail
    refine (readtext_any a0 (by omega) _).mono ?_
    rintro e w4 ⟨rfl, hb4⟩
    have hB4 := hB3.trans (hb4.mono hB3.size)
    by_cases ht : te a0.data.toList = 0
    · obtain ⟨x1, x2, x3⟩ := text_one _ ht
      obtain ⟨z, HZ, hz⟩ : ∃ z : Nat, tk a0.data.toList = z ∧ z ≤ a0.size := ⟨_, rfl, by omega⟩
      have hex : a0.extract 0 z = ByteArray.mk (text (tt a0.data.toList)).toArray := by rw [front_list, ← HZ, x2]
      have hz0 : (0 : Int) ≤ (z : Int) := Int.natCast_nonneg _
      have hz1 : (z : Int) ≤ (a0.size : Int) := by omega
      rw [ht, HZ]
      clear HZ x1 x2
      go_wp2_with fail
      refine (text_ok _ (by show (tt a0.data.toList).toArray.size ≤ _; simpa using x3) _).mono ?_
      rintro e w5 ⟨rfl, hb5⟩
      have hB5 := hB4.trans (hb5.mono hB4.size)
      have htx : text (ByteArray.mk (tt a0.data.toList).toArray).data.toList = text (tt a0.data.toList) := rfl
      rw [htx]
      clear htx
      go_wp2_with fail
      refine (readlist_any a0 w0 _).mono ?_
      rintro e w6 ⟨v, rfl, hown, hb6⟩
      have hB6 := hB5.trans (hb6.mono hB5.size)
      by_cases hl : le a0.data.toList = 0
      · have hS := own_strs hown (by rw [mk_length]; have := listE_zero _ (list_one _ hl).1; omega)
        have hT := list_same a0 hl
        have hE : listE (bytes (mk (ll a0.data.toList))) = 0 := by rw [bytes_mk]; exact (list_one _ hl).1
        rw [hl]
        clear hown
        go_wp2_with fail
        refine (list_any v _ _ hS).mono ?_
        rintro e w7 ⟨rfl, hb7⟩
        rw [hT, hE]
        go_wp2_with fail
        go_ret
        exact ⟨by simp, hB6.trans (hb7.mono hB6.size)⟩
      · have hlb : (((le a0.data.toList : Nat) : Int) == 0) = false := by simp; omega
        obtain ⟨ao, cap, rfl⟩ := own_none hown hl
        clear hown
        go_wp2_with fail
        go_ret
        exact ⟨by simp, hB6⟩
    · have htb : (((te a0.data.toList : Nat) : Int) == 0) = false := by simp; omega
      go_wp2_with fail
      refine (readlist_any a0 w0 _).mono ?_
      rintro e w6 ⟨v, rfl, hown, hb6⟩
      have hB6 := hB4.trans (hb6.mono hB4.size)
      by_cases hl : le a0.data.toList = 0
      · have hS := own_strs hown (by rw [mk_length]; have := listE_zero _ (list_one _ hl).1; omega)
        have hT := list_same a0 hl
        have hE : listE (bytes (mk (ll a0.data.toList))) = 0 := by rw [bytes_mk]; exact (list_one _ hl).1
        rw [hl]
        clear hown
        go_wp2_with fail
        refine (list_any v _ _ hS).mono ?_
        rintro e w7 ⟨rfl, hb7⟩
        rw [hT, hE]
        go_wp2_with fail
        go_ret
        exact ⟨by simp, hB6.trans (hb7.mono hB6.size)⟩
      · have hlb : (((le a0.data.toList : Nat) : Int) == 0) = false := by simp; omega
        obtain ⟨ao, cap, rfl⟩ := own_none hown hl
        clear hown
        go_wp2_with fail
        go_ret
        exact ⟨by simp, hB6⟩
  · have hrb : (((re a0.data.toList : Nat) : Int) == 0) = false := by simp; omega
    go_enter Try.func7, Try.ntmps7
    go_wp2_with fail
    refine (read_any _ (by decide) _).mono ?_
    rintro e w' ⟨rfl, hw'⟩
    subst hw'
    rw [show rn (ByteArray.mk #[128, 1]).data.toList = 128 from q1, show rk (ByteArray.mk #[128, 1]).data.toList = 2 from q2, show re (ByteArray.mk #[128, 1]).data.toList = 0 from q3]
    go_wp2_with fail
    refine (read_any a0 (by omega) _).mono ?_
    rintro e w2 ⟨rfl, hw2⟩
    subst hw2
    rw [rn_bad _ h0, rk_bad _ h0]
    go_wp2_with fail
    go_quiet (fail)
    have hB3 : Below w2.heap.size w2 (w2.drewN nq) := below_drewN (Below.refl _ w2) nq
    go_wp2_with fail
    refine (readtext_any a0 (by omega) _).mono ?_
    rintro e w4 ⟨rfl, hb4⟩
    have hB4 := hB3.trans (hb4.mono hB3.size)
    by_cases ht : te a0.data.toList = 0
    · obtain ⟨x1, x2, x3⟩ := text_one _ ht
      obtain ⟨z, HZ, hz⟩ : ∃ z : Nat, tk a0.data.toList = z ∧ z ≤ a0.size := ⟨_, rfl, by omega⟩
      have hex : a0.extract 0 z = ByteArray.mk (text (tt a0.data.toList)).toArray := by rw [front_list, ← HZ, x2]
      have hz0 : (0 : Int) ≤ (z : Int) := Int.natCast_nonneg _
      have hz1 : (z : Int) ≤ (a0.size : Int) := by omega
      rw [ht, HZ]
      clear HZ x1 x2
      go_wp2_with fail
      refine (text_ok _ (by show (tt a0.data.toList).toArray.size ≤ _; simpa using x3) _).mono ?_
      rintro e w5 ⟨rfl, hb5⟩
      have hB5 := hB4.trans (hb5.mono hB4.size)
      have htx : text (ByteArray.mk (tt a0.data.toList).toArray).data.toList = text (tt a0.data.toList) := rfl
      rw [htx]
      clear htx
      go_wp2_with fail
      refine (readlist_any a0 w0 _).mono ?_
      rintro e w6 ⟨v, rfl, hown, hb6⟩
      have hB6 := hB5.trans (hb6.mono hB5.size)
      by_cases hl : le a0.data.toList = 0
      · have hS := own_strs hown (by rw [mk_length]; have := listE_zero _ (list_one _ hl).1; omega)
        have hT := list_same a0 hl
        have hE : listE (bytes (mk (ll a0.data.toList))) = 0 := by rw [bytes_mk]; exact (list_one _ hl).1
        rw [hl]
        clear hown
        go_wp2_with fail
        refine (list_any v _ _ hS).mono ?_
        rintro e w7 ⟨rfl, hb7⟩
        rw [hT, hE]
        go_wp2_with fail
        go_ret
        exact ⟨by simp, hB6.trans (hb7.mono hB6.size)⟩
      · have hlb : (((le a0.data.toList : Nat) : Int) == 0) = false := by simp; omega
        obtain ⟨ao, cap, rfl⟩ := own_none hown hl
        clear hown
        go_wp2_with fail
        go_ret
        exact ⟨by simp, hB6⟩
    · have htb : (((te a0.data.toList : Nat) : Int) == 0) = false := by simp; omega
      go_wp2_with fail
      refine (readlist_any a0 w0 _).mono ?_
      rintro e w6 ⟨v, rfl, hown, hb6⟩
      have hB6 := hB4.trans (hb6.mono hB4.size)
      by_cases hl : le a0.data.toList = 0
      · have hS := own_strs hown (by rw [mk_length]; have := listE_zero _ (list_one _ hl).1; omega)
        have hT := list_same a0 hl
        have hE : listE (bytes (mk (ll a0.data.toList))) = 0 := by rw [bytes_mk]; exact (list_one _ hl).1
        rw [hl]
        clear hown
        go_wp2_with fail
        refine (list_any v _ _ hS).mono ?_
        rintro e w7 ⟨rfl, hb7⟩
        rw [hT, hE]
        go_wp2_with fail
        go_ret
        exact ⟨by simp, hB6.trans (hb7.mono hB6.size)⟩
      · have hlb : (((le a0.data.toList : Nat) : Int) == 0) = false := by simp; omega
        obtain ⟨ao, cap, rfl⟩ := own_none hown hl
        clear hown
        go_wp2_with fail
        go_ret
        exact ⟨by simp, hB6⟩

/-! ### The row's step -/
set_option maxRecDepth 100000 in
theorem lifted (os : Os) (started : os.Started) (H : Type) (enc : TypeId × Value → H) :
    ReturnsInHanded {} Try.checked os 7 .any (Rows.packOneSpec.pre6 enc Try.prog Try.f7 Rows.packOneRow.domain false) (Rows.packOneSpec.post enc Try.prog Try.f7 false true false false) := by
  refine returnsInHanded_of_change_sized (C := Try.checked) own started (by kernel_rfl) Try.func7
    (ChangeSpec.witness6 (enc := enc) (C := Try.checked) false ⟨#[], #[.string ByteArray.empty], []⟩ 8 (by kernel_rfl) (by kernel_rfl) (by kernel_rfl) (by kernel_rfl)) ?_
  intro W base args ds gs before hval0 hW hcnd hsz0 _
  have hval : ∀ (j : Nat) t v, Try.f7.params[j]? = some t → args[j]? = some v → Value.okWide Try.prog W .any base t v := hval0
  have hsz : (DataW.weightsEach Try.prog (Try.f7.params.toList ++ Rows.packOneSpec.plain.varTypes Try.prog) (ds ++ gs)).all (· ≤ reachBytes) = true := hsz0
  have hW' := hW
  obtain ⟨p, q, hA0, hV, rfl, hfz, hnd⟩ := hW
  have hA : DataW.TrodAll enc Try.prog W 0 (fun _ => true) true Try.f7.params.toList args.toList ds p := hA0
  rw [Try.params7] at hA hval hsz
  obtain ⟨v0, vs0, d0, ds0, p0, q0, hargs, rfl, rfl, h0, r0⟩ := trodAll_cons hA
  obtain ⟨rfl, rfl, rfl⟩ := trodAll_nil r0
  obtain rfl : args = #[v0] := by cases args; simp_all
  obtain ⟨rfl, rfl⟩ := trodVars_none hV
  obtain ⟨a0, rfl, rfl, rfl, w0⟩ := open_string Try.underlying9 (hval 0 9 v0 rfl rfl) h0
  clear hA0 hval0
  simp only [List.append_nil] at hW'
  have r0z : a0.size ≤ 140737488351232 := by have := sized_string hsz (j := 0) (t := 9) rfl rfl; simpa [reachBytes] using this
  refine (walk a0 r0z W).mono fun e W' ⟨he, hg⟩ => ?_
  subst he
  exact ⟨_, rfl, _, _, _, [], _, [], hW', (trodAll_cons_mk (shut_bool Try.underlying4 _) trodAll_mk0), (trodAll_cons_mk (shut_string Try.underlying9 w0) trodAll_mk0), rfl, hg.frame _, fun h => by cases h⟩

theorem over : Rows.packOneRow.holds Try.pinned (OpenSpec.ofChange Rows.packOneSpec) :=
  OpenClaim.holds_of_wide 7 Try.f7 rfl rfl rfl rfl rfl rfl rfl ⟨rfl, rfl, rfl, rfl, rfl⟩ rfl rfl rfl rfl rfl (by kernel_rfl) Try.func7 (by kernel_rfl)
    (of_decide_eq_true (by kernel_rfl)) (by unfold Func.isWrapper; first | (rw [if_pos (by decide +kernel)]; kernel_rfl) | (rw [if_neg (by decide +kernel)]; exact ⟨rfl, rfl⟩))
    (fun os started H enc _ => lifted os started H enc)

end Go.Proofs.Ytompnobaledpaaa.packOne
namespace Go.Proofs.Ytompnobaledpaaa
/-- The given statement. -/
theorem packOne_holds : Rows.PackOneSaid := packOne.over
#print axioms packOne_holds
end Go.Proofs.Ytompnobaledpaaa
