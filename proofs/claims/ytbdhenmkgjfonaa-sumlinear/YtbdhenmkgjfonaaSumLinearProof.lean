/-
  Whatever three texts are handed in, the call of pushkeep.SumLinear returns true: the sum of the bits' sum of three texts of one length is the bits' sum of their sums, and 'a' has the well-known sum. Conditions: none.
-/
import Derived.Test.YtbdhenmkgjfonaaRows
import Derived.WalkKit
import Derived.ProofKit
import Derived.OpenShut
import Derived.ShutString
import Derived.SizedLaws
import Derived.Test.YtbdhenmkgjfonaaWalks
import Derived.WalkLawsBesides
import Derived.WalkSpells
import Derived.Deep.RegionHeld3
import Derived.Deep.AppendLies
import Derived.Deep.DrawnRows
import Derived.BigQuiet
import Derived.Deep.QuietTactic
import Derived.Laws.IdiomStrings
import Derived.Laws.BytesArg
import Derived.ChangeOld
import Derived.Below
namespace Go.Proofs.Ytbdhenmkgjfonaa.sumLinear
open Go.ChangeShapes Go.WideShapes Go.ChangeAt Go.RowKit
open Go.ChangeMaps (open_string shut_string)
open Crc
set_option linter.unusedVariables false      -- a walk need not use every 'w<i>' (that an integer argument fits its kind)

theorem own : ownKnob Try.prog.godebug = none := by kernel_rfl

/-! ### The walk: the Go text returns true. -/
theorem info5 : (Try.prog.info? 5).map (fun i => (i.zero, i.size, i.bytes)) = some (some (.int .u8 0), 1, 1) := by kernel_rfl
/-- The bits' sum of three texts. -/
def three (a b c : ByteArray) : List UInt8 := mix (mix a.data.toList b.data.toList) c.data.toList
/-- A text's bytes as they lie in memory. -/
def lies (l : List UInt8) : List Value := l.map (fun c => Value.int .u8 (c.toNat : Int))
theorem three_at (a b c : ByteArray) (k : Nat) (h0 : k < a.size) (h1 : k < b.size) (h2 : k < c.size) : (three a b c)[k]? = some (a[k] ^^^ b[k] ^^^ c[k]) := by
  unfold three mix
  rw [List.getElem?_zipWith, List.getElem?_zipWith]
  rw [List.getElem?_eq_getElem (by simpa using h0), List.getElem?_eq_getElem (by simpa using h1), List.getElem?_eq_getElem (by simpa using h2)]
  rfl
theorem lies_snoc (a b c : ByteArray) (k : Nat) (h0 : k < a.size) (h1 : k < b.size) (h2 : k < c.size) :
    lies ((three a b c).take k) ++ [Value.int .u8 (bits .xor .u8 (bits .xor .u8 (a[k].toNat : Int) (b[k].toNat : Int)) (c[k].toNat : Int))] = lies ((three a b c).take (k + 1)) := by
  have h := three_at a b c k h0 h1 h2
  rw [List.take_add_one, h]
  have e1 := a[k].toNat_lt
  have e2 := b[k].toNat_lt
  have e3 := c[k].toNat_lt
  have e4 := (a[k] ^^^ b[k]).toNat_lt
  rw [u8_xor_nat _ _ (by omega) (by omega), ← UInt8.toNat_xor, u8_xor_nat _ _ (by omega) (by omega), ← UInt8.toNat_xor]
  simp [lies]
theorem own_ge {w : World} {base e size n : Nat} {v : Value} {xs : List Value} (h : w.ownsRow base e size v n xs) : ∀ k, v.ownBlock = some k → base ≤ k := by
  intro k hk
  rcases h.2 with ⟨rfl, _⟩ | ⟨g, cap, cur, rfl, hg, _⟩
  · simp [Value.ownBlock] at hk
  · simp [Value.ownBlock] at hk; omega
/-- What a text's bytes, in a slice of one's own, are as a string. -/
theorem conv_own {w : World} {base : Nat} {v : Value} {n : Nat} {l : List UInt8} (h : w.ownsRow base 5 1 v n (lies l)) : (convert 27 9 v).run Try.prog w = .ok (.string ⟨l.toArray⟩) w := by
  obtain ⟨hl, h | ⟨g, cap, cur, rfl, _, hb, _, _, _, ht⟩⟩ := h
  · obtain ⟨rfl, rfl⟩ := h
    have : l = [] := by
      have : l.length = 0 := by simpa [lies] using hl
      exact List.length_eq_zero_iff.1 this
    subst this
    exact run_convert_bytes_nil w 27 5 Try.underlying27 Try.underlying5 0 0 9 Try.underlying9
  · have hn : n = l.length := by simpa [lies] using hl.symm
    subst hn
    refine run_convert_bytes_back w 27 9 5 ⟨g, 0, none⟩ cap l Try.underlying27 Try.underlying5 Try.underlying9 fun j hj => ?_
    have hadd : (⟨g, 0, none⟩ : Addr).add j = ⟨g, j, none⟩ := by unfold Addr.add; split <;> simp_all
    rw [hadd, cell_of_row w g j cur 5 (0, 0) hb]
    have h2 : (cur.toList.take (l.length * 1))[j]? = (lies l)[j]? := by rw [ht]
    rw [List.getElem?_take_of_lt (by omega)] at h2
    have h3 : (lies l)[j]? = some (Value.int .u8 (l[j].toNat : Int)) := by simp [lies, List.getElem?_eq_getElem hj]
    rw [← h3, ← h2]
    simp
theorem take_three (a b c : ByteArray) (k : Nat) : (three a b c).take k = mix (mix (a.data.toList.take k) (b.data.toList.take k)) (c.data.toList.take k) := by
  unfold three mix; rw [List.take_zipWith, List.take_zipWith]
theorem front_size (a : ByteArray) (k : Nat) (h : a.size ≤ 140737488351232) : (a.extract 0 k).size ≤ 9223372036854775807 := by
  simp; omega
theorem three_size (a b c : ByteArray) (k : Nat) (h : k ≤ 140737488351232) : (⟨((three a b c).take k).toArray⟩ : ByteArray).size ≤ 9223372036854775807 := by
  show ((three a b c).take k).toArray.size ≤ _
  simp; omega
theorem linear (a b c : ByteArray) (k : Nat) (h0 : k ≤ a.size) (h1 : k ≤ b.size) (h2 : k ≤ c.size) :
    (((more 0 ((three a b c).take k) : Nat) : Int) == bits .xor .u32 (bits .xor .u32 ((more 0 (a.data.toList.take k) : Nat) : Int) ((more 0 (b.data.toList.take k) : Nat) : Int)) ((more 0 (c.data.toList.take k) : Nat) : Int)) = true := by
  have l0 : (a.data.toList.take k).length = k := by simp; omega
  have l1 : (b.data.toList.take k).length = k := by simp; omega
  have l2 : (c.data.toList.take k).length = k := by simp; omega
  have m0 := more_lt (n := 0) (by omega) (a.data.toList.take k)
  have m1 := more_lt (n := 0) (by omega) (b.data.toList.take k)
  have m2 := more_lt (n := 0) (by omega) (c.data.toList.take k)
  rw [xor32 _ _ m0 m1, xor32 _ _ (xor_lt32 m0 m1) m2]
  rw [take_three, more_three _ _ _ (by rw [l0, l1]) (by rw [l1, l2])]
  simp
set_option maxHeartbeats 800000 in
theorem walk (a0 : ByteArray) (a1 : ByteArray) (a2 : ByteArray) (w0 : a0.size ≤ 140737488351232) (w1 : a1.size ≤ 140737488351232) (w2 : a2.size ≤ 140737488351232) (w : World) :
    Calls Try.prog 5 #[.string a0, .string a1, .string a2] w fun e w' => e = .returned (.bool true) ∧ Below w.heap.size w w' := by
  obtain ⟨n, hm, hn0, hn1, hn2⟩ : ∃ n : Nat, (if (a2.size : Int) < (if a1.size < a0.size then (a1.size : Int) else (a0.size : Int)) then (a2.size : Int) else (if a1.size < a0.size then (a1.size : Int) else (a0.size : Int))) = (n : Int) ∧ n ≤ a0.size ∧ n ≤ a1.size ∧ n ≤ a2.size := by
    refine ⟨min (min a0.size a1.size) a2.size, ?_, by omega, by omega, by omega⟩
    split <;> split <;> omega
  obtain ⟨i0, hi, hz0, hz1, hz2⟩ := info_parts info5
  go_enter Try.func5, Try.ntmps5
  go_wp2
  clear hm
  go_loopw [8, 18] (fun v i wr => ∃ k : Nat, k ≤ n ∧ i = .int .i64 (k : Int) ∧ wr.ownsRow w.heap.size 5 1 v k (lies ((three a0 a1 a2).take k)) ∧ Below w.heap.size w wr) (fun _ i _ => n - (intOf i).toNat)
  case atStart => exact ⟨0, Nat.zero_le _, rfl, World.ownsRow_nil _ _ _ _, Below.refl _ _⟩
  case round =>
    obtain ⟨k, hk, rfl, hown, hbel⟩ := hrel
    have hsz := hbel.size
    by_cases hlt : k < n
    · have hk0 : (0 : Int) ≤ (k : Int) := Int.natCast_nonneg _
      have hk1 : (k : Int) < (a0.size : Int) := by omega
      have hk2 : (k : Int) < (a1.size : Int) := by omega
      have hk3 : (k : Int) < (a2.size : Int) := by omega
      go_wp2
      go_region_held3 (fun _ => True) (trivial) ((refine step_append_lies _ (by rfl) _ _ _ (by rfl) w.heap.size 5 i0 _ 1 1 Try.underlying27 hi hz0 hz1 hz2 rfl (by omega) _ k _ (by rfl) ((hown.alloc _).drew) ⟨wr.heap.size, 0, none⟩ 1 1 [.int .u8 (bits .xor .u8 (bits .xor .u8 ((a0[k]'(by omega)).toNat : Int) ((a1[k]'(by omega)).toNat : Int)) ((a2[k]'(by omega)).toNat : Int))] (by rfl) (by rfl) (World.news_of_block (t := 5) (fr := (0, 0)) (heap_alloc_new wr _)) (by simp [Value.oneCell']) (by omega) (by unfold maxLen; omega) (by omega) (by simp; omega) (wr.heap.size + 1) (by simp) ?_; intro gg cap w1 hown1 hgrow hat hlt1))
      all_goals
        have R : w1.ownsRow w.heap.size 5 1 (Value.slice (some ⟨gg, 0, none⟩) (k + 1) cap) (k + 1) (lies ((three a0 a1 a2).take (k + 1))) ∧ Below w.heap.size w w1 :=
          ⟨by rw [← lies_snoc a0 a1 a2 k (by omega) (by omega) (by omega)]; exact hown1, Below.grown ((hbel.alloc hsz _).drew) hgrow (by simp; omega) (own_ge hown)⟩
        clear hown1 hgrow hown hbel hat
        go_wp2
        go_roundw
        case rel => exact ⟨k + 1, by omega, by go_num, R.1, R.2⟩
        case measure => simp [intOf]; omega
    · have ek : k = n := by omega
      subst ek
      have hconv := fun nq => conv_own (w := wr.drewN nq) (by exact hown)
      have hd := linear a0 a1 a2 k hn0 hn1 hn2
      have hs0 := front_size a0 k w0
      have hs1 := front_size a1 k w1
      have hs2 := front_size a2 k w2
      have hs3 := three_size a0 a1 a2 k (by omega)
      go_wp2_with fail
      go_quiet ((go_at_call 7; refine Calls.quiet_of_same (sum_any _ ?_ _); first | assumption | decide))
      go_wp2
      go_ret
      exact ⟨by rw [known_a]; rfl, below_drewN hbel nq⟩

/-! ### The row's step -/
set_option maxRecDepth 100000 in
theorem lifted (os : Os) (started : os.Started) (H : Type) (enc : TypeId × Value → H) :
    ReturnsInHanded {} Try.checked os 5 .any (Rows.sumLinearSpec.pre6 enc Try.prog Try.f5 Rows.sumLinearRow.domain false) (Rows.sumLinearSpec.post enc Try.prog Try.f5 false true false false) := by
  refine returnsInHanded_of_change_sized (C := Try.checked) own started (by kernel_rfl) Try.func5
    (ChangeSpec.witness6 (enc := enc) (C := Try.checked) false ⟨#[], #[.string ByteArray.empty, .string ByteArray.empty, .string ByteArray.empty], []⟩ 8 (by kernel_rfl) (by kernel_rfl) (by kernel_rfl) (by kernel_rfl)) ?_
  intro W base args ds gs before hval0 hW hcnd hsz0 _
  have hval : ∀ (j : Nat) t v, Try.f5.params[j]? = some t → args[j]? = some v → Value.okWide Try.prog W .any base t v := hval0
  have hsz : (DataW.weightsEach Try.prog (Try.f5.params.toList ++ Rows.sumLinearSpec.plain.varTypes Try.prog) (ds ++ gs)).all (· ≤ reachBytes) = true := hsz0
  have hW' := hW
  obtain ⟨p, q, hA0, hV, rfl, hfz, hnd⟩ := hW
  have hA : DataW.TrodAll enc Try.prog W 0 (fun _ => true) true Try.f5.params.toList args.toList ds p := hA0
  rw [Try.params5] at hA hval hsz
  obtain ⟨v0, vs0, d0, ds0, p0, q0, hargs, rfl, rfl, h0, r0⟩ := trodAll_cons hA
  obtain ⟨v1, vs1, d1, ds1, p1, q1, rfl, rfl, rfl, h1, r1⟩ := trodAll_cons r0
  obtain ⟨v2, vs2, d2, ds2, p2, q2, rfl, rfl, rfl, h2, r2⟩ := trodAll_cons r1
  obtain ⟨rfl, rfl, rfl⟩ := trodAll_nil r2
  obtain rfl : args = #[v0, v1, v2] := by cases args; simp_all
  obtain ⟨rfl, rfl⟩ := trodVars_none hV
  obtain ⟨a0, rfl, rfl, rfl, w0⟩ := open_string Try.underlying9 (hval 0 9 v0 rfl rfl) h0
  obtain ⟨a1, rfl, rfl, rfl, w1⟩ := open_string Try.underlying9 (hval 1 9 v1 rfl rfl) h1
  obtain ⟨a2, rfl, rfl, rfl, w2⟩ := open_string Try.underlying9 (hval 2 9 v2 rfl rfl) h2
  clear hA0 hval0
  simp only [List.append_nil] at hW'
  have r0 : a0.size ≤ 140737488351232 := by have := sized_string hsz (j := 0) (t := 9) rfl rfl; simpa [reachBytes] using this
  have r1 : a1.size ≤ 140737488351232 := by have := sized_string hsz (j := 1) (t := 9) rfl rfl; simpa [reachBytes] using this
  have r2 : a2.size ≤ 140737488351232 := by have := sized_string hsz (j := 2) (t := 9) rfl rfl; simpa [reachBytes] using this
  refine (walk a0 a1 a2 r0 r1 r2 W).mono fun e W' ⟨he, hg⟩ => ?_
  subst he
  exact ⟨_, rfl, _, _, _, [], _, [], hW', trodAll_mk1 (shut_bool Try.underlying4 _), (trodAll_cons_mk (shut_string Try.underlying9 w0) (trodAll_cons_mk (shut_string Try.underlying9 w1) (trodAll_cons_mk (shut_string Try.underlying9 w2) trodAll_mk0))), rfl, hg.frame _, fun h => by cases h⟩

theorem over : Rows.sumLinearRow.holds Try.pinned (OpenSpec.ofChange Rows.sumLinearSpec) :=
  OpenClaim.holds_of_wide 5 Try.f5 rfl rfl rfl rfl rfl rfl rfl ⟨rfl, rfl, rfl, rfl, rfl⟩ rfl rfl rfl rfl rfl (by kernel_rfl) Try.func5 (by kernel_rfl)
    (of_decide_eq_true (by kernel_rfl)) (by unfold Func.isWrapper; first | (rw [if_pos (by decide +kernel)]; kernel_rfl) | (rw [if_neg (by decide +kernel)]; exact ⟨rfl, rfl⟩))
    (fun os started H enc _ => lifted os started H enc)

end Go.Proofs.Ytbdhenmkgjfonaa.sumLinear
namespace Go.Proofs.Ytbdhenmkgjfonaa
/-- The given statement. -/
theorem sumLinear_holds : Rows.SumLinearSaid := sumLinear.over
#print axioms sumLinear_holds
end Go.Proofs.Ytbdhenmkgjfonaa
