/-
  The contracts of cfg.readSym and cfg.readCounts.
-/
import Derived.Test.YtgoafahglajfmaaDoorRdNum
namespace Go.Proofs.YtgoafahglajfmaaDoor
open Go.RowKit
open Cg

theorem pre_nil (c : UInt8) : Go.Lib.hasPrefix [] [c] = false := rfl
theorem pre_cons (k c : UInt8) (d : List UInt8) : Go.Lib.hasPrefix (k :: d) [c] = decide (k = c) := by
  unfold Go.Lib.hasPrefix
  by_cases h : k = c
  · subst h; simp [List.isPrefixOf]
  · simp [List.isPrefixOf, h, Ne.symm h]
theorem cutP_yes (s : ByteArray) (c : UInt8) (d : List UInt8) (h : s.data.toList = c :: d) (w : World) :
    Calls Tryd.prog 59 #[.string s, .string ⟨#[c]⟩] w fun e w' => e = .returned (.tuple #[.string ⟨d.toArray⟩, .bool true]) ∧ w' = w := by
  have hc := Tryd.strings_CutPrefix s ⟨#[c]⟩ w
  have e1 : Go.Lib.hasPrefix s.data.toList [c] = true := by rw [h, pre_cons]; simp
  have e2 : Go.Lib.trimPrefix s.data.toList [c] = d := by unfold Go.Lib.trimPrefix; rw [e1, h]; rfl
  simp only [] at hc
  rw [show Go.Lib.trimPrefix s.data.toList [c] = d from e2, show Go.Lib.hasPrefix s.data.toList [c] = true from e1] at hc
  exact hc
theorem cutP_no (s : ByteArray) (c : UInt8) (h : Go.Lib.hasPrefix s.data.toList [c] = false) (w : World) :
    Calls Tryd.prog 59 #[.string s, .string ⟨#[c]⟩] w fun e w' => e = .returned (.tuple #[.string ⟨s.data.toList.toArray⟩, .bool false]) ∧ w' = w := by
  have hc := Tryd.strings_CutPrefix s ⟨#[c]⟩ w
  have e2 : Go.Lib.trimPrefix s.data.toList [c] = s.data.toList := by unfold Go.Lib.trimPrefix; rw [h]; rfl
  simp only [] at hc
  rw [show Go.Lib.trimPrefix s.data.toList [c] = s.data.toList from e2, show Go.Lib.hasPrefix s.data.toList [c] = false from h] at hc
  exact hc
theorem num_list (d : List UInt8) (w : World) (x : Int) (ok : Bool) (h : numR d = (x, ok)) :
    Calls Tryd.prog 39 #[.string ⟨d.toArray⟩] w fun e w' => e = .returned (.tuple #[.int .i64 x, .bool ok]) ∧ w' = w := by
  have hc := readNumber_any ⟨d.toArray⟩ w
  simp only [] at hc
  rw [show numR d = (x, ok) from h] at hc
  exact hc

set_option maxHeartbeats 3200000 in
set_option maxRecDepth 20000 in
theorem readSym_any (s : ByteArray) (w : World) :
    Calls Tryd.prog 50 #[.string s] w fun e w' => e = .returned (.tuple #[.agg #[.int .i64 (symR s.data.toList).1.1, .int .i64 (symR s.data.toList).1.2], .bool (symR s.data.toList).2]) ∧ Below w.heap.size w w' := by
  obtain ⟨l, HL⟩ : ∃ l, Hid (s.data.toList = l) := ⟨_, (rfl : s.data.toList = s.data.toList)⟩
  rw [HL.out]
  obtain ⟨r, HR⟩ : ∃ r, Hid (symR l = r) := ⟨_, (rfl : symR l = symR l)⟩
  rw [HR.out]
  obtain ⟨⟨r0, r1⟩, rk⟩ := r
  by_cases h1 : Go.Lib.hasPrefix l [116] = true
  · obtain ⟨d, rfl⟩ : ∃ d, l = 116 :: d := by
      cases l with
      | nil => rw [pre_nil] at h1; cases h1
      | cons k d => rw [pre_cons] at h1; simp at h1; exact ⟨d, by rw [h1]⟩
    obtain ⟨x, ok, HX⟩ : ∃ x ok, Hid (numR d = (x, ok)) := ⟨(numR d).1, (numR d).2, (rfl : numR d = numR d)⟩
    have HE : Hid (((r0, r1), rk) = ((1, x), ok)) := by show _ = _; rw [← HR.out]; unfold symR; simp [HX.out]
    have he := HE.out
    simp only [Prod.mk.injEq] at he
    obtain ⟨⟨rfl, rfl⟩, rfl⟩ := he
    clear h1
    go_enter Tryd.func50, Tryd.ntmps50
    go_wp2_with fail
    refine (cutP_yes s 116 d HL.out _).mono ?_
    rintro _ w1 ⟨rfl, rfl⟩
    go_wp2_with fail
    refine (num_list d _ r1 rk HX.out).mono ?_
    rintro _ w1 ⟨rfl, rfl⟩
    go_wp2_with fail
    exact bodyPost_ret (v := .tuple #[.agg #[.int .i64 1, .int .i64 r1], .bool rk]) (by simp [results, Tryd.results50, go_sem]) rfl ⟨rfl, below_alloc _ _⟩
  · have hn1 : Go.Lib.hasPrefix l [116] = false := by simpa using h1
    have HN1 : Hid (Go.Lib.hasPrefix s.data.toList [116] = false) := by show _ = _; rw [HL.out]; exact hn1
    by_cases h2 : Go.Lib.hasPrefix l [110] = true
    · obtain ⟨d, rfl⟩ : ∃ d, l = 110 :: d := by
        cases l with
        | nil => rw [pre_nil] at h2; cases h2
        | cons k d => rw [pre_cons] at h2; simp at h2; exact ⟨d, by rw [h2]⟩
      obtain ⟨x, ok, HX⟩ : ∃ x ok, Hid (numR d = (x, ok)) := ⟨(numR d).1, (numR d).2, (rfl : numR d = numR d)⟩
      have HE : Hid (((r0, r1), rk) = ((2, x), ok)) := by show _ = _; rw [← HR.out]; unfold symR; simp [HX.out]
      have he := HE.out
      simp only [Prod.mk.injEq] at he
      obtain ⟨⟨rfl, rfl⟩, rfl⟩ := he
      clear h1 h2 hn1
      go_enter Tryd.func50, Tryd.ntmps50
      go_wp2_with fail
      refine (cutP_no s 116 HN1.out _).mono ?_
      rintro _ w1 ⟨rfl, rfl⟩
      go_wp2_with fail
      refine (cutP_yes s 110 d HL.out _).mono ?_
      rintro _ w1 ⟨rfl, rfl⟩
      go_wp2_with fail
      refine (num_list d _ r1 rk HX.out).mono ?_
      rintro _ w1 ⟨rfl, rfl⟩
      go_wp2_with fail
      exact bodyPost_ret (v := .tuple #[.agg #[.int .i64 2, .int .i64 r1], .bool rk]) (by simp [results, Tryd.results50, go_sem]) rfl ⟨rfl, below_alloc _ _⟩
    · have hn2 : Go.Lib.hasPrefix l [110] = false := by simpa using h2
      have HN2 : Hid (Go.Lib.hasPrefix s.data.toList [110] = false) := by show _ = _; rw [HL.out]; exact hn2
      have HE : Hid (((r0, r1), rk) = ((0, 0), false)) := by
        show _ = _
        rw [← HR.out]
        cases l with
        | nil => rfl
        | cons k d =>
          rw [pre_cons] at hn1 hn2
          simp at hn1 hn2
          unfold symR; simp only []; rw [if_neg hn1, if_neg hn2]
      have he := HE.out
      simp only [Prod.mk.injEq] at he
      obtain ⟨⟨rfl, rfl⟩, rfl⟩ := he
      clear h1 h2 hn1 hn2
      go_enter Tryd.func50, Tryd.ntmps50
      go_wp2_with fail
      refine (cutP_no s 116 HN1.out _).mono ?_
      rintro _ w1 ⟨rfl, rfl⟩
      go_wp2_with fail
      refine (cutP_no s 110 HN2.out _).mono ?_
      rintro _ w1 ⟨rfl, rfl⟩
      go_wp2_with fail
      exact bodyPost_ret (v := .tuple #[.agg #[.int .i64 0, .int .i64 0], .bool false]) (by simp [results, Tryd.results50, go_sem]) rfl ⟨rfl, below_alloc _ _⟩

/-- The cell of the library's own variable, whatever number it holds. -/
def Mx (w : World) : Prop := ∃ m, w.cell? ⟨0, 0, none⟩ = some (.int .i64 m)
theorem Mx.below {w w' : World} (h : Mx w) (hb : Below w.heap.size w w') : Mx w' := by
  obtain ⟨m, hm⟩ := h
  refine ⟨m, (hb.cell (p := ⟨0, 0, none⟩) ?_).trans hm⟩
  show 0 < w.heap.size
  rcases Nat.lt_or_ge 0 w.heap.size with h' | h'
  · exact h'
  · simp [World.cell?, Array.getElem?_eq_none h'] at hm
theorem cut_any (s : ByteArray) (c : UInt8) (a b : List UInt8) (f : Bool) (h : cutC c s.data.toList = (a, b, f)) (hs : s.size ≤ 4096) (w : World) (hm : Mx w) :
    Calls Tryd.prog 19 #[.string s, .string ⟨#[c]⟩] w fun e w' => e = .returned (.tuple #[.string ⟨a.toArray⟩, .string ⟨b.toArray⟩, .bool f]) ∧ Below w.heap.size w w' := by
  obtain ⟨m, hm⟩ := hm
  have hc := Tryd.strings_Cut s ⟨#[c]⟩ m w (by omega) hm
  simp only [] at hc
  rw [show Go.Lib.cut s.data.toList [c] = (a, b, f) by rw [cut_is]; exact h] at hc
  refine hc.mono ?_
  rintro _ w' ⟨rfl, q, rfl⟩
  exact ⟨rfl, below_drewN (Below.refl _ _) q⟩
set_option maxHeartbeats 3200000 in
set_option maxRecDepth 20000 in
theorem readCounts_any (s : ByteArray) (w : World) (hs : s.size ≤ 4096) (hm : Mx w) :
    Calls Tryd.prog 32 #[.string s] w fun e w' => e = .returned (.tuple #[.int .i64 (countsR s.data.toList).1.1, .int .i64 (countsR s.data.toList).1.2, .bool (countsR s.data.toList).2]) ∧ Below w.heap.size w w' := by
  obtain ⟨a, b, f, HC⟩ : ∃ a b f, Hid (cutC 32 s.data.toList = (a, b, f)) := ⟨_, _, _, (rfl : cutC 32 s.data.toList = cutC 32 s.data.toList)⟩
  obtain ⟨x, ok, HX⟩ : ∃ x ok, Hid (numR a = (x, ok)) := ⟨(numR a).1, (numR a).2, (rfl : numR a = numR a)⟩
  obtain ⟨y, ok2, HY⟩ : ∃ y ok2, Hid (numR b = (y, ok2)) := ⟨(numR b).1, (numR b).2, (rfl : numR b = numR b)⟩
  have HR : Hid (countsR s.data.toList = ((x, y), ok && ok2)) := by show _ = _; unfold countsR; rw [HC.out]; simp only []; rw [HX.out, HY.out]
  rw [HR.out]
  have hc := cut_any s 32 a b f HC.out hs w hm
  clear hs hm
  go_enter Tryd.func32, Tryd.ntmps32
  go_wp2_with fail
  refine hc.mono ?_
  rintro _ w1 ⟨rfl, hb⟩
  have HB : Hid (Below w.heap.size w w1) := hb
  clear hc hb
  go_wp2_with fail
  refine (num_list a _ x ok HX.out).mono ?_
  rintro _ w2 ⟨rfl, rfl⟩
  go_wp2_with fail
  refine (num_list b _ y ok2 HY.out).mono ?_
  rintro _ w2 ⟨rfl, rfl⟩
  cases ok with
  | true =>
    go_wp2_with fail
    go_ret3
    exact ⟨by simp, HB.out⟩
  | false =>
    go_wp2_with fail
    go_ret3
    exact ⟨by simp, HB.out⟩
end Go.Proofs.YtgoafahglajfmaaDoor
