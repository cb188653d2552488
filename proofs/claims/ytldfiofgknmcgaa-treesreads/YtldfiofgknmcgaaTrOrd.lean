/-
  The contract of pushref.inOrder: are all tokens numbered from 0 on?
-/
import Derived.Test.YtldfiofgknmcgaaTrBack
import Derived.Test.YtldfiofgknmcgaaTrEq
namespace Go.Proofs.Ytldfiofgknmcgaa
open Go.RowKit
open Cg

theorem Cg.toks_take (l : List Ev) (i : Nat) (hi : i < l.length) : toks (l.take (i + 1)) = toks (l.take i) ++ (if l[i].1 = 2 then [l[i].2] else []) := by
  rw [List.take_succ_eq_append_getElem hi, toks_append]
  congr 1
  unfold toks
  by_cases h : l[i].1 = 2
  · simp [h]
  · simp [h]
theorem Cg.ord_take {l : List Ev} (h : ord l) (i : Nat) : toks (l.take i) = nums 0 (toks (l.take i)).length := by
  have e : toks l = toks (l.take i) ++ toks (l.drop i) := by rw [← toks_append, List.take_append_drop]
  unfold ord at h
  rw [e] at h
  exact (nums_split h).1
set_option maxHeartbeats 4000000 in
set_option maxRecDepth 20000 in
theorem inOrder_any (lv : Value) (l : List Ev) (w : World) (h : Evs w lv l) (hl : l.length ≤ 100000) :
    Calls Try.prog 41 #[lv] w fun e w' => ∃ b, e = .returned (.bool b) ∧ (b = true ↔ ord l) ∧ Below w.heap.size w w' := by
  obtain ⟨la, lc, rfl, hlm, hlc⟩ := h
  have HLC : Hid (l = [] ∨ ∃ b o, la = some ⟨b, o, none⟩ ∧ b < w.heap.size ∧ ∀ i (hi : i < l.length), w.cell? ⟨b, o + i * 2, none⟩ = some (.int .i64 l[i].1) ∧ w.cell? ⟨b, o + i * 2 + 1, none⟩ = some (.int .i64 l[i].2)) := hlc
  obtain ⟨n, HN⟩ : ∃ n, Hid (l.length = n) := ⟨_, (rfl : l.length = _)⟩
  rw [HN.out] at hl hlm ⊢
  clear hlc
  obtain ⟨r, HR⟩ : ∃ r : Bool, Hid (r = true ↔ ord l) := by
    by_cases h : ord l
    · exact ⟨true, (⟨fun _ => h, fun _ => rfl⟩ : true = true ↔ ord l)⟩
    · exact ⟨false, (⟨fun e => (by cases e), fun e => absurd e h⟩ : false = true ↔ ord l)⟩
  suffices hs : Calls Try.prog 41 #[.slice la n lc] w fun e w' => e = .returned (.bool r) ∧ Below w.heap.size w w' from hs.mono fun e w' hq => ⟨r, hq.1, HR.out, hq.2⟩
  go_enter Try.func41, Try.ntmps41
  go_wp2_with fail
  go_loopw [3, 4] (fun x y wr => ∃ (c i : Nat), i ≤ n ∧ x = .int .i64 (c : Int) ∧ y = .int .i64 (i : Int) ∧ c ≤ i ∧ Hid (toks (l.take i) = nums 0 c ∧ Below w.heap.size w wr)) (fun _ y _ => n - (intOf y).toNat)
  case atStart => exact ⟨0, 0, by omega, rfl, rfl, by omega, rfl, Below.refl _ _⟩
  case round =>
    obtain ⟨c, i, hi, rfl, rfl, hci, HI⟩ := hrel
    by_cases hlt : i < n
    · have hil : i < l.length := by rw [HN.out]; exact hlt
      obtain ⟨b1, o1, rfl, q1, q2⟩ := HLC.out.resolve_left (by intro e; subst e; simp at hil)
      have hk1 : (i : Int) < (n : Int) := by omega
      have hk0 : (0 : Int) ≤ (i : Int) := by omega
      have HT : Hid (toks (l.take (i + 1)) = toks (l.take i) ++ (if l[i].1 = 2 then [l[i].2] else [])) := toks_take l i hil
      have c1 : wr.cell? ⟨b1, o1 + i * 2, none⟩ = some (.int .i64 l[i].1) := (HI.out.2.cell (p := ⟨b1, o1 + i * 2, none⟩) q1).trans (q2 i hil).1
      have c2 : wr.cell? ⟨b1, o1 + i * 2 + 1, none⟩ = some (.int .i64 l[i].2) := (HI.out.2.cell (p := ⟨b1, o1 + i * 2 + 1, none⟩) q1).trans (q2 i hil).2
      generalize l[i] = ev at c1 c2 HT
      obtain ⟨x0, x1⟩ := ev
      simp only at c1 c2
      clear q2
      by_cases h2 : x0 = 2
      · subst h2
        by_cases h3 : x1 = (c : Int)
        · subst h3
          have hb3 : ((c : Int) != (c : Int)) = false := by simp
          have HR2 : Hid (toks (l.take (i + 1)) = nums 0 (c + 1) ∧ Below w.heap.size w wr) := ⟨by rw [HT.out, HI.out.1, nums_append]; simp [nums], HI.out.2⟩
          go_wp2_with fail
          go_roundw
          case rel => exact ⟨c + 1, i + 1, by omega, by go_num, by go_num, by omega, HR2⟩
          case measure => simp [intOf]; omega
        · have hb3 : (x1 != (c : Int)) = true := by simp; exact h3
          obtain rfl : r = false := by
            cases hr : r with
            | false => rfl
            | true =>
              have h5 := ord_take (HR.out.1 hr) (i + 1)
              rw [HT.out, HI.out.1] at h5
              simp only [if_true] at h5
              have h6 := (nums_split h5).2
              rw [nums_length] at h6
              simp [nums] at h6
              exact absurd h6 h3
          have HB := HI.out.2
          clear h3
          go_wp2_with fail
          go_ret
          exact ⟨by simp, HB⟩
      · have hb2 : (x0 == 2) = false := by simp; exact h2
        have HR2 : Hid (toks (l.take (i + 1)) = nums 0 c ∧ Below w.heap.size w wr) := ⟨by rw [HT.out, if_neg h2, List.append_nil]; exact HI.out.1, HI.out.2⟩
        clear h2
        go_wp2_with fail
        go_roundw
        case rel => exact ⟨c, i + 1, by omega, rfl, by go_num, by omega, HR2⟩
        case measure => simp [intOf]; omega
    · have hk1 : ¬ (i : Int) < (n : Int) := by omega
      obtain rfl : r = true := HR.out.2 (by
        have h5 := HI.out.1
        rw [List.take_of_length_le (by rw [HN.out]; omega)] at h5
        unfold ord
        rw [h5, nums_length])
      have HB := HI.out.2
      go_wp2_with fail
      go_ret
      exact ⟨by simp, HB⟩
end Go.Proofs.Ytldfiofgknmcgaa
