/-
  The contracts of pack.List and pushref.List: each answers what YtompnobaledpaaaMath says of the texts that the slice holds; what was there stays.
-/
import Derived.Test.YtompnobaledpaaaBuildWalks
namespace Go.Proofs.Ytompnobaledpaaa
open Go.RowKit
open Pack

/-- The bytes of texts. -/
def bytes (ls : List ByteArray) : List (List UInt8) := ls.map (fun s => s.data.toList)
/-- The text of a list, the empty one where it is none. -/
def listT (l : List (List UInt8)) : List UInt8 := if listE l = 0 then list l else []
/-- The first k texts of a list, laid behind its number. -/
def upto (ls : List ByteArray) (k : Nat) : List UInt8 := num ls.length ++ (((bytes ls).take k).map text).flatten
theorem bytes_length (ls : List ByteArray) : (bytes ls).length = ls.length := by simp [bytes]
theorem bytes_at (ls : List ByteArray) (k : Nat) (h : k < ls.length) : (bytes ls)[k]'(by rw [bytes_length]; exact h) = (ls.getD k ByteArray.empty).data.toList := by
  simp [bytes, List.getD, List.getElem?_eq_getElem h]
theorem upto_zero (ls : List ByteArray) : upto ls 0 = num ls.length := by simp [upto]
theorem upto_succ (ls : List ByteArray) (k : Nat) (h : k < ls.length) : upto ls (k + 1) = upto ls k ++ text (ls.getD k ByteArray.empty).data.toList := by
  unfold upto
  rw [List.take_succ_eq_append_getElem (by rw [bytes_length]; exact h), bytes_at ls k h]
  simp
theorem upto_all (ls : List ByteArray) : upto ls ls.length = list (bytes ls) := by
  unfold upto list
  rw [List.take_of_length_le (by rw [bytes_length]; exact Nat.le_refl _), bytes_length]
theorem text_len (s : ByteArray) (h : s.size ≤ 4096) : (text s.data.toList).length ≤ 4106 := by
  have := (num_len s.size (by omega)).1
  unfold text; simp; omega
theorem upto_len (ls : List ByteArray) (h : ls.length ≤ 100) : ∀ k, k ≤ ls.length → (∀ i, i < k → (ls.getD i ByteArray.empty).size ≤ 4096) → (upto ls k).length ≤ 10 + 4106 * k := by
  intro k
  induction k with
  | zero => intro _ _; rw [upto_zero]; have := (num_len ls.length (by omega)).1; omega
  | succ k ih =>
    intro hk hs
    rw [upto_succ ls k (by omega), List.length_append]
    have h1 := ih (by omega) (fun i hi => hs i (by omega))
    have h2 := text_len _ (hs k (by omega))
    omega
theorem listE_long (ls : List ByteArray) (h : 100 < ls.length) : listE (bytes ls) = 2 := by
  unfold listE; rw [if_pos (Or.inl (by rw [bytes_length]; exact h))]
theorem listE_large (ls : List ByteArray) (k : Nat) (hk : k < ls.length) (h : 4096 < (ls.getD k ByteArray.empty).size) : listE (bytes ls) = 2 := by
  unfold listE; rw [if_pos (Or.inr ?_)]
  rw [List.any_eq_true]
  refine ⟨(bytes ls)[k]'(by rw [bytes_length]; exact hk), List.getElem_mem _, ?_⟩
  rw [bytes_at ls k hk]
  simpa using h
theorem listE_all (ls : List ByteArray) (h : ls.length ≤ 100) (hs : ∀ i, i < ls.length → (ls.getD i ByteArray.empty).size ≤ 4096) : listE (bytes ls) = 0 := by
  refine listE_of _ (by rw [bytes_length]; exact h) fun s hm => ?_
  obtain ⟨i, hi, rfl⟩ := List.getElem_of_mem hm
  rw [bytes_length] at hi
  rw [bytes_at ls i hi]
  simpa using hs i hi
theorem listT_bad (ls : List ByteArray) (h : listE (bytes ls) = 2) : listT (bytes ls) = [] := by unfold listT; rw [if_neg (by omega)]
theorem listT_ok (ls : List ByteArray) (h : listE (bytes ls) = 0) : listT (bytes ls) = upto ls ls.length := by unfold listT; rw [if_pos h, upto_all]

set_option maxHeartbeats 1600000 in
set_option maxRecDepth 20000 in
theorem list_any (v : Value) (ls : List ByteArray) (w : World) (h : Strs w v ls) :
    Calls Try.prog 16 #[v] w fun e w' => e = .returned (.tuple #[.string ⟨(listT (bytes ls)).toArray⟩, .int .i64 ((listE (bytes ls) : Nat) : Int)]) ∧ Below w.heap.size w w' := by
  have hS := h
  obtain ⟨ao, cap, rfl, hm, _⟩ := h
  by_cases hl : 100 < ls.length
  · have hq : (100 : Int) < (ls.length : Int) := by omega
    rw [listE_long ls hl, listT_bad ls (listE_long ls hl)]
    go_enter Try.func16, Try.ntmps16
    go_wp2_with fail
    go_ret2
    exact ⟨rfl, Below.refl _ _⟩
  · have hq : (ls.length : Int) ≤ 100 := by omega
    have HS : Hid (Strs w (.slice ao ls.length cap) ls) := hS
    clear hS
    go_enter Try.func16, Try.ntmps16
    go_wp2_with fail
    refine (num_any ls.length (by omega) _).mono ?_
    rintro e w1 ⟨rfl, hb1⟩
    have hf : Lib.IsBuilder 51 5 w.heap.size w.heap.size (Lib.byteCells []) w1 := builder_below (Lib.fresh_isBuilder 51 5 w) hb1
    have hbel1 : Below w.heap.size w w1 := ((Below.refl _ w).alloc (Nat.le_refl _) _).trans (hb1.mono (by simp))
    clear hb1
    go_wp2_with fail
    refine (write_any w.heap.size w.heap.size [] _ w1 hf (by have := (num_len ls.length (by omega)).1; show ([] : List UInt8).length + (num ls.length).toArray.size ≤ _; simp; omega) hbel1.size).mono ?_
    rintro e w2 ⟨rfl, hB2, hb2⟩
    have hB3 : Lib.IsBuilder 51 5 w.heap.size w.heap.size (Lib.byteCells (upto ls 0)) w2 := by rw [upto_zero]; exact hB2
    have hbel2 := hbel1.trans hb2
    clear hf hbel1 hB2 hb2
    go_wp2_with fail
    go_loopw [19] (fun i wr => ∃ k : Nat, k ≤ ls.length ∧ i = .int .i64 (k : Int) ∧ Hid (∀ i, i < k → (ls.getD i ByteArray.empty).size ≤ 4096) ∧ Hid (Lib.IsBuilder 51 5 w.heap.size w.heap.size (Lib.byteCells (upto ls k)) wr) ∧ Below w.heap.size w wr) (fun i _ => ls.length - (intOf i).toNat)
    case atStart => exact ⟨0, Nat.zero_le _, rfl, fun i hi => absurd hi (Nat.not_lt_zero _), hB3, hbel2⟩
    case round =>
      clear hB3 hbel2
      obtain ⟨k, hk, rfl, HL, HB, hbel⟩ := hrel
      have hul := upto_len ls (by omega) k hk HL.out
      by_cases hlt : k < ls.length
      · obtain ⟨b, o, hao, hbo, hcell⟩ : ∃ b o, ao = some ⟨b, o, none⟩ ∧ b < w.heap.size ∧ ∀ i, i < ls.length → w.cell? ⟨b, o + i, none⟩ = some (.string (ls.getD i ByteArray.empty)) := by
          obtain ⟨ao', cap', hv, _, h | ⟨b, o, h1, h2, h3⟩⟩ := HS.out
          · rw [h] at hlt; simp at hlt
          · injection hv with hv1 _ _
            exact ⟨b, o, by rw [hv1, h1], h2, h3⟩
        subst hao
        obtain ⟨s, hs⟩ : ∃ s, s = ls.getD k ByteArray.empty := ⟨_, rfl⟩
        have hc : wr.cell? ⟨b, o + k, none⟩ = some (.string s) := by rw [hs, hbel.cell (p := ⟨b, o + k, none⟩) hbo]; exact hcell k hlt
        have HE : Hid (s = ls.getD k ByteArray.empty) := hs
        clear hs hcell
        by_cases h4 : 4096 < s.size
        · have hE : Hid (listE (bytes ls) = 2) := listE_large ls k hlt (by rw [← HE.out]; exact h4)
          go_wp2_with fail
          refine (text_large s h4 _).mono ?_
          rintro e w4 ⟨rfl, hw4⟩
          subst hw4
          go_wp2_with fail
          go_ret2
          exact ⟨by rw [hE.out, listT_bad ls hE.out]; rfl, hbel⟩
        · have htl := text_len s (by omega)
          go_wp2_with fail
          refine (text_ok s (by omega) _).mono ?_
          rintro e w4 ⟨rfl, hb4⟩
          have hB4 := builder_below HB.out hb4
          have hbel4 := hbel.trans (hb4.mono hbel.size)
          go_wp2_with fail
          refine (write_any w.heap.size w.heap.size (upto ls k) _ w4 hB4 (by show (upto ls k).length + (text s.data.toList).toArray.size ≤ _; simp; omega) hbel4.size).mono ?_
          rintro e w5 ⟨rfl, hB5, hb5⟩
          have R : Hid (∀ i, i < k + 1 → (ls.getD i ByteArray.empty).size ≤ 4096) ∧ Hid (Lib.IsBuilder 51 5 w.heap.size w.heap.size (Lib.byteCells (upto ls (k + 1))) w5) ∧ Below w.heap.size w w5 := by
            refine ⟨fun i hi => ?_, ?_, hbel4.trans hb5⟩
            · rcases Nat.lt_succ_iff_lt_or_eq.1 hi with h | h
              · exact HL.out i h
              · subst h; rw [← HE.out]; omega
            · show Lib.IsBuilder 51 5 w.heap.size w.heap.size (Lib.byteCells (upto ls (k + 1))) w5
              rw [upto_succ ls k hlt, ← HE.out]; exact hB5
          clear hB5 hb5 hB4 hb4 hbel4 hbel HB
          go_wp2_with fail
          go_roundw
          case rel => exact ⟨k + 1, by omega, by go_num, R.1, R.2.1, R.2.2⟩
          case measure => simp [intOf]; omega
      · have ek : k = ls.length := by omega
        have hE : Hid (listE (bytes ls) = 0) := listE_all ls (by omega) (fun i hi => HL.out i (by omega))
        go_wp2_with fail
        refine (Try.Builder_String_any w.heap.size w.heap.size (upto ls k) wr HB.out hbel.size).mono ?_
        rintro e w4 ⟨rfl, hb4⟩
        go_wp2_with fail
        go_ret2
        exact ⟨by rw [hE.out, listT_ok ls hE.out]; rfl, hbel.trans hb4⟩

theorem Strs.at {w : World} {ao : Option Addr} {cap : Nat} {ls : List ByteArray} (h : Strs w (.slice ao ls.length cap) ls) {k : Nat} (hk : k < ls.length) :
    ∃ b o, ao = some ⟨b, o, none⟩ ∧ b < w.heap.size ∧ ∀ i, i < ls.length → w.cell? ⟨b, o + i, none⟩ = some (.string (ls.getD i ByteArray.empty)) := by
  obtain ⟨ao', cap', hv, _, h | ⟨b, o, h1, h2, h3⟩⟩ := h
  · rw [h] at hk; simp at hk
  · injection hv with hv1 _ _
    exact ⟨b, o, by rw [hv1, h1], h2, h3⟩
theorem wrap_size (n : Nat) (h : n ≤ 4096) : IntKind.u64.wrap (n : Int) = (n : Int) := by
  simp only [IntKind.wrap, IntKind.bits, IntKind.signed]
  simp
  omega
theorem cat_upto (ls : List ByteArray) (k : Nat) (h : k < ls.length) (s : ByteArray) (hs : s = ls.getD k ByteArray.empty) :
    ByteArray.mk (upto ls k).toArray ++ (ByteArray.mk (num s.size).toArray ++ s) = ByteArray.mk (upto ls (k + 1)).toArray := by
  rw [cat_text, upto_succ ls k h, ← hs]
  apply ByteArray.ext
  simp

set_option maxHeartbeats 4000000 in
set_option maxRecDepth 20000 in
theorem reflist_any (v : Value) (ls : List ByteArray) (w : World) (h : Strs w v ls) :
    Calls Try.prog 17 #[v] w fun e w' => e = .returned (.tuple #[.string ⟨(listT (bytes ls)).toArray⟩, .int .i64 ((listE (bytes ls) : Nat) : Int)]) ∧ Below w.heap.size w w' := by
  have hS := h
  obtain ⟨ao, cap, rfl, hm, _⟩ := h
  by_cases hl : 100 < ls.length
  · have hq : (100 : Int) < (ls.length : Int) := by omega
    rw [listE_long ls hl, listT_bad ls (listE_long ls hl)]
    go_enter Try.func17, Try.ntmps17
    go_wp2_with fail
    go_ret2
    exact ⟨rfl, Below.refl _ _⟩
  · have hq : (ls.length : Int) ≤ 100 := by omega
    have HS : Hid (Strs w (.slice ao ls.length cap) ls) := hS
    clear hS
    go_enter Try.func17, Try.ntmps17
    go_wp2_with fail
    go_loop [4] (fun i => ∃ k : Nat, k ≤ ls.length ∧ i = .int .i64 (k : Int) ∧ Hid (∀ i, i < k → (ls.getD i ByteArray.empty).size ≤ 4096)) (fun i => ls.length - (intOf i).toNat)
    case atStart => exact ⟨0, Nat.zero_le _, rfl, fun i hi => absurd hi (Nat.not_lt_zero _)⟩
    case round =>
      obtain ⟨k, hk, rfl, HL⟩ := hrel
      by_cases hlt : k < ls.length
      · obtain ⟨b, o, hao, hbo, hcell⟩ := HS.out.at hlt
        subst hao
        obtain ⟨s, hs⟩ : ∃ s, s = ls.getD k ByteArray.empty := ⟨_, rfl⟩
        have hc : w.cell? ⟨b, o + k, none⟩ = some (.string s) := by rw [hs]; exact hcell k hlt
        have HE : Hid (s = ls.getD k ByteArray.empty) := hs
        clear hs hcell
        by_cases h4 : 4096 < s.size
        · have hE : Hid (listE (bytes ls) = 2) := listE_large ls k hlt (by rw [← HE.out]; exact h4)
          go_wp2_with fail
          go_ret2
          exact ⟨by rw [hE.out, listT_bad ls hE.out]; rfl, Below.refl _ _⟩
        · have R : Hid (∀ i, i < k + 1 → (ls.getD i ByteArray.empty).size ≤ 4096) := by
            intro i hi
            rcases Nat.lt_succ_iff_lt_or_eq.1 hi with h | h
            · exact HL.out i h
            · subst h; rw [← HE.out]; omega
          go_wp2_with fail
          go_round
          case rel => exact ⟨k + 1, by omega, by go_num, R⟩
          case measure => simp [intOf]; omega
      · have HL2 : Hid (∀ i, i < ls.length → (ls.getD i ByteArray.empty).size ≤ 4096) := fun i hi => HL.out i (by omega)
        go_wp2_with fail
        refine (refnum_any ls.length (by omega) _).mono ?_
        rintro e w1 ⟨rfl, hb1⟩
        go_wp2_with fail
        go_loopw [6, 5] (fun i t wr => ∃ k : Nat, k ≤ ls.length ∧ i = .int .i64 (k : Int) ∧ t = .string ⟨(upto ls k).toArray⟩ ∧ Below w.heap.size w wr) (fun i _ _ => ls.length - (intOf i).toNat)
        case atStart => exact ⟨0, Nat.zero_le _, rfl, by rw [upto_zero], hb1⟩
        case round =>
          clear hb1
          obtain ⟨j, hj, rfl, rfl, hbel⟩ := hrel
          by_cases hjt : j < ls.length
          · have hul := upto_len ls (by omega) j hj (fun i hi => HL2.out i (by omega))
            obtain ⟨b, o, hao, hbo, hcell⟩ := HS.out.at hjt
            subst hao
            obtain ⟨s, hs⟩ : ∃ s, s = ls.getD j ByteArray.empty := ⟨_, rfl⟩
            have hc : wr.cell? ⟨b, o + j, none⟩ = some (.string s) := by rw [hs, hbel.cell (p := ⟨b, o + j, none⟩) hbo]; exact hcell j hjt
            have HE : Hid (s = ls.getD j ByteArray.empty) := hs
            have hs4 : s.size ≤ 4096 := by rw [hs]; exact HL2.out j hjt
            clear hs hcell
            have hnl := (num_len s.size (by omega)).1
            have hwz := wrap_size s.size hs4
            have hs9 : s.size < 18446744073709551616 := by omega
            have hz1 : (ByteArray.mk (num s.size).toArray).size + s.size ≤ 9223372036854775807 := by show (num s.size).toArray.size + s.size ≤ _; simp; omega
            have hz2 : (ByteArray.mk (upto ls j).toArray).size + (ByteArray.mk (num s.size).toArray ++ s).size ≤ 9223372036854775807 := by rw [ByteArray.size_append]; show (upto ls j).toArray.size + ((num s.size).toArray.size + s.size) ≤ _; simp; omega
            go_wp2_with fail
            go_region_with ((go_at_call 12; refine (refnum_any s.size hs9 _).mono ?_; rintro e w' ⟨rfl, hb⟩; have hc2 : w'.cell? ⟨b, o + j, none⟩ = some (.string s) := (hb.cell (p := ⟨b, o + j, none⟩) (by have := hbel.size; simp; omega)).trans hc))
            all_goals
              have R : Below w.heap.size w w' := hbel.drew.trans (hb.mono hbel.size)
              clear hb hbel hc hc2
              go_wp2_with fail
              go_roundw
              case rel => exact ⟨j + 1, by omega, by go_num, by rw [cat_upto ls j hjt s HE.out], R⟩
              case measure => simp [intOf]; omega
          · have ej : j = ls.length := by omega
            have hE : Hid (listE (bytes ls) = 0) := listE_all ls (by omega) HL2.out
            subst ej
            go_wp2_with fail
            go_ret2
            exact ⟨by rw [hE.out, listT_ok ls hE.out]; rfl, hbel⟩
end Go.Proofs.Ytompnobaledpaaa
