/-
  The contract of pushkeep.pieces: whatever text of at most 2^40 bytes and whatever cuts (at most 2^21) are handed in, it answers pieces that make the text again, one more than there are cuts, in a slice of new memory; what was there stays.
-/
import Derived.Test.YtnheaafepejaoaaFeeds
import Derived.Test.YtnheaafepejaoaaRests
namespace Go.Proofs.Ytnheaafepejaoaa
open Go.RowKit
open Frm Crc

theorem info9 : (Try.prog.info? 9).map (fun i => (i.zero, i.size, i.bytes)) = some (some (.string ⟨#[]⟩), 1, 16) := by kernel_rfl
/-- Pieces, one behind the other. -/
def joined (ls : List ByteArray) : List UInt8 := ls.flatMap (fun s => s.data.toList)
theorem joined_append (a b : List ByteArray) : joined (a ++ b) = joined a ++ joined b := by simp [joined]
theorem joined_one (s : ByteArray) : joined [s] = s.data.toList := by simp [joined]
theorem strs_snoc (ls : List ByteArray) (s : ByteArray) : (ls ++ [s]).map Value.string = ls.map Value.string ++ [.string s] := by simp

/-- A value is a slice that holds these texts. -/
def Strs (w : World) (v : Value) (ls : List ByteArray) : Prop :=
  ∃ ao cap, v = .slice ao ls.length cap ∧ ls.length ≤ 9223372036854775807 ∧ (ls = [] ∨ ∃ b o, ao = some ⟨b, o, none⟩ ∧ b < w.heap.size ∧ ∀ i, i < ls.length → w.cell? ⟨b, o + i, none⟩ = some (.string (ls.getD i ByteArray.empty)))
theorem Strs.below {w w' : World} {v : Value} {ls : List ByteArray} (h : Strs w v ls) {B : Nat} (hb : Below B w w') (hB : w.heap.size ≤ B) : Strs w' v ls := by
  obtain ⟨ao, cap, hv, hm, h | ⟨b, o, h1, h2, h3⟩⟩ := h
  · exact ⟨ao, cap, hv, hm, Or.inl h⟩
  · exact ⟨ao, cap, hv, hm, Or.inr ⟨b, o, h1, Nat.lt_of_lt_of_le h2 hb.size, fun i hi => (hb.cell (p := ⟨b, o + i, none⟩) (by simp; omega)).trans (h3 i hi)⟩⟩
theorem strs_of_own {w : World} {base : Nat} {v : Value} {ls : List ByteArray} (h : w.ownsRow base 9 1 v ls.length (ls.map Value.string)) (hm : ls.length ≤ 9223372036854775807) : Strs w v ls := by
  obtain ⟨hl, ⟨h1, h2⟩ | ⟨g, cap, cur, hv, hg, hh, hn, hc, hs, ht⟩⟩ := h
  · exact ⟨none, 0, by rw [h1, h2], hm, Or.inl (List.length_eq_zero_iff.1 h2)⟩
  · refine ⟨some ⟨g, 0, none⟩, cap, hv, hm, Or.inr ⟨g, 0, rfl, ?_, fun i hi => ?_⟩⟩
    · rcases Nat.lt_or_ge g w.heap.size with h' | h'
      · exact h'
      · simp [Array.getElem?_eq_none h'] at hh
    · have e : w.cell? ⟨g, 0 + i, none⟩ = cur[i]? := by simp [World.cell?, hh]
      rw [e]
      have h2 : (cur.toList.take (ls.length * 1))[i]? = (ls.map Value.string)[i]? := by rw [ht]
      rw [List.getElem?_take_of_lt (by omega)] at h2
      have h3 : (ls.map Value.string)[i]? = some (.string (ls.getD i ByteArray.empty)) := by simp [List.getD, List.getElem?_eq_getElem hi]
      rw [← h3, ← h2]; simp

set_option maxHeartbeats 1600000 in
set_option maxRecDepth 20000 in
theorem pieces_any (s : ByteArray) (v : Value) (zs : List Int) (w : World) (hv : Ints w v zs) (hs : s.size ≤ 1099511627776) (hz : zs.length ≤ 2097152) :
    Calls Try.prog 16 #[.string s, v] w fun e w' => ∃ v' ls, e = .returned v' ∧ ls.length = zs.length + 1 ∧ Hid (joined ls = s.data.toList) ∧ w'.ownsRow w.heap.size 9 1 v' ls.length (ls.map Value.string) ∧ Below w.heap.size w w' := by
  obtain ⟨i0, hi, hz0, hz1, hz2⟩ := info_parts info9
  obtain ⟨ao, cap, rfl, hm, hwf, hcs⟩ := hv
  have HW : Hid (∀ z ∈ zs, -9223372036854775808 ≤ z ∧ z ≤ 9223372036854775807) := hwf
  clear hwf
  go_enter Try.func16, Try.ntmps16
  go_wp2_with fail
  go_loopw [11, 5, 0] (fun i v t wr => ∃ (k : Nat) (l : ByteArray) (ls : List ByteArray), k ≤ zs.length ∧ ls.length = k ∧ i = .int .i64 (k : Int) ∧ t = .string l ∧ l.size ≤ s.size ∧ Hid (joined ls ++ l.data.toList = s.data.toList) ∧ wr.ownsRow w.heap.size 9 1 v ls.length (ls.map Value.string) ∧ Below w.heap.size w wr) (fun i _ _ _ => zs.length - (intOf i).toNat)
  case atStart => exact ⟨0, s, [], by omega, rfl, rfl, rfl, Nat.le_refl _, by show _ = _; simp [joined], World.ownsRow_nil _ _ _ _, Below.refl _ _⟩
  case round =>
    obtain ⟨k, l, ls, hk, hkl, rfl, rfl, hls, HJ, hown, hbel⟩ := hrel
    have hsb := hbel.size
    by_cases hlt : k < zs.length
    · have hne : zs ≠ [] := by intro e; subst e; simp at hlt
      obtain ⟨b, o, rfl, hb, hc⟩ := hcs.resolve_left hne
      have c0 : wr.cell? ⟨b, o + k, none⟩ = some (.int .i64 (zs.getD k 0)) := (hbel.cell (p := ⟨b, o + k, none⟩) hb).trans (hc k hlt)
      have hzk := HW.out (zs.getD k 0) (by rw [List.getD_eq_getElem?_getD, List.getElem?_eq_getElem hlt]; exact List.getElem_mem hlt)
      generalize zs.getD k 0 = z at c0 hzk
      have hk0 : (0 : Int) ≤ (k : Int) := by omega
      have hk1 : (k : Int) < (zs.length : Int) := by omega
      clear hcs hc
      go_wp2_with fail
      refine (rest_any z ((l.size : Int) + 1) hzk (by omega) (by omega) _).mono ?_
      rintro e w1 ⟨⟨K, rfl, hK⟩, hw1⟩
      subst hw1
      have q0 : (0 : Int) ≤ (K : Int) := by omega
      have q1 : (K : Int) ≤ (l.size : Int) := by omega
      clear c0
      go_wp2_with (at_builtin; refine wpList_append_own _ rfl _ _ 40 rfl w.heap.size 9 i0 (.string ⟨#[]⟩) 1 16 Try.underlying40 hi hz0 hz1 hz2 rfl (by decide) _ _ _ rfl (hown.alloc _) ⟨w1.heap.size, 0, none⟩ 1 1 [.string (l.extract 0 K)] rfl rfl (World.news_of_block (t := 9) (fr := (0, 0)) (heap_alloc_new w1 _)) (by simp [Value.oneCell']) (by unfold maxLen; omega) (by omega) (by simp; omega) ?_)
      intro v' w2 hown' hgrow _
      have R1 : w2.ownsRow w.heap.size 9 1 v' (ls ++ [l.extract 0 K]).length ((ls ++ [l.extract 0 K]).map Value.string) := by rw [strs_snoc, List.length_append, hkl]; exact hown'
      have R2 : Below w.heap.size w w2 := Below.grown (hbel.alloc hsb _) hgrow (by simp; omega) (own_ge hown)
      have HJ2 : Hid (joined (ls ++ [l.extract 0 K]) ++ (l.extract K l.size).data.toList = s.data.toList) := by
        show _ = _
        rw [joined_append, joined_one, front_list, tail_list, List.append_assoc, List.take_append_drop]
        exact HJ.out
      clear hown' hgrow hown hbel HJ
      go_wp2_with fail
      go_roundw
      case rel => exact ⟨k + 1, l.extract K l.size, ls ++ [l.extract 0 K], by omega, by simp [hkl], by go_num, rfl, by simp; omega, HJ2, R1, R2⟩
      case measure => simp [intOf]; omega
    · go_wp2_with (at_builtin; refine wpList_append_own _ rfl _ _ 40 rfl w.heap.size 9 i0 (.string ⟨#[]⟩) 1 16 Try.underlying40 hi hz0 hz1 hz2 rfl (by decide) _ _ _ rfl (hown.alloc _) ⟨wr.heap.size, 0, none⟩ 1 1 [.string l] rfl rfl (World.news_of_block (t := 9) (fr := (0, 0)) (heap_alloc_new wr _)) (by simp [Value.oneCell']) (by unfold maxLen; omega) (by omega) (by simp; omega) ?_)
      intro v' w2 hown' hgrow _
      have R1 : w2.ownsRow w.heap.size 9 1 v' (ls ++ [l]).length ((ls ++ [l]).map Value.string) := by rw [strs_snoc, List.length_append, hkl]; exact hown'
      have R2 : Below w.heap.size w w2 := Below.grown (hbel.alloc hsb _) hgrow (by simp; omega) (own_ge hown)
      obtain ⟨a', m', c', rfl⟩ := own_form R1
      clear hown' hgrow hown hbel
      go_wp2_with fail
      go_ret
      exact ⟨_, ls ++ [l], rfl, by simp [hkl]; omega, by show _ = _; rw [joined_append, joined_one]; exact HJ.out, R1, R2⟩
end Go.Proofs.Ytnheaafepejaoaa
