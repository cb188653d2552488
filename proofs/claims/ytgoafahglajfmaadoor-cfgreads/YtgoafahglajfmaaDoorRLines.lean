/-
  The contract of pushref.Lines.
-/
import Derived.Test.YtgoafahglajfmaaDoorTxRef
import Derived.Test.YtgoafahglajfmaaDoorRdProd
namespace Go.Proofs.YtgoafahglajfmaaDoor
open Go.RowKit
open Cg

namespace Cg
/-- The lines of what lies between bytes 10. -/
def lnR : List (List UInt8) → List (List UInt8)
  | [] => []
  | [p] => if p = [] then [] else [p]
  | p :: q :: r => (p ++ [10]) :: lnR (q :: r)
theorem lnR_cons (p : List UInt8) (tl : List (List UInt8)) (h : tl ≠ []) : lnR (p :: tl) = (p ++ [10]) :: lnR tl := by
  cases tl with
  | nil => exact absurd rfl h
  | cons q r => rfl
end Cg
theorem strs_snoc (ls : List ByteArray) (s : ByteArray) : (ls ++ [s]).map Value.string = ls.map Value.string ++ [.string s] := by simp

/-- A value is a slice that holds these texts. -/
def Strs (w : World) (v : Value) (ls : List ByteArray) : Prop :=
  ∃ ao cap, v = .slice ao ls.length cap ∧ ls.length ≤ 9223372036854775807 ∧ (ls = [] ∨ ∃ b o, ao = some ⟨b, o, none⟩ ∧ b < w.heap.size ∧ ∀ i, i < ls.length → w.cell? ⟨b, o + i, none⟩ = some (.string (ls.getD i ByteArray.empty)))
theorem Strs.below {w w' : World} {v : Value} {ls : List ByteArray} (h : Strs w v ls) {B : Nat} (hb : Below B w w') (hB : w.heap.size ≤ B) : Strs w' v ls := by
  obtain ⟨ao, cap, hv, hm, h | ⟨b, o, h1, h2, h3⟩⟩ := h
  · exact ⟨ao, cap, hv, hm, Or.inl h⟩
  · exact ⟨ao, cap, hv, hm, Or.inr ⟨b, o, h1, Nat.lt_of_lt_of_le h2 hb.size, fun i hi => (hb.cell (p := ⟨b, o + i, none⟩) (by simp; omega)).trans (h3 i hi)⟩⟩
theorem strs_of_own {w : World} {base : Nat} {v : Value} {ls : List ByteArray} (h : w.ownsRow base 9 1 v ls.length (ls.map Value.string)) (hm : ls.length ≤ 9223372036854775807) : Strs w v ls := by
  obtain ⟨hl, ⟨h1, h2⟩ | ⟨g, cap, cur, hv, hg, hh, hn, hc, hs, ht⟩⟩ := h
  · exact ⟨none, 0, by rw [h1, h2], hm, Or.inl (List.length_eq_zero_iff.1 h2)⟩
  · refine ⟨some ⟨g, 0, none⟩, cap, hv, hm, Or.inr ⟨g, 0, rfl, ?_, fun i hi => ?_⟩⟩
    · rcases Nat.lt_or_ge g w.heap.size with h' | h'
      · exact h'
      · simp [Array.getElem?_eq_none h'] at hh
    · have e : w.cell? ⟨g, 0 + i, none⟩ = cur[i]? := by simp [World.cell?, hh]
      rw [e]
      have h2 : (cur.toList.take (ls.length * 1))[i]? = (ls.map Value.string)[i]? := by rw [ht]
      rw [List.getElem?_take_of_lt (by omega)] at h2
      have h3 : (ls.map Value.string)[i]? = some (.string (ls.getD i ByteArray.empty)) := by simp [List.getD, List.getElem?_eq_getElem hi]
      rw [← h3, ← h2]; simp


theorem info9 : (Tryd.prog.info? 9).map (fun i => (i.zero, i.size, i.bytes)) = some (some (.string ⟨#[]⟩), 1, 16) := by kernel_rfl
theorem ext2 (s : ByteArray) (k n : Nat) : (s.extract k n).data.toList = (s.data.toList.drop k).take (n - k) := by simp
theorem tail2 (s : ByteArray) (k : Nat) : (s.extract k s.size).data.toList = s.data.toList.drop k := by
  simp
  exact List.take_of_length_le (by simp)
theorem mid_step (l : List UInt8) (f i : Nat) (hf : f ≤ i) (hi : i < l.length) : (l.drop f).take (i + 1 - f) = (l.drop f).take (i - f) ++ [l[i]] := by
  rw [show i + 1 - f = i - f + 1 by omega, List.take_add_one]
  congr 1
  rw [List.getElem?_drop, show f + (i - f) = i by omega, List.getElem?_eq_getElem hi]; rfl
theorem mid_rest (l : List UInt8) (f i : Nat) (hf : f ≤ i) (hi : i < l.length) : l.drop f = (l.drop f).take (i - f) ++ l[i] :: l.drop (i + 1) := by
  have h := List.take_append_drop (i - f) (l.drop f)
  rw [List.drop_drop, show f + (i - f) = i by omega, List.drop_eq_getElem_cons hi] at h
  exact h.symm
set_option maxHeartbeats 3200000 in
set_option maxRecDepth 20000 in
theorem Lines_any (s : ByteArray) (w : World) (hs : s.size ≤ 4096) :
    Calls Tryd.prog 21 #[.string s] w fun e w' => ∃ (ls : List ByteArray) (a : Option Addr) (c : Nat), e = .returned (.slice a ls.length c) ∧ ls.map (·.data.toList) = lnR (sp 10 s.data.toList) ∧ ls.length ≤ 4097 ∧ Strs w' (.slice a ls.length c) ls ∧ Below w.heap.size w w' := by
  obtain ⟨i0, hi, hz0, hz1, hz2⟩ := info_parts info9
  go_enter Tryd.func21, Tryd.ntmps21
  go_wp2_with fail
  go_loopw [3, 4, 5] (fun v x y wr => ∃ (ls : List ByteArray) (f i : Nat), x = .int .i64 (f : Int) ∧ y = .int .i64 (i : Int) ∧ f ≤ i ∧ i ≤ s.size ∧ ls.length ≤ f ∧ Hid (ls.map (·.data.toList) ++ lnR (sp 10 (s.data.toList.drop f)) = lnR (sp 10 s.data.toList) ∧ (10 : UInt8) ∉ (s.data.toList.drop f).take (i - f)) ∧ wr.ownsRow w.heap.size 9 1 v ls.length (ls.map Value.string) ∧ Below w.heap.size w wr) (fun _ _ y _ => s.size - (intOf y).toNat)
  case atStart => exact ⟨[], 0, 0, rfl, rfl, Nat.le_refl _, Nat.zero_le _, Nat.le_refl _, ⟨by simp, by simp⟩, World.ownsRow_nil _ _ _ _, Below.refl _ _⟩
  case round =>
    obtain ⟨ls, f, i, rfl, rfl, hfi, his, hlf, HJ, hown, hbel⟩ := hrel
    have hsb := hbel.size
    by_cases hlt : i < s.size
    · have hk1 : (i : Int) < (s.size : Int) := by omega
      have hll : i < s.data.toList.length := by rw [data_size]; exact hlt
      have HG : Hid (s.data.toList[i] = s[i]) := rfl
      by_cases h10 : s[i].toNat = 10
      · have b10 : ((s[i].toNat : Int) == 10) = true := by simp; omega
        have HE : Hid (s[i] = 10) := by show _ = _; apply UInt8.toNat_inj.1; rw [h10]; rfl
        have HJ2 : Hid ((ls ++ [s.extract f (i + 1)]).map (·.data.toList) ++ lnR (sp 10 (s.data.toList.drop (i + 1))) = lnR (sp 10 s.data.toList) ∧ (10 : UInt8) ∉ (s.data.toList.drop (i + 1)).take (i + 1 - (i + 1))) := by
          refine ⟨?_, by simp⟩
          rw [← HJ.out.1, mid_rest s.data.toList f i hfi hll, HG.out, HE.out, sp_app 10 _ _ HJ.out.2, lnR_cons _ _ (sp_ne _ _), List.map_append, List.append_assoc]
          congr 1
          simp only [List.map_cons, List.map_nil, List.cons_append, List.nil_append]
          rw [ext2, mid_step s.data.toList f i hfi hll, HG.out, HE.out]
        have q0 : (0 : Int) ≤ (f : Int) := by omega
        have q1 : (f : Int) ≤ (i : Int) + 1 := by omega
        have q2 : (i : Int) + 1 ≤ (s.size : Int) := by omega
        clear h10
        go_wp2_with (at_builtin; refine wpList_append_own _ rfl _ _ 58 rfl w.heap.size 9 i0 (.string ⟨#[]⟩) 1 16 Tryd.underlying58 hi hz0 hz1 hz2 rfl (by decide) _ _ _ rfl (hown.alloc _) ⟨wr.heap.size, 0, none⟩ 1 1 [.string (s.extract f (i + 1))] rfl rfl (World.news_of_block (t := 9) (fr := (0, 0)) (heap_alloc_new wr _)) (by simp [Value.oneCell']) (by unfold maxLen; omega) (by omega) (by simp; omega) ?_)
        intro v' w2 hown' hgrow _
        have R1 : w2.ownsRow w.heap.size 9 1 v' (ls ++ [(s.extract f (i + 1))]).length ((ls ++ [(s.extract f (i + 1))]).map Value.string) := by rw [strs_snoc, List.length_append]; exact hown'
        have R2 : Below w.heap.size w w2 := Below.grown (hbel.alloc hsb _) hgrow (by simp; omega) (own_ge hown)
        clear hown' hgrow hown hbel HJ
        go_wp2_with fail
        go_roundw
        case rel => exact ⟨ls ++ [s.extract f (i + 1)], i + 1, i + 1, by go_num, by go_num, Nat.le_refl _, by omega, by simp; omega, HJ2, R1, R2⟩
        case measure => simp [intOf]; omega
      · have b10 : ((s[i].toNat : Int) == 10) = false := by simp; omega
        have HJ2 : Hid (ls.map (·.data.toList) ++ lnR (sp 10 (s.data.toList.drop f)) = lnR (sp 10 s.data.toList) ∧ (10 : UInt8) ∉ (s.data.toList.drop f).take (i + 1 - f)) := by
          refine ⟨HJ.out.1, ?_⟩
          rw [mid_step s.data.toList f i hfi hll, HG.out]
          intro h
          rcases List.mem_append.1 h with h | h
          · exact HJ.out.2 h
          · exact h10 (by rw [← List.mem_singleton.1 h]; rfl)
        clear h10
        go_wp2_with fail
        go_roundw
        case rel => exact ⟨ls, f, i + 1, rfl, by go_num, by omega, by omega, hlf, HJ2, hown, hbel⟩
        case measure => simp [intOf]; omega
    · have hk1 : ¬ (i : Int) < (s.size : Int) := by omega
      have HN : Hid ((10 : UInt8) ∉ s.data.toList.drop f) := by
        have h := HJ.out.2
        rw [List.take_of_length_le (by rw [List.length_drop, data_size]; omega)] at h
        exact h
      have HE : Hid (ls.map (·.data.toList) ++ (if s.data.toList.drop f = [] then [] else [s.data.toList.drop f]) = lnR (sp 10 s.data.toList)) := by
        show _ = _
        rw [← HJ.out.1, sp_one 10 _ HN.out]; rfl
      by_cases hfs : f < s.size
      · have b2 : decide ((f : Int) < (s.size : Int)) = true := by simp; omega
        have HE2 : Hid ((ls ++ [s.extract f s.size]).map (·.data.toList) = lnR (sp 10 s.data.toList)) := by
          show _ = _
          rw [← HE.out, if_neg (fun e => by have := congrArg List.length e; rw [List.length_drop, data_size] at this; simp at this; omega)]
          rw [List.map_append]
          congr 1
          simp only [List.map_cons, List.map_nil]
          rw [tail2]
        have q0 : (0 : Int) ≤ (f : Int) := by omega
        have q1 : (f : Int) ≤ (s.size : Int) := by omega
        clear HJ HN HE
        go_wp2_with (at_builtin; refine wpList_append_own _ rfl _ _ 58 rfl w.heap.size 9 i0 (.string ⟨#[]⟩) 1 16 Tryd.underlying58 hi hz0 hz1 hz2 rfl (by decide) _ _ _ rfl (hown.alloc _) ⟨wr.heap.size, 0, none⟩ 1 1 [.string (s.extract f s.size)] rfl rfl (World.news_of_block (t := 9) (fr := (0, 0)) (heap_alloc_new wr _)) (by simp [Value.oneCell']) (by unfold maxLen; omega) (by omega) (by simp; omega) ?_)
        intro v' w2 hown' hgrow _
        have R1 : w2.ownsRow w.heap.size 9 1 v' (ls ++ [(s.extract f s.size)]).length ((ls ++ [(s.extract f s.size)]).map Value.string) := by rw [strs_snoc, List.length_append]; exact hown'
        have R2 : Below w.heap.size w w2 := Below.grown (hbel.alloc hsb _) hgrow (by simp; omega) (own_ge hown)
        have R3 : Hid (Strs w2 v' (ls ++ [s.extract f s.size])) := strs_of_own R1 (by simp; omega)
        obtain ⟨a', c', rfl⟩ := own_row R1
        clear hown' hgrow hown hbel R1
        go_wp2_with fail
        go_ret
        exact ⟨ls ++ [s.extract f s.size], a', c', rfl, HE2.out, by simp; omega, R3.out, R2⟩
      · have b2 : decide ((f : Int) < (s.size : Int)) = false := by simp; omega
        have HE2 : Hid (ls.map (·.data.toList) = lnR (sp 10 s.data.toList)) := by
          show _ = _
          rw [← HE.out, if_pos (List.drop_eq_nil_of_le (by rw [data_size]; omega)), List.append_nil]
        have R3 : Hid (Strs wr _ ls) := strs_of_own hown (by omega)
        obtain ⟨a', c', rfl⟩ := own_row hown
        clear hown HJ HN HE
        go_wp2_with fail
        go_ret
        exact ⟨ls, a', c', rfl, HE2.out, by omega, R3.out, hbel⟩
end Go.Proofs.YtgoafahglajfmaaDoor
