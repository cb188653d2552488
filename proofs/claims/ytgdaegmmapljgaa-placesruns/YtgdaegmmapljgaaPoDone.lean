/-
  The contract of the document's own answer pushref.Done.
-/
import Derived.Test.YtgdaegmmapljgaaPoAt
namespace Go.Proofs.Ytgdaegmmapljgaa
open Go.RowKit
open Cls Po

set_option maxHeartbeats 8000000 in
set_option maxRecDepth 20000 in
theorem done_any (v0 v1 v2 v3 v4 v5 : Value) (p : P) (s : ByteArray) (w : World) (hp : Pn w v0 v1 v2 v3 v4 v5 p) (hok : ok p = true) (hn : p.cls.length ≤ 200) (hs : s.size ≤ 200) :
    Calls Try.prog 17 #[.agg #[v0, v1, v2, v3, v4, v5], .string s] w fun e w' => ∃ v', e = .returned v' ∧ Ints w' v' (doneL p s.data.toList) ∧ Below w.heap.size w w' := by
  obtain ⟨i0, hi, hz0, hz1, hz2⟩ := info_parts info3
  have HLE : Hid (p.rules.length = p.cls.length ∧ p.last.length = p.cls.length) := ⟨((ok_iff p).1 hok).1, ((ok_iff p).1 hok).2.2.1⟩
  have he20 : p.empty.length ≤ 20 := ((ok_iff p).1 hok).2.2.2.2.1
  have H0 : Hid (Px w w.heap.size v0 v1 v2 v3 v4 v5 p (w.alloc (Obj.cells #[v0, v1, v2, v3, v4, v5] 28))) := Px.box hp
  have HAT : Hid (∀ W, Pn W v0 v1 v2 v3 v4 v5 p → Calls Try.prog 16 #[.agg #[v0, v1, v2, v3, v4, v5], .string s] W fun e w' => ∃ v', e = .returned v' ∧ Ints w' v' (atL p s.data.toList) ∧ Below W.heap.size W w') := fun W h => at_any v0 v1 v2 v3 v4 v5 p s W h hok hn hs
  obtain ⟨a1, k1, rfl, hm1, -⟩ := hp.rules
  obtain ⟨a4, k4, rfl, hm4, -⟩ := hp.last
  obtain ⟨a5, k5, rfl, hm5, -⟩ := hp.empty
  clear hp hok
  go_enter Try.func17, Try.ntmps17
  go_wp2_with fail
  refine (HAT.out _ H0.out.pn).mono ?_
  rintro _ W0 ⟨v', rfl, hI, hb⟩
  have HX : Hid (Px w w.heap.size v0 (.slice a1 p.rules.length k1) v2 v3 (.slice a4 p.last.length k4) (.slice a5 p.empty.length k5) p W0) := H0.out.next _ _ hb
  have hin := atL_in p s.data.toList
  obtain ⟨L, HL⟩ : ∃ L, Hid (atL p s.data.toList = L) := ⟨_, (rfl : atL p s.data.toList = atL p s.data.toList)⟩
  rw [HL.out] at hI hin
  have HIN : Hid (∀ x ∈ L, 0 ≤ x ∧ x < (p.cls.length : Int)) := hin
  obtain ⟨ao, cap, rfl, hml, hcs⟩ := hI
  have HCS : Hid (L = [] ∨ ∃ b o, ao = some ⟨b, o, none⟩ ∧ b < W0.heap.size ∧ ∀ i (hi : i < L.length), W0.cell? ⟨b, o + i, none⟩ = some (.int .i64 L[i])) := hcs
  clear hb hin hcs H0 HAT
  go_wp2_with fail
  go_loopw [7, 6] (fun z v wx => ∃ i : Nat, i ≤ p.empty.length ∧ z = .int .i64 (i : Int) ∧ wx.ownsRow W0.heap.size 3 1 v (sel i (doneB p s.data.toList)).length ((sel i (doneB p s.data.toList)).map (Value.int .i64)) ∧ Below W0.heap.size W0 wx) (fun z _ _ => p.empty.length - (intOf z).toNat)
  case atStart => exact ⟨0, by omega, rfl, World.ownsRow_nil _ _ _ _, Below.refl _ _⟩
  case round =>
    obtain ⟨WM, rfl⟩ : ∃ WM, WM = wr := ⟨_, rfl⟩
    obtain ⟨i, hi1, rfl, hown, hbel⟩ := hrel
    have hsb := hbel.size
    have H1 : Hid (Px w w.heap.size v0 (.slice a1 p.rules.length k1) v2 v3 (.slice a4 p.last.length k4) (.slice a5 p.empty.length k5) p WM) := HX.out.next _ _ hbel
    have y5 := H1.out.c5
    by_cases hit : i < p.empty.length
    · have hii : (i : Int) < (p.empty.length : Int) := by omega
      have hsl := sel_length i (doneB p s.data.toList)
      have HST : Hid (sel (i + 1) (doneB p s.data.toList) = sel i (doneB p s.data.toList) ++ (if doneB p s.data.toList i = true then [(i : Int)] else [])) := sel_step _ _
      obtain ⟨m0, HM0⟩ : ∃ m0, Hid ((decide (s.data.toList = []) && p.empty.getD i false) = m0) := ⟨_, (rfl : _ = (decide (s.data.toList = []) && p.empty.getD i false))⟩
      by_cases hs0 : 0 < s.size
      · have hse3 : s.toList.isEmpty = false := by
          rw [list_data]
          cases e : s.data.toList with
          | nil => have := data_size s; rw [e] at this; simp at this; omega
          | cons _ _ => rfl
        obtain rfl : m0 = false := by
          rw [← HM0.out, decide_eq_false (by intro e; have := data_size s; rw [e] at this; simp at this; omega)]; rfl
        go_wp2_with fail
        go_loopw [9, 8] (fun z bv wx => ∃ (j : Nat) (m : Bool), j ≤ L.length ∧ z = .int .i64 (j : Int) ∧ bv = .bool m ∧ Hid (m = (false || doneF p (L.take j) i)) ∧ Sb WM wx) (fun z _ _ => L.length - (intOf z).toNat)
        case atStart => exact ⟨0, false, by omega, rfl, rfl, by show _ = _; simp [doneF], Sb.refl _⟩
        case round =>
          obtain ⟨W1, rfl⟩ : ∃ W1, W1 = wr := ⟨_, rfl⟩
          obtain ⟨j, m, hj, rfl, rfl, HM, hbel1⟩ := hrel
          clear y5
          have H2 : Hid (Px w w.heap.size v0 (.slice a1 p.rules.length k1) v2 v3 (.slice a4 p.last.length k4) (.slice a5 p.empty.length k5) p W1) := H1.out.next _ _ hbel1
          have B2 : Below W0.heap.size W0 W1 := hbel.trans (Below.mono hbel1 hsb)
          by_cases hjt : j < L.length
          · have hji : (j : Int) < (L.length : Int) := by omega
            have HBS : Hid (doneF p (L.take (j + 1)) i = (doneF p (L.take j) i || (decide (p.rules.getD L[j].toNat 0 = (i : Int)) && p.last.getD L[j].toNat false))) := doneF_snoc p L j hjt i
            cases m with
            | true =>
              go_wp2_with (go_quiet (fail))
              go_roundw
              case rel => exact ⟨j + 1, true, by omega, by go_num, rfl, by show _ = _; rw [HBS.out, ← Bool.or_assoc, ← HM.out]; rfl, below_drewN hbel1 nq⟩
              case measure => simp [intOf]; omega
            | false =>
              obtain ⟨bb, o, rfl, hb, hc⟩ := HCS.out.resolve_left (by intro e; subst e; simp at hjt)
              have hz := HIN.out L[j] (List.getElem_mem hjt)
              have qc : W1.cell? ⟨bb, o + j, none⟩ = some (.int .i64 L[j]) := (B2.cell (p := ⟨bb, o + j, none⟩) hb).trans (hc j hjt)
              obtain ⟨z, HZ⟩ : ∃ z, Hid (L[j] = z) := ⟨_, (rfl : L[j] = L[j])⟩
              rw [HZ.out] at hz HBS qc
              obtain ⟨y, rfl⟩ : ∃ y : Nat, z = (y : Int) := ⟨z.toNat, by omega⟩
              have hy1 : y < p.rules.length := by rw [HLE.out.1]; omega
              have hy4 : y < p.last.length := by rw [HLE.out.2]; omega
              have hy1' : (y : Int) < (p.rules.length : Int) := by omega
              have hy4' : (y : Int) < (p.last.length : Int) := by omega
              have HBS2 : Hid (doneF p (L.take (j + 1)) i = (doneF p (L.take j) i || (decide (p.rules[y] = (i : Int)) && p.last[y]))) := by
                show _ = _
                rw [HBS.out, Int.toNat_natCast, List.getD_eq_getElem?_getD, List.getD_eq_getElem?_getD, List.getElem?_eq_getElem hy1, List.getElem?_eq_getElem hy4]; rfl
              obtain ⟨a1', k1', hv1, -, hcs1⟩ := H2.out.pn.rules
              simp only [Value.slice.injEq] at hv1
              obtain ⟨rfl, -, rfl⟩ := hv1
              obtain ⟨b1, o1, rfl, hb1, hd1⟩ := hcs1.resolve_left (by intro e; rw [e] at hy1; simp at hy1)
              obtain ⟨a4', k4', hv4, -, hcs4⟩ := H2.out.pn.last
              simp only [Value.slice.injEq] at hv4
              obtain ⟨rfl, -, rfl⟩ := hv4
              obtain ⟨b4, o4, rfl, hb4, hd4⟩ := hcs4.resolve_left (by intro e; rw [e] at hy4; simp at hy4)
              have d1 := hd1 y hy1
              have d4 := hd4 y hy4
              have z1 := H2.out.c1
              have z4 := H2.out.c4
              obtain ⟨r, HR⟩ : ∃ r, Hid (p.rules[y] = r) := ⟨_, (rfl : p.rules[y] = p.rules[y])⟩
              obtain ⟨la, HLA⟩ : ∃ r, Hid (p.last[y] = r) := ⟨_, (rfl : p.last[y] = p.last[y])⟩
              rw [HR.out, HLA.out] at HBS2
              rw [HR.out] at d1
              rw [HLA.out] at d4
              clear hc hd1 hd4 hcs1 hcs4
              by_cases hri : r = (i : Int)
              · have hb1' : (r == (i : Int)) = true := by simp; exact hri
                have HRI : Hid (r = (i : Int)) := hri
                clear hri
                go_wp2_with (go_quiet (fail))
                go_roundw
                case rel => exact ⟨j + 1, la, by omega, by go_num, rfl, by show _ = _; rw [HBS2.out, ← Bool.or_assoc, ← HM.out, decide_eq_true HRI.out]; simp, below_drewN hbel1 nq⟩
                case measure => simp [intOf]; omega
              · have hb1' : (r == (i : Int)) = false := by simp; exact hri
                have HRI : Hid (¬ r = (i : Int)) := hri
                clear hri
                go_wp2_with (go_quiet (fail))
                go_roundw
                case rel => exact ⟨j + 1, false, by omega, by go_num, rfl, by show _ = _; rw [HBS2.out, ← Bool.or_assoc, ← HM.out, decide_eq_false HRI.out]; simp, below_drewN hbel1 nq⟩
                case measure => simp [intOf]; omega
          · have HDB : Hid (doneB p s.data.toList i = m) := by
              show _ = _
              rw [HM.out, show L.take j = L from List.take_of_length_le (Nat.le_of_not_lt hjt), ← HM0.out, ← HL.out]; rfl
            have hown2 := own_below hown hbel1
            have hsb2 := B2.size
            cases m with
            | false =>
              have HS : Hid (sel (i + 1) (doneB p s.data.toList) = sel i (doneB p s.data.toList)) := by show _ = _; rw [HST.out, if_neg (by rw [HDB.out]; simp)]; simp
              go_wp2_with fail
              go_roundw
              case rel => exact ⟨i + 1, by omega, by go_num, by rw [HS.out]; exact hown2, B2⟩
              case measure => simp [intOf]; omega
            | true =>
              have HS : Hid (sel (i + 1) (doneB p s.data.toList) = sel i (doneB p s.data.toList) ++ [(i : Int)]) := by show _ = _; rw [HST.out, if_pos HDB.out]
              go_wp2_with (at_builtin; refine wpList_append_own _ rfl _ _ 24 rfl W0.heap.size 3 i0 (.int .i64 0) 1 8 Try.underlying24 hi hz0 hz1 hz2 rfl (by decide) _ _ _ rfl (hown2.alloc _) ⟨W1.heap.size, 0, none⟩ 1 1 [.int .i64 (i : Int)] rfl rfl (World.news_of_block (t := 3) (fr := (0, 0)) (heap_alloc_new W1 _)) (by simp [Value.oneCell']) (by unfold maxLen; omega) (by omega) (by simp; omega) ?_)
              intro v' w2 hown' hgrow _
              have R1 : w2.ownsRow W0.heap.size 3 1 v' (sel (i + 1) (doneB p s.data.toList)).length ((sel (i + 1) (doneB p s.data.toList)).map (Value.int .i64)) := by rw [HS.out, List.length_append, List.map_append]; exact hown'
              have R2 : Below W0.heap.size W0 w2 := Below.grown (B2.alloc hsb2 _) hgrow (by simp; omega) (own_ge hown2)
              clear hown' hgrow hown2 B2
              go_wp2_with fail
              go_roundw
              case rel => exact ⟨i + 1, by omega, by go_num, R1, R2⟩
              case measure => simp [intOf]; omega
      · have HSE : Hid (s.data.toList = []) := by
          show _ = _
          apply List.length_eq_zero_iff.1
          rw [data_size]; omega
        have hse3 : s.toList.isEmpty = true := by rw [list_data, HSE.out]; rfl
        obtain ⟨a5', k5', hv5, -, hcs5⟩ := H1.out.pn.empty
        simp only [Value.slice.injEq] at hv5
        obtain ⟨rfl, -, rfl⟩ := hv5
        obtain ⟨b5, o5, rfl, hb5, hd5⟩ := hcs5.resolve_left (by intro e; rw [e] at hit; simp at hit)
        have d5 := hd5 i hit
        have HE : Hid (p.empty[i] = m0) := by
          show _ = _
          rw [← HM0.out, decide_eq_true HSE.out, List.getD_eq_getElem?_getD, List.getElem?_eq_getElem hit]; rfl
        rw [HE.out] at d5
        clear hd5 hcs5
        go_wp2_with fail
        go_loopw [9, 8] (fun z bv wx => ∃ (j : Nat) (m : Bool), j ≤ L.length ∧ z = .int .i64 (j : Int) ∧ bv = .bool m ∧ Hid (m = (m0 || doneF p (L.take j) i)) ∧ Sb WM wx) (fun z _ _ => L.length - (intOf z).toNat)
        case atStart => exact ⟨0, m0, by omega, rfl, rfl, by show _ = _; simp [doneF], Sb.refl _⟩
        case round =>
          obtain ⟨W1, rfl⟩ : ∃ W1, W1 = wr := ⟨_, rfl⟩
          obtain ⟨j, m, hj, rfl, rfl, HM, hbel1⟩ := hrel
          clear y5 d5
          have H2 : Hid (Px w w.heap.size v0 (.slice a1 p.rules.length k1) v2 v3 (.slice a4 p.last.length k4) (.slice (some ⟨b5, o5, none⟩) p.empty.length k5) p W1) := H1.out.next _ _ hbel1
          have B2 : Below W0.heap.size W0 W1 := hbel.trans (Below.mono hbel1 hsb)
          by_cases hjt : j < L.length
          · have hji : (j : Int) < (L.length : Int) := by omega
            have HBS : Hid (doneF p (L.take (j + 1)) i = (doneF p (L.take j) i || (decide (p.rules.getD L[j].toNat 0 = (i : Int)) && p.last.getD L[j].toNat false))) := doneF_snoc p L j hjt i
            cases m with
            | true =>
              go_wp2_with (go_quiet (fail))
              go_roundw
              case rel => exact ⟨j + 1, true, by omega, by go_num, rfl, by show _ = _; rw [HBS.out, ← Bool.or_assoc, ← HM.out]; rfl, below_drewN hbel1 nq⟩
              case measure => simp [intOf]; omega
            | false =>
              obtain ⟨bb, o, rfl, hb, hc⟩ := HCS.out.resolve_left (by intro e; subst e; simp at hjt)
              have hz := HIN.out L[j] (List.getElem_mem hjt)
              have qc : W1.cell? ⟨bb, o + j, none⟩ = some (.int .i64 L[j]) := (B2.cell (p := ⟨bb, o + j, none⟩) hb).trans (hc j hjt)
              obtain ⟨z, HZ⟩ : ∃ z, Hid (L[j] = z) := ⟨_, (rfl : L[j] = L[j])⟩
              rw [HZ.out] at hz HBS qc
              obtain ⟨y, rfl⟩ : ∃ y : Nat, z = (y : Int) := ⟨z.toNat, by omega⟩
              have hy1 : y < p.rules.length := by rw [HLE.out.1]; omega
              have hy4 : y < p.last.length := by rw [HLE.out.2]; omega
              have hy1' : (y : Int) < (p.rules.length : Int) := by omega
              have hy4' : (y : Int) < (p.last.length : Int) := by omega
              have HBS2 : Hid (doneF p (L.take (j + 1)) i = (doneF p (L.take j) i || (decide (p.rules[y] = (i : Int)) && p.last[y]))) := by
                show _ = _
                rw [HBS.out, Int.toNat_natCast, List.getD_eq_getElem?_getD, List.getD_eq_getElem?_getD, List.getElem?_eq_getElem hy1, List.getElem?_eq_getElem hy4]; rfl
              obtain ⟨a1', k1', hv1, -, hcs1⟩ := H2.out.pn.rules
              simp only [Value.slice.injEq] at hv1
              obtain ⟨rfl, -, rfl⟩ := hv1
              obtain ⟨b1, o1, rfl, hb1, hd1⟩ := hcs1.resolve_left (by intro e; rw [e] at hy1; simp at hy1)
              obtain ⟨a4', k4', hv4, -, hcs4⟩ := H2.out.pn.last
              simp only [Value.slice.injEq] at hv4
              obtain ⟨rfl, -, rfl⟩ := hv4
              obtain ⟨b4, o4, rfl, hb4, hd4⟩ := hcs4.resolve_left (by intro e; rw [e] at hy4; simp at hy4)
              have d1 := hd1 y hy1
              have d4 := hd4 y hy4
              have z1 := H2.out.c1
              have z4 := H2.out.c4
              obtain ⟨r, HR⟩ : ∃ r, Hid (p.rules[y] = r) := ⟨_, (rfl : p.rules[y] = p.rules[y])⟩
              obtain ⟨la, HLA⟩ : ∃ r, Hid (p.last[y] = r) := ⟨_, (rfl : p.last[y] = p.last[y])⟩
              rw [HR.out, HLA.out] at HBS2
              rw [HR.out] at d1
              rw [HLA.out] at d4
              clear hc hd1 hd4 hcs1 hcs4
              by_cases hri : r = (i : Int)
              · have hb1' : (r == (i : Int)) = true := by simp; exact hri
                have HRI : Hid (r = (i : Int)) := hri
                clear hri
                go_wp2_with (go_quiet (fail))
                go_roundw
                case rel => exact ⟨j + 1, la, by omega, by go_num, rfl, by show _ = _; rw [HBS2.out, ← Bool.or_assoc, ← HM.out, decide_eq_true HRI.out]; simp, below_drewN hbel1 nq⟩
                case measure => simp [intOf]; omega
              · have hb1' : (r == (i : Int)) = false := by simp; exact hri
                have HRI : Hid (¬ r = (i : Int)) := hri
                clear hri
                go_wp2_with (go_quiet (fail))
                go_roundw
                case rel => exact ⟨j + 1, false, by omega, by go_num, rfl, by show _ = _; rw [HBS2.out, ← Bool.or_assoc, ← HM.out, decide_eq_false HRI.out]; simp, below_drewN hbel1 nq⟩
                case measure => simp [intOf]; omega
          · have HDB : Hid (doneB p s.data.toList i = m) := by
              show _ = _
              rw [HM.out, show L.take j = L from List.take_of_length_le (Nat.le_of_not_lt hjt), ← HM0.out, ← HL.out]; rfl
            have hown2 := own_below hown hbel1
            have hsb2 := B2.size
            cases m with
            | false =>
              have HS : Hid (sel (i + 1) (doneB p s.data.toList) = sel i (doneB p s.data.toList)) := by show _ = _; rw [HST.out, if_neg (by rw [HDB.out]; simp)]; simp
              go_wp2_with fail
              go_roundw
              case rel => exact ⟨i + 1, by omega, by go_num, by rw [HS.out]; exact hown2, B2⟩
              case measure => simp [intOf]; omega
            | true =>
              have HS : Hid (sel (i + 1) (doneB p s.data.toList) = sel i (doneB p s.data.toList) ++ [(i : Int)]) := by show _ = _; rw [HST.out, if_pos HDB.out]
              go_wp2_with (at_builtin; refine wpList_append_own _ rfl _ _ 24 rfl W0.heap.size 3 i0 (.int .i64 0) 1 8 Try.underlying24 hi hz0 hz1 hz2 rfl (by decide) _ _ _ rfl (hown2.alloc _) ⟨W1.heap.size, 0, none⟩ 1 1 [.int .i64 (i : Int)] rfl rfl (World.news_of_block (t := 3) (fr := (0, 0)) (heap_alloc_new W1 _)) (by simp [Value.oneCell']) (by unfold maxLen; omega) (by omega) (by simp; omega) ?_)
              intro v' w2 hown' hgrow _
              have R1 : w2.ownsRow W0.heap.size 3 1 v' (sel (i + 1) (doneB p s.data.toList)).length ((sel (i + 1) (doneB p s.data.toList)).map (Value.int .i64)) := by rw [HS.out, List.length_append, List.map_append]; exact hown'
              have R2 : Below W0.heap.size W0 w2 := Below.grown (B2.alloc hsb2 _) hgrow (by simp; omega) (own_ge hown2)
              clear hown' hgrow hown2 B2
              go_wp2_with fail
              go_roundw
              case rel => exact ⟨i + 1, by omega, by go_num, R1, R2⟩
              case measure => simp [intOf]; omega
    · obtain rfl : i = p.empty.length := by omega
      have HIx : Hid (Ints WM u6 (doneL p s.data.toList) ∧ Below w.heap.size w WM) := ⟨ints_of_own hown (by have := sel_length p.empty.length (doneB p s.data.toList); show (sel p.empty.length (doneB p s.data.toList)).length ≤ _; omega), H1.out.below⟩
      clear hown
      go_wp2_with fail
      go_ret
      exact ⟨_, rfl, HIx.out.1, HIx.out.2⟩
end Go.Proofs.Ytgdaegmmapljgaa
