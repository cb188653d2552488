/-
  The contracts of strings.Split at one blank, and of cfg.readBody.
-/
import Derived.Test.YtgoafahglajfmaaDoorRdSym
namespace Go.Proofs.YtgoafahglajfmaaDoor
open Go.RowKit
open Cg

theorem split_any (s : ByteArray) (c : UInt8) (hs : s.size ≤ 4096) (w : World) (hm : Mx w) :
    Calls Tryd.prog 49 #[.string s, .string ⟨#[c]⟩] w fun e w' => ∃ bs : List ByteArray, e = .returned (.slice (some ⟨w.heap.size, 0, none⟩) bs.length bs.length) ∧ bs.map (·.data.toList) = sp c s.data.toList ∧ bs.length ≤ 4097 ∧ w' = w.alloc (.cells (bs.map Value.string).toArray 9) := by
  obtain ⟨m, hm⟩ := hm
  have hc := Tryd.strings_Split s ⟨#[c]⟩ m w (by omega) hm (by show 1 ≤ 1; omega)
  refine hc.mono ?_
  rintro _ w' ⟨rfl, rfl⟩
  have hl := Go.Lib.splitB_all ⟨#[c]⟩ (by show 1 ≤ 1; omega) 0 (Go.Lib.countB s ⟨#[c]⟩) s rfl
  have hcl := Go.Lib.countB_le ⟨#[c]⟩ (by show 1 ≤ 1; omega) s.size s (Nat.le_refl _)
  refine ⟨_, ?_, ?_, ?_, rfl⟩
  · rw [hl]
  · rw [Go.Lib.splitB_data]
    exact splitK_is c s.data.toList
  · rw [hl]; omega
theorem parts_cell (w : World) (bs : List ByteArray) (i : Nat) (hi : i < bs.length) : (w.alloc (.cells (bs.map Value.string).toArray 9)).cell? ⟨w.heap.size, i, none⟩ = some (.string bs[i]) := by
  rw [cell_new]; simp [hi]
/-- New memory. -/
def Nw (w w' : World) (v : Value) : Prop := ∀ k, v.ownBlock = some k → w.heap.size ≤ k ∧ k < w'.heap.size
theorem scs_snoc (l : List Sy) (a b : Int) : scs (l ++ [(a, b)]) = scs l ++ [.int .i64 a, .int .i64 b] := by rw [scs_append]; rfl
set_option maxHeartbeats 3200000 in
set_option maxRecDepth 20000 in
theorem readBody_any (s : ByteArray) (w : World) (hs : s.size ≤ 4096) (hm : Mx w) :
    Calls Tryd.prog 40 #[.string s] w fun e w' => ∃ va vc, e = .returned (.tuple #[.slice va (bodyR s.data.toList).1.length vc, .bool (bodyR s.data.toList).2]) ∧ Syms w' (.slice va (bodyR s.data.toList).1.length vc) (bodyR s.data.toList).1 ∧ Nw w w' (.slice va (bodyR s.data.toList).1.length vc) ∧ Below w.heap.size w w' := by
  obtain ⟨i0, hi, hz0, hz1, hz2⟩ := info_parts info42
  obtain ⟨body, ok, HR⟩ : ∃ body ok, Hid (bodyR s.data.toList = (body, ok)) := ⟨_, _, (rfl : bodyR s.data.toList = bodyR s.data.toList)⟩
  rw [HR.out]
  have hc := split_any s 32 hs w hm
  clear hs hm
  go_enter Tryd.func40, Tryd.ntmps40
  go_wp2_with fail
  refine hc.mono ?_
  rintro _ w1 ⟨bs, rfl, hsp, hbl, rfl⟩
  have HSP : Hid (bs.map (·.data.toList) = sp 32 s.data.toList) := hsp
  clear hc hsp
  have hb0 : 0 < bs.length := by
    rcases Nat.eq_zero_or_pos bs.length with h | h
    · have e : bs = [] := List.length_eq_zero_iff.1 h
      have := HSP.out; rw [e] at this; exact absurd this.symm (sp_ne _ _)
    · exact h
  have HC : Hid (∀ i (hi : i < bs.length), (w.alloc (.cells (bs.map Value.string).toArray 9)).cell? ⟨w.heap.size, i, none⟩ = some (.string bs[i])) := fun i hi => parts_cell w bs i hi
  have HB0 : Hid (Below w.heap.size w (w.alloc (.cells (bs.map Value.string).toArray 9)) ∧ w.heap.size < (w.alloc (.cells (bs.map Value.string).toArray 9)).heap.size) := ⟨below_alloc _ _, by simp⟩
  generalize w.alloc (.cells (bs.map Value.string).toArray 9) = W0 at HC HB0 ⊢
  have c0 := HC.out 0 hb0
  obtain ⟨p0, HP0⟩ : ∃ p0, Hid (bs[0] = p0) := ⟨_, (rfl : bs[0] = bs[0])⟩
  rw [HP0.out] at c0
  have hn1 : (0 : Int) < (bs.length : Int) := by omega
  have HBR : Hid (bodyR s.data.toList = if p0.data.toList = [] then (if ((bs.tail.map (·.data.toList))).all (fun q => (symR q).2) = true then ((bs.tail.map (·.data.toList)).map fun q => (symR q).1, true) else ([], false)) else ([], false)) := by
    show _ = _
    unfold bodyR
    rw [← HSP.out]
    cases bs with
    | nil => simp at hb0
    | cons a t => simp only [List.map_cons, List.tail_cons]; rw [← HP0.out]; rfl
  by_cases he : p0.size = 0
  · have b0 : p0.toList.isEmpty = true := by rw [empty_is]; simpa using he
    have HE : Hid (p0.data.toList = []) := List.length_eq_zero_iff.1 (by rw [data_size]; exact he)
    obtain ⟨n, HN⟩ : ∃ n, Hid (bs.length = n + 1) := ⟨bs.length - 1, by show _ = _; omega⟩
    have hn40 : n ≤ 4096 := by have := HN.out; omega
    have HTL : Hid (bs.tail.length = n) := by show _ = _; rw [List.length_tail, HN.out]; rfl
    have HTI : Hid (∀ i (h1 : i < n) (h2 : i < bs.tail.length) (h3 : i + 1 < bs.length), bs.tail[i] = bs[i + 1]) := fun i _ _ _ => by simp
    obtain ⟨ts, HTS⟩ : ∃ ts, Hid (bs.tail.map (·.data.toList) = ts) := ⟨_, (rfl : bs.tail.map (·.data.toList) = bs.tail.map (·.data.toList))⟩
    have HTSL : Hid (ts.length = n) := by show _ = _; rw [← HTS.out, List.length_map, HTL.out]
    have HTSI : Hid (∀ i (h1 : i < ts.length) (h3 : i + 1 < bs.length), ts[i] = bs[i + 1].data.toList) := fun i h1 h3 => by
      have e : ts[i] = (bs.tail.map (·.data.toList))[i]'(by rw [HTS.out]; exact h1) := by simp only [HTS.out]
      rw [e, List.getElem_map]; congr 1; simp
    rw [HE.out, HTS.out] at HBR
    clear he HP0
    rw [HN.out] at hn1 ⊢
    by_cases hn0 : n = 0
    · subst hn0
      obtain ⟨rfl, rfl⟩ : body = [] ∧ ok = true := by
        have e : ts = [] := List.length_eq_zero_iff.1 HTSL.out
        have := HBR.out
        rw [HR.out, if_pos rfl, e] at this
        simp at this
        exact this
      go_wp2_with fail
      go_loopw [19, 5] (fun i v wr => i = .int .i64 0 ∧ v = .slice none 0 0 ∧ wr = W0) (fun _ _ _ => 0)
      case atStart => exact ⟨rfl, rfl, rfl⟩
      case round =>
        obtain ⟨rfl, rfl, rfl⟩ := hrel
        go_wp2_with fail
        go_ret2
        exact ⟨none, 0, rfl, syms_nil _, fun k hk => by simp [Value.ownBlock] at hk, HB0.out.1⟩
    have hnp : 0 < n := by omega
    go_wp2_with fail
    clear c0 b0
    go_loopw [19, 5] (fun i v wr => ∃ q : Nat, q ≤ n ∧ i = .int .i64 (q : Int) ∧ Hid ((ts.take q).all (fun q => (symR q).2) = true) ∧ wr.ownsRow W0.heap.size 42 2 v q (scs ((ts.take q).map fun q => (symR q).1)) ∧ Below W0.heap.size W0 wr) (fun i _ _ => n - (intOf i).toNat)
    case atStart => exact ⟨0, by omega, rfl, rfl, World.ownsRow_nil _ _ _ _, Below.refl _ _⟩
    case round =>
      obtain ⟨q, hq, rfl, HA, hown, hbel⟩ := hrel
      have hsb := hbel.size
      by_cases hlt : q < n
      · have h3 : q + 1 < bs.length := by rw [HN.out]; omega
        have hts : q < ts.length := by rw [HTSL.out]; exact hlt
        have c1 := (hbel.cell (p := ⟨w.heap.size, q + 1, none⟩) HB0.out.2).trans (HC.out (q + 1) h3)
        have HQ : Hid (ts[q] = bs[q + 1].data.toList) := HTSI.out q hts h3
        obtain ⟨p, HP⟩ : ∃ p, Hid (bs[q + 1] = p) := ⟨_, (rfl : bs[q + 1] = bs[q + 1])⟩
        rw [HP.out] at c1 HQ
        have hk1 : (q : Int) < (n : Int) := by omega
        obtain ⟨s0, s1, k, HS⟩ : ∃ s0 s1 k, Hid (symR p.data.toList = ((s0, s1), k)) := ⟨_, _, _, (rfl : symR p.data.toList = symR p.data.toList)⟩
        have HAN : Hid ((ts.take (q + 1)).all (fun q => (symR q).2) = k) := by
          show _ = _
          rw [List.take_succ_eq_append_getElem hts, List.all_append, HA.out, HQ.out]; simp [HS.out]
        have HMN : Hid (((ts.take (q + 1)).map fun q => (symR q).1) = ((ts.take q).map fun q => (symR q).1) ++ [(s0, s1)]) := by
          show _ = _
          rw [List.take_succ_eq_append_getElem hts, List.map_append, HQ.out]; simp [HS.out]
        have HAF : Hid (k = false → ts.all (fun q => (symR q).2) = false) := fun e => by
          rw [List.all_eq_false]; exact ⟨ts[q], List.getElem_mem hts, by rw [HQ.out, HS.out, e]; simp⟩
        have hcs := readSym_any p wr
        rw [HS.out] at hcs
        have c2 : wr.cell? ⟨w.heap.size, 1 + q, none⟩ = some (.string p) := by rw [Nat.add_comm]; exact c1
        go_wp2_with fail
        clear c1 c2
        refine hcs.mono ?_
        rintro _ w2 ⟨rfl, hb2⟩
        have HB2 : Hid (Below W0.heap.size W0 (w2.alloc (Obj.cells #[.int .i64 s0, .int .i64 s1] 42)) ∧ W0.heap.size ≤ (w2.alloc (Obj.cells #[.int .i64 s0, .int .i64 s1] 42)).heap.size) := by
          have h1 := (hbel.trans (hb2.mono hsb)).alloc (Nat.le_trans hsb hb2.size) (Obj.cells #[.int .i64 s0, .int .i64 s1] 42)
          exact ⟨h1, h1.size⟩
        have HO2 : Hid ((w2.alloc (Obj.cells #[.int .i64 s0, .int .i64 s1] 42)).ownsRow W0.heap.size 42 2 u5 q (scs ((ts.take q).map fun q => (symR q).1))) := (own_below hown hb2).alloc _
        clear hcs hb2 hown hbel hsb
        cases k with
        | false =>
          obtain ⟨rfl, rfl⟩ : body = [] ∧ ok = false := by
            have := HBR.out
            rw [HR.out] at this
            simp only [if_true, HAF.out rfl] at this
            simpa using this
          go_wp2_with fail
          go_ret2
          exact ⟨none, 0, rfl, syms_nil _, fun k hk => by simp [Value.ownBlock] at hk, HB0.out.1.trans (HB2.out.1.mono (Nat.le_of_lt HB0.out.2))⟩
        | true =>
          go_upto_region 11 with (fail)
          have g0 := cell_new w2 #[.int .i64 s0, .int .i64 s1] 42 0
          have g1 := cell_new w2 #[.int .i64 s0, .int .i64 s1] 42 1
          simp only [List.getElem?_toArray, List.getElem?_cons_zero, List.getElem?_cons_succ] at g0 g1
          generalize w2.alloc (Obj.cells #[.int .i64 s0, .int .i64 s1] 42) = wa at HB2 HO2 g0 g1 ⊢
          have hown := HO2.out
          have hsa := HB2.out.2
          go_wp2_with (at_builtin; refine wpList_append_own _ rfl _ _ 37 rfl W0.heap.size 42 i0 (.agg #[.int .i64 0, .int .i64 0]) 2 16 Tryd.underlying37 hi hz0 hz1 hz2 rfl (by decide) _ _ _ rfl (hown.alloc _) ⟨wa.heap.size, 0, none⟩ 1 1 [.int .i64 s0, .int .i64 s1] rfl rfl (World.news_of_block (t := 42) (fr := (0, 0)) (heap_alloc_new wa _)) (by simp [Value.oneCell']) (by unfold maxLen; omega) (by omega) (by simp; omega) ?_)
          intro v' w3 hown' hgrow _
          have R1 : w3.ownsRow W0.heap.size 42 2 v' (q + 1) (scs ((ts.take (q + 1)).map fun q => (symR q).1)) := by rw [HMN.out, scs_snoc]; simpa using hown'
          have R2 : Below W0.heap.size W0 w3 := Below.grown (HB2.out.1.alloc hsa _) hgrow (by simp; omega) (own_ge hown)
          clear hown' hgrow hown HO2
          go_wp2_with fail
          go_roundw
          case rel => exact ⟨q + 1, by omega, by go_num, HAN.out, R1, R2⟩
          case measure => simp [intOf]; omega
      · have hqn : q = n := by omega
        subst hqn
        have HTT : Hid (ts.take q = ts) := List.take_of_length_le (by rw [HTSL.out]; omega)
        rw [HTT.out] at HA hown
        obtain ⟨hbo, rfl⟩ : body = (ts.map fun q => (symR q).1) ∧ ok = true := by
          have := HBR.out
          rw [HR.out] at this
          simp only [if_true, HA.out, Prod.mk.injEq] at this
          exact this
        have HBL : Hid (body.length = q) := by show _ = _; rw [hbo, List.length_map, HTSL.out]
        rw [← hbo] at hown
        clear hbo
        have HSY : Hid (Syms wr u5 body) := syms_of_own (by rw [HBL.out]; exact hown) (by rw [HBL.out]; omega)
        have HNW : Hid (Nw w wr u5) := fun k hk => ⟨Nat.le_trans (Nat.le_of_lt HB0.out.2) (own_ge hown k hk), (hown.lt k hk).2⟩
        have HBF : Hid (Below w.heap.size w wr) := HB0.out.1.trans (hbel.mono (Nat.le_of_lt HB0.out.2))
        obtain rfl := HBL.out
        obtain ⟨va, vc, rfl⟩ := own_row hown
        clear hown hbel
        go_wp2_with fail
        go_ret2
        exact ⟨va, vc, rfl, HSY.out, HNW.out, HBF.out⟩
  · have b0 : p0.toList.isEmpty = false := by rw [empty_is]; simpa using he
    obtain ⟨rfl, rfl⟩ : body = [] ∧ ok = false := by
      have := HBR.out
      rw [HR.out, if_neg (fun e => he (by rw [← data_size, e]; rfl))] at this
      simp at this
      exact this
    go_wp2_with fail
    go_ret2
    exact ⟨none, 0, rfl, syms_nil _, fun k hk => by simp [Value.ownBlock] at hk, HB0.out.1⟩
end Go.Proofs.YtgoafahglajfmaaDoor
