/-
  The contract of pushref.prod.
-/
import Derived.Test.YtgoafahglajfmaaDoorTxRef
import Derived.Test.YtgoafahglajfmaaDoorRdProd
namespace Go.Proofs.YtgoafahglajfmaaDoor
open Go.RowKit
open Cg

theorem getD_get (s : ByteArray) (k : Nat) (h : k < s.size) : s.data.toList.getD k 0 = s[k] := by
  rw [List.getD_eq_getElem?_getD, List.getElem?_eq_getElem (by rw [data_size]; exact h)]; rfl
theorem getD_out (s : ByteArray) (k : Nat) (h : s.size ≤ k) : s.data.toList.getD k 0 = 0 := by
  rw [List.getD_eq_getElem?_getD, List.getElem?_eq_none (by rw [data_size]; exact h)]; rfl
theorem scs_snoc2 (l : List Sy) (a b : Int) : scs (l ++ [(a, b)]) = scs l ++ [.int .i64 a, .int .i64 b] := by rw [scs_append]; rfl
theorem byte_is (b : UInt8) (n : Nat) (hn : n < 256) : b.toNat = n ↔ b = UInt8.ofNat n := by
  constructor
  · intro h; apply UInt8.toNat_inj.1; rw [h, UInt8.toNat_ofNat']; omega
  · intro h; rw [h, UInt8.toNat_ofNat']; omega
set_option maxHeartbeats 8000000 in
set_option maxRecDepth 20000 in
theorem prod_any (s : ByteArray) (w : World) (hs : s.size ≤ 4097) :
    Calls Tryd.prog 23 #[.string s] w fun e w' => ∃ (x : Int) (body : List Sy) (va : Option Addr) (vc : Nat), e = .returned (.tuple #[.agg #[.int .i64 x, .slice va body.length vc], .bool (prodQ s.data.toList).isSome]) ∧ True ∧ ((prodQ s.data.toList).isSome = true → prodQ s.data.toList = some (x, body)) ∧ Syms w' (.slice va body.length vc) body ∧ Nw w w' (.slice va body.length vc) ∧ Below w.heap.size w w' := by
  obtain ⟨i0, hi, hz0, hz1, hz2⟩ := info_parts info42
  obtain ⟨n, a, H9⟩ : ∃ n a, Hid (small9 s.data.toList 0 = (n, a)) := ⟨_, _, (rfl : small9 s.data.toList 0 = small9 s.data.toList 0)⟩
  have HP : Hid (prodQ s.data.toList = if n < 0 ∨ s.data.toList.getD a 0 ≠ 58 then none else
      match bodyQ s.data.toList (s.size + 2) (a + 1) with
      | none => none
      | some r => if r.2 + 1 = s.size ∧ s.data.toList.getD r.2 0 = 10 then some (n, r.1) else none) := by show _ = _; unfold prodQ; rw [H9.out, data_size]; rfl
  have H9L : Hid (0 ≤ n → 0 < a ∧ a ≤ s.size) := fun h => by have := small9_le s.data.toList 0 (by rw [H9.out]; exact h); rw [H9.out, data_size] at this; exact this
  obtain ⟨pq, HPQ⟩ : ∃ pq, Hid (prodQ s.data.toList = pq) := ⟨_, (rfl : prodQ s.data.toList = prodQ s.data.toList)⟩
  rw [HPQ.out] at HP ⊢
  have HB0 : Hid (Below w.heap.size w (w.alloc (Obj.cells #[.int .i64 0, .slice none 0 0] 39)) ∧ (w.alloc (Obj.cells #[.int .i64 0, .slice none 0 0] 39)).heap[w.heap.size]? = some (Obj.cells #[.int .i64 0, .slice none 0 0] 39)) := ⟨below_alloc _ _, heap_alloc_new _ _⟩
  have h9 := Small9_any s 0 (w.alloc (Obj.cells #[.int .i64 0, .slice none 0 0] 39)) (by omega) hs
  rw [H9.out] at h9
  go_enter Tryd.func23, Tryd.ntmps23
  go_wp2_with fail
  refine h9.mono ?_
  rintro _ w0 ⟨rfl, rfl⟩
  clear h9
  obtain ⟨w0, HW0⟩ : ∃ w0, Hid (w.alloc (Obj.cells #[.int .i64 0, .slice none 0 0] 39) = w0) := ⟨_, (rfl : w.alloc (Obj.cells #[.int .i64 0, .slice none 0 0] 39) = w.alloc (Obj.cells #[.int .i64 0, .slice none 0 0] 39))⟩
  rw [HW0.out] at HB0 ⊢
  by_cases hn : n < 0
  · have bn : decide (n < 0) = true := by simp; exact hn
    have HN : Hid (pq = none) := by show _ = _; rw [HP.out, if_pos (Or.inl hn)]
    have hrb : w0.heap[w.heap.size]? = some (Obj.cells #[.int .i64 0, .slice none 0 0] 39) := HB0.out.2
    obtain rfl : pq = none := HN.out
    have r1 := block_store (i := 0) hrb (.int .i64 0)
    have r2 := block_store (i := 1) r1 (.slice none 0 0)
    simp only [List.setIfInBounds_toArray, List.set_cons_zero, List.set_cons_succ] at r1 r2
    have y0 := cell_blk hrb 0
    have y1 := cell_blk r1 1
    have v0 := cell_blk r2 0
    have v1 := cell_blk r2 1
    have f0 := frozen_blk hrb 0
    have f1 := frozen_blk r1 1
    simp only [List.getElem?_toArray, List.getElem?_cons_zero, List.getElem?_cons_succ] at y0 y1 v0 v1
    have HFIN : Hid (Below w.heap.size w ((w0.setCell ⟨w.heap.size, 0, none⟩ (.int .i64 0)).setCell ⟨w.heap.size, 1, none⟩ (.slice none 0 0))) := (HB0.out.1.setCell (p := ⟨w.heap.size, 0, none⟩) (Nat.le_refl _) _).setCell (p := ⟨w.heap.size, 1, none⟩) (Nat.le_refl _) _
    clear hrb r1 r2
    go_wp2_with fail
    exact bodyPost_ret (v := .tuple #[.agg #[.int .i64 0, .slice none 0 0], .bool false]) (by simp [results, Tryd.results23, go_sem, v0, v1]) rfl ⟨0, [], none, 0, rfl, trivial, fun h => absurd h (by decide), syms_nil _, fun q hq => by simp [Value.ownBlock] at hq, HFIN.out⟩
  · have bn : decide (n < 0) = false := by simp; omega
    obtain ⟨ha0, ha1⟩ := H9L.out (by omega)
    by_cases hal : s.size ≤ a
    · have ba : decide ((s.size : Int) ≤ (a : Int)) = true := by simp; omega
      have HN : Hid (pq = none) := by show _ = _; rw [HP.out, if_pos (Or.inr (by rw [getD_out s a hal]; decide))]
      have hrb : w0.heap[w.heap.size]? = some (Obj.cells #[.int .i64 0, .slice none 0 0] 39) := HB0.out.2
      obtain rfl : pq = none := HN.out
      have r1 := block_store (i := 0) hrb (.int .i64 0)
      have r2 := block_store (i := 1) r1 (.slice none 0 0)
      simp only [List.setIfInBounds_toArray, List.set_cons_zero, List.set_cons_succ] at r1 r2
      have y0 := cell_blk hrb 0
      have y1 := cell_blk r1 1
      have v0 := cell_blk r2 0
      have v1 := cell_blk r2 1
      have f0 := frozen_blk hrb 0
      have f1 := frozen_blk r1 1
      simp only [List.getElem?_toArray, List.getElem?_cons_zero, List.getElem?_cons_succ] at y0 y1 v0 v1
      have HFIN : Hid (Below w.heap.size w ((w0.setCell ⟨w.heap.size, 0, none⟩ (.int .i64 0)).setCell ⟨w.heap.size, 1, none⟩ (.slice none 0 0))) := (HB0.out.1.setCell (p := ⟨w.heap.size, 0, none⟩) (Nat.le_refl _) _).setCell (p := ⟨w.heap.size, 1, none⟩) (Nat.le_refl _) _
      clear hrb r1 r2
      go_wp2_with fail
      exact bodyPost_ret (v := .tuple #[.agg #[.int .i64 0, .slice none 0 0], .bool false]) (by simp [results, Tryd.results23, go_sem, v0, v1]) rfl ⟨0, [], none, 0, rfl, trivial, fun h => absurd h (by decide), syms_nil _, fun q hq => by simp [Value.ownBlock] at hq, HFIN.out⟩
    · have ba : decide ((s.size : Int) ≤ (a : Int)) = false := by simp; omega
      have ba2 : decide (s.size ≤ a) = false := by simp; omega
      have hal2 : a < s.size := by omega
      have hai : (a : Int) < (s.size : Int) := by omega
      by_cases h58 : s[a].toNat = 58
      · have bc : ((s[a].toNat : Int) != 58) = false := by simp; omega
        have HP2 : Hid (pq = match bodyQ s.data.toList (s.size + 2) (a + 1) with
            | none => none
            | some r => if r.2 + 1 = s.size ∧ s.data.toList.getD r.2 0 = 10 then some (n, r.1) else none) := by
          show _ = _
          rw [HP.out, if_neg]
          intro h
          rcases h with h | h
          · exact hn h
          · exact h (by rw [getD_get s a hal2]; exact (byte_is _ 58 (by omega)).1 h58)
        obtain ⟨bq, HBQ⟩ : ∃ bq, Hid (bodyQ s.data.toList (s.size + 2) (a + 1) = bq) := ⟨_, (rfl : bodyQ s.data.toList (s.size + 2) (a + 1) = bodyQ s.data.toList (s.size + 2) (a + 1))⟩
        rw [HBQ.out] at HP2
        have HM0 : Hid (Below w.heap.size w (w0.alloc (Obj.cells #[.int .i64 n, .slice none 0 0] 39)) ∧ (w0.alloc (Obj.cells #[.int .i64 n, .slice none 0 0] 39)).heap[w.heap.size]? = some (Obj.cells #[.int .i64 0, .slice none 0 0] 39) ∧ (w0.alloc (Obj.cells #[.int .i64 n, .slice none 0 0] 39)).heap[w0.heap.size]? = some (.cells #[.int .i64 n, .slice none 0 0] 39) ∧ w0.heap.size < (w0.alloc (Obj.cells #[.int .i64 n, .slice none 0 0] 39)).heap.size ∧ w.heap.size < w0.heap.size) :=
          ⟨HB0.out.1.alloc HB0.out.1.size _, box_next HB0.out.2 (below_alloc _ _), heap_alloc_new _ _, by simp, heap_lt HB0.out.2⟩
        clear hn hal HP h58
        go_wp2_with fail
        clear bc ba bn ba2
        obtain ⟨ob, HOB⟩ : ∃ ob, Hid (w0.heap.size = ob) := ⟨_, (rfl : w0.heap.size = w0.heap.size)⟩
        rw [HOB.out] at HM0 ⊢
        have HM0L : Hid (w.heap.size < ob) := by show _ < _; rw [← HOB.out]; exact heap_lt HB0.out.2
        generalize w0.alloc (Obj.cells #[.int .i64 n, .slice none 0 0] 39) = w1 at HM0 ⊢
        go_loopw [5] (fun i wr => ∃ (p : Nat) (body : List Sy) (bv : Value) (f : Nat), i = .int .i64 (p : Int) ∧ p ≤ s.size ∧ body.length ≤ p ∧ Hid (s.size + 1 ≤ f + p ∧ bq = pre body (bodyQ s.data.toList f p)) ∧
            Hid (wr.heap[w.heap.size]? = some (Obj.cells #[.int .i64 0, .slice none 0 0] 39) ∧ wr.heap[ob]? = some (.cells #[.int .i64 n, bv] 39) ∧ wr.ownsRow (ob + 1) 42 2 bv body.length (scs body) ∧ Below w.heap.size w wr)) (fun i _ => s.size - (intOf i).toNat)
        case atStart => exact ⟨a + 1, [], .slice none 0 0, s.size + 2, by simp, by omega, by simp, ⟨by omega, by rw [HBQ.out]; cases bq <;> rfl⟩, HM0.out.2.1, HM0.out.2.2.1, World.ownsRow_nil _ _ _ _, HM0.out.1⟩
        case round =>
          obtain ⟨p, body, bv, f, rfl, hps, hbp, HF, HMM⟩ := hrel
          obtain ⟨ba, bc, rfl⟩ := own_row HMM.out.2.2.1
          by_cases hsp : p < s.size ∧ s.data.toList.getD p 0 = 32
          · obtain ⟨f2, HFF⟩ : ∃ f2, Hid (f = f2 + 1) := ⟨f - 1, by show _ = _; have := HF.out.1; omega⟩
            have HBS : Hid (bodyQ s.data.toList (f2 + 1) p = if kindAt s.data.toList (p + 1) = 0 ∨ (small9 s.data.toList (p + 2)).1 < 0 then none else (bodyQ s.data.toList f2 (small9 s.data.toList (p + 2)).2).map fun r => ((kindAt s.data.toList (p + 1), (small9 s.data.toList (p + 2)).1) :: r.1, r.2)) := by
              show _ = _
              rw [bodyQ, if_pos hsp.2]
            have hpl := hsp.1
            have h32 : s[p].toNat = 32 := (byte_is _ 32 (by omega)).2 (by rw [← getD_get s p hpl]; exact hsp.2)
            have b1 : decide ((p : Int) < (s.size : Int)) = true := by simp; omega
            have hpi : (p : Int) < (s.size : Int) := by omega
            have b2 : ((s[p].toNat : Int) == 32) = true := by simp; omega
            clear hsp
            by_cases hp1 : p + 1 < s.size
            · have b3 : decide ((p : Int) + 1 < (s.size : Int)) = true := by simp; omega
              have hpi1 : ((p + 1 : Nat) : Int) < (s.size : Int) := by omega
              have HG1 : Hid (s.data.toList.getD (p + 1) 0 = s[p + 1]) := getD_get s (p + 1) hp1
              by_cases ht : s[p + 1].toNat = 116
              · have bt : ((s[p + 1].toNat : Int) == 116) = true := by simp; omega
                have bn2 : ((s[p + 1].toNat : Int) == 110) = false := by simp; omega
                have HKD : Hid (kindAt s.data.toList (p + 1) = 1) := by
                  show _ = _
                  unfold kindAt
                  rw [HG1.out, (byte_is _ 116 (by omega)).1 ht]; decide
                have hc9 := Small9_any s (p + 2) wr (by omega) hs
                obtain ⟨m, e, HME⟩ : ∃ m e, Hid (small9 s.data.toList (p + 2) = (m, e)) := ⟨_, _, (rfl : small9 s.data.toList (p + 2) = small9 s.data.toList (p + 2))⟩
                rw [HME.out] at hc9
                go_wp2_with fail
                refine hc9.mono ?_
                rintro _ w9 ⟨rfl, h99⟩
                have h98 := h99.symm
                subst h98
                clear hc9 h99
                by_cases hm : m < 0
                · have bm : decide (m < 0) = true := by simp; exact hm
                  have HN : Hid (pq = none) := by
                    show _ = _
                    have h1 := HF.out.2
                    rw [HFF.out, HBS.out, HME.out, if_pos (Or.inr hm)] at h1
                    rw [HP2.out, show bq = none from h1]
                  have hrb : wr.heap[w.heap.size]? = some (Obj.cells #[.int .i64 0, .slice none 0 0] 39) := HMM.out.1
                  obtain rfl : pq = none := HN.out
                  have r1 := block_store (i := 0) hrb (.int .i64 0)
                  have r2 := block_store (i := 1) r1 (.slice none 0 0)
                  simp only [List.setIfInBounds_toArray, List.set_cons_zero, List.set_cons_succ] at r1 r2
                  have y0 := cell_blk hrb 0
                  have y1 := cell_blk r1 1
                  have v0 := cell_blk r2 0
                  have v1 := cell_blk r2 1
                  have f0 := frozen_blk hrb 0
                  have f1 := frozen_blk r1 1
                  simp only [List.getElem?_toArray, List.getElem?_cons_zero, List.getElem?_cons_succ] at y0 y1 v0 v1
                  have HFIN : Hid (Below w.heap.size w ((wr.setCell ⟨w.heap.size, 0, none⟩ (.int .i64 0)).setCell ⟨w.heap.size, 1, none⟩ (.slice none 0 0))) := (HMM.out.2.2.2.setCell (p := ⟨w.heap.size, 0, none⟩) (Nat.le_refl _) _).setCell (p := ⟨w.heap.size, 1, none⟩) (Nat.le_refl _) _
                  clear hrb r1 r2
                  go_wp2_with fail
                  exact bodyPost_ret (v := .tuple #[.agg #[.int .i64 0, .slice none 0 0], .bool false]) (by simp [results, Tryd.results23, go_sem, v0, v1]) rfl ⟨0, [], none, 0, rfl, trivial, fun h => absurd h (by decide), syms_nil _, fun q hq => by simp [Value.ownBlock] at hq, HFIN.out⟩
                · have bm : decide (m < 0) = false := by simp; omega
                  obtain ⟨he1, he2⟩ : p + 2 < e ∧ e ≤ s.size := by have := small9_le s.data.toList (p + 2) (by rw [HME.out]; show 0 ≤ m; omega); rw [HME.out, data_size] at this; exact this
                  have HNX : Hid (s.size + 1 ≤ f2 + e ∧ bq = pre (body ++ [(1, m)]) (bodyQ s.data.toList f2 e)) := by
                    refine ⟨by have := HF.out.1; have := HFF.out; omega, ?_⟩
                    have h1 := HF.out.2
                    rw [HFF.out, HBS.out, HME.out, if_neg (fun h => by rcases h with h | h; · rw [HKD.out] at h; cases h
                                                                       · exact hm h), HKD.out] at h1
                    rw [h1]
                    simp only [pre, Option.map_map]
                    congr 1
                    funext r
                    simp
                  have hown := HMM.out.2.2.1
                  have hbx := HMM.out.2.1
                  have c1 := cell_blk hbx 1
                  simp only [List.getElem?_toArray, List.getElem?_cons_zero, List.getElem?_cons_succ] at c1
                  have hobl := heap_lt hbx
                  have HBX : Hid (wr.heap[ob]? = some (.cells #[.int .i64 n, .slice ba body.length bc] 39)) := hbx
                  have HBL : Hid (body.length ≤ 4097) := by show _ ≤ _; omega
                  have hbl2 := HBL.out
                  clear hbx
                  go_wp2_with (at_builtin; refine wpList_append_own _ rfl _ _ 37 rfl (ob + 1) 42 i0 (.agg #[.int .i64 0, .int .i64 0]) 2 16 Tryd.underlying37 hi hz0 hz1 hz2 rfl (by decide) _ _ _ rfl (hown.alloc _) ⟨wr.heap.size, 0, none⟩ 1 1 [.int .i64 1, .int .i64 m] rfl rfl (World.news_of_block (t := 42) (fr := (0, 0)) (heap_alloc_new wr _)) (by simp [Value.oneCell']) (by unfold maxLen; omega) (by omega) (by simp; omega) ?_)
                  intro v' w3 hown' hgrow _
                  have HNO : Hid (∀ k, k ≤ ob → some k ≠ Value.ownBlock (.slice ba body.length bc)) := fun k hk e2 => by have := own_ge hown k e2.symm; omega
                  have hb3 : w3.heap[ob]? = some (.cells #[.int .i64 n, .slice ba body.length bc] 39) := by
                    rw [hgrow.block ob (by simp; omega) (HNO.out ob (Nat.le_refl _)), (below_alloc wr _).block ob hobl]
                    exact HBX.out
                  have d1 := cell_blk hb3 1
                  have f1 := frozen_blk hb3 1
                  simp only [List.getElem?_toArray, List.getElem?_cons_zero, List.getElem?_cons_succ] at d1
                  obtain ⟨xa, xc, rfl⟩ := own_row hown'
                  have HNM : Hid ((w3.setCell ⟨ob, 1, none⟩ (.slice xa (body.length + 1) xc)).heap[w.heap.size]? = some (Obj.cells #[.int .i64 0, .slice none 0 0] 39) ∧ (w3.setCell ⟨ob, 1, none⟩ (.slice xa (body.length + 1) xc)).heap[ob]? = some (.cells #[.int .i64 n, .slice xa (body.length + 1) xc] 39) ∧ (w3.setCell ⟨ob, 1, none⟩ (.slice xa (body.length + 1) xc)).ownsRow (ob + 1) 42 2 (.slice xa (body.length + 1) xc) (body ++ [(1, m)]).length (scs (body ++ [(1, m)])) ∧ Below w.heap.size w (w3.setCell ⟨ob, 1, none⟩ (.slice xa (body.length + 1) xc))) := by
                    have hob := HM0L.out
                    have hr1 : w3.heap[w.heap.size]? = some (Obj.cells #[.int .i64 0, .slice none 0 0] 39) := by
                      rw [hgrow.block w.heap.size (by simp; omega) (HNO.out _ (by omega)), (below_alloc wr _).block _ (by omega)]
                      exact HMM.out.1
                    refine ⟨by rw [Below.heap_setCell _ _ _ _ (by simp; omega)]; exact hr1, ?_, ?_, ?_⟩
                    · have := block_store (i := 1) hb3 (.slice xa (body.length + 1) xc)
                      simpa using this
                    · refine own_keep (xs := scs (body ++ [(1, m)])) (by rw [scs_snoc2, List.length_append]; exact hown') fun b hb => ?_
                      have := own_ge hown' b hb
                      rw [Below.heap_setCell _ _ _ _ (by simp; omega)]
                    · have hbw : Below w.heap.size w w3 := ⟨hgrow.os.trans HMM.out.2.2.2.os, hgrow.tape.trans HMM.out.2.2.2.tape, hgrow.output.trans HMM.out.2.2.2.output, Nat.le_trans HMM.out.2.2.2.size (Nat.le_trans (below_alloc wr _).size hgrow.size), fun k hk => by
                        rw [hgrow.block k (by simp; omega) (HNO.out k (by omega)), (below_alloc wr _).block k (by omega)]
                        exact HMM.out.2.2.2.block k hk⟩
                      exact hbw.setCell (p := ⟨ob, 1, none⟩) (by show w.heap.size ≤ ob; omega) _
                  clear hown' hgrow hown hb3 c1 HBX HNO HMM
                  go_wp2_with fail
                  go_roundw
                  case rel => exact ⟨e, body ++ [(1, m)], _, f2, rfl, he2, by simp; omega, HNX, HNM⟩
                  case measure => simp [intOf]; omega
              · have bt : ((s[p + 1].toNat : Int) == 116) = false := by simp; omega
                by_cases hn2 : s[p + 1].toNat = 110
                · have bn2 : ((s[p + 1].toNat : Int) == 110) = true := by simp; omega
                  have HKD : Hid (kindAt s.data.toList (p + 1) = 2) := by
                    show _ = _
                    unfold kindAt
                    rw [HG1.out, (byte_is _ 110 (by omega)).1 hn2]; decide
                  have hc9 := Small9_any s (p + 2) wr (by omega) hs
                  obtain ⟨m, e, HME⟩ : ∃ m e, Hid (small9 s.data.toList (p + 2) = (m, e)) := ⟨_, _, (rfl : small9 s.data.toList (p + 2) = small9 s.data.toList (p + 2))⟩
                  rw [HME.out] at hc9
                  go_wp2_with fail
                  refine hc9.mono ?_
                  rintro _ w9 ⟨rfl, h99⟩
                  have h98 := h99.symm
                  subst h98
                  clear hc9 h99
                  by_cases hm : m < 0
                  · have bm : decide (m < 0) = true := by simp; exact hm
                    have HN : Hid (pq = none) := by
                      show _ = _
                      have h1 := HF.out.2
                      rw [HFF.out, HBS.out, HME.out, if_pos (Or.inr hm)] at h1
                      rw [HP2.out, show bq = none from h1]
                    have hrb : wr.heap[w.heap.size]? = some (Obj.cells #[.int .i64 0, .slice none 0 0] 39) := HMM.out.1
                    obtain rfl : pq = none := HN.out
                    have r1 := block_store (i := 0) hrb (.int .i64 0)
                    have r2 := block_store (i := 1) r1 (.slice none 0 0)
                    simp only [List.setIfInBounds_toArray, List.set_cons_zero, List.set_cons_succ] at r1 r2
                    have y0 := cell_blk hrb 0
                    have y1 := cell_blk r1 1
                    have v0 := cell_blk r2 0
                    have v1 := cell_blk r2 1
                    have f0 := frozen_blk hrb 0
                    have f1 := frozen_blk r1 1
                    simp only [List.getElem?_toArray, List.getElem?_cons_zero, List.getElem?_cons_succ] at y0 y1 v0 v1
                    have HFIN : Hid (Below w.heap.size w ((wr.setCell ⟨w.heap.size, 0, none⟩ (.int .i64 0)).setCell ⟨w.heap.size, 1, none⟩ (.slice none 0 0))) := (HMM.out.2.2.2.setCell (p := ⟨w.heap.size, 0, none⟩) (Nat.le_refl _) _).setCell (p := ⟨w.heap.size, 1, none⟩) (Nat.le_refl _) _
                    clear hrb r1 r2
                    go_wp2_with fail
                    exact bodyPost_ret (v := .tuple #[.agg #[.int .i64 0, .slice none 0 0], .bool false]) (by simp [results, Tryd.results23, go_sem, v0, v1]) rfl ⟨0, [], none, 0, rfl, trivial, fun h => absurd h (by decide), syms_nil _, fun q hq => by simp [Value.ownBlock] at hq, HFIN.out⟩
                  · have bm : decide (m < 0) = false := by simp; omega
                    obtain ⟨he1, he2⟩ : p + 2 < e ∧ e ≤ s.size := by have := small9_le s.data.toList (p + 2) (by rw [HME.out]; show 0 ≤ m; omega); rw [HME.out, data_size] at this; exact this
                    have HNX : Hid (s.size + 1 ≤ f2 + e ∧ bq = pre (body ++ [(2, m)]) (bodyQ s.data.toList f2 e)) := by
                      refine ⟨by have := HF.out.1; have := HFF.out; omega, ?_⟩
                      have h1 := HF.out.2
                      rw [HFF.out, HBS.out, HME.out, if_neg (fun h => by rcases h with h | h; · rw [HKD.out] at h; cases h
                                                                         · exact hm h), HKD.out] at h1
                      rw [h1]
                      simp only [pre, Option.map_map]
                      congr 1
                      funext r
                      simp
                    have hown := HMM.out.2.2.1
                    have hbx := HMM.out.2.1
                    have c1 := cell_blk hbx 1
                    simp only [List.getElem?_toArray, List.getElem?_cons_zero, List.getElem?_cons_succ] at c1
                    have hobl := heap_lt hbx
                    have HBX : Hid (wr.heap[ob]? = some (.cells #[.int .i64 n, .slice ba body.length bc] 39)) := hbx
                    have HBL : Hid (body.length ≤ 4097) := by show _ ≤ _; omega
                    have hbl2 := HBL.out
                    clear hbx
                    go_wp2_with (at_builtin; refine wpList_append_own _ rfl _ _ 37 rfl (ob + 1) 42 i0 (.agg #[.int .i64 0, .int .i64 0]) 2 16 Tryd.underlying37 hi hz0 hz1 hz2 rfl (by decide) _ _ _ rfl (hown.alloc _) ⟨wr.heap.size, 0, none⟩ 1 1 [.int .i64 2, .int .i64 m] rfl rfl (World.news_of_block (t := 42) (fr := (0, 0)) (heap_alloc_new wr _)) (by simp [Value.oneCell']) (by unfold maxLen; omega) (by omega) (by simp; omega) ?_)
                    intro v' w3 hown' hgrow _
                    have HNO : Hid (∀ k, k ≤ ob → some k ≠ Value.ownBlock (.slice ba body.length bc)) := fun k hk e2 => by have := own_ge hown k e2.symm; omega
                    have hb3 : w3.heap[ob]? = some (.cells #[.int .i64 n, .slice ba body.length bc] 39) := by
                      rw [hgrow.block ob (by simp; omega) (HNO.out ob (Nat.le_refl _)), (below_alloc wr _).block ob hobl]
                      exact HBX.out
                    have d1 := cell_blk hb3 1
                    have f1 := frozen_blk hb3 1
                    simp only [List.getElem?_toArray, List.getElem?_cons_zero, List.getElem?_cons_succ] at d1
                    obtain ⟨xa, xc, rfl⟩ := own_row hown'
                    have HNM : Hid ((w3.setCell ⟨ob, 1, none⟩ (.slice xa (body.length + 1) xc)).heap[w.heap.size]? = some (Obj.cells #[.int .i64 0, .slice none 0 0] 39) ∧ (w3.setCell ⟨ob, 1, none⟩ (.slice xa (body.length + 1) xc)).heap[ob]? = some (.cells #[.int .i64 n, .slice xa (body.length + 1) xc] 39) ∧ (w3.setCell ⟨ob, 1, none⟩ (.slice xa (body.length + 1) xc)).ownsRow (ob + 1) 42 2 (.slice xa (body.length + 1) xc) (body ++ [(2, m)]).length (scs (body ++ [(2, m)])) ∧ Below w.heap.size w (w3.setCell ⟨ob, 1, none⟩ (.slice xa (body.length + 1) xc))) := by
                      have hob := HM0L.out
                      have hr1 : w3.heap[w.heap.size]? = some (Obj.cells #[.int .i64 0, .slice none 0 0] 39) := by
                        rw [hgrow.block w.heap.size (by simp; omega) (HNO.out _ (by omega)), (below_alloc wr _).block _ (by omega)]
                        exact HMM.out.1
                      refine ⟨by rw [Below.heap_setCell _ _ _ _ (by simp; omega)]; exact hr1, ?_, ?_, ?_⟩
                      · have := block_store (i := 1) hb3 (.slice xa (body.length + 1) xc)
                        simpa using this
                      · refine own_keep (xs := scs (body ++ [(2, m)])) (by rw [scs_snoc2, List.length_append]; exact hown') fun b hb => ?_
                        have := own_ge hown' b hb
                        rw [Below.heap_setCell _ _ _ _ (by simp; omega)]
                      · have hbw : Below w.heap.size w w3 := ⟨hgrow.os.trans HMM.out.2.2.2.os, hgrow.tape.trans HMM.out.2.2.2.tape, hgrow.output.trans HMM.out.2.2.2.output, Nat.le_trans HMM.out.2.2.2.size (Nat.le_trans (below_alloc wr _).size hgrow.size), fun k hk => by
                          rw [hgrow.block k (by simp; omega) (HNO.out k (by omega)), (below_alloc wr _).block k (by omega)]
                          exact HMM.out.2.2.2.block k hk⟩
                        exact hbw.setCell (p := ⟨ob, 1, none⟩) (by show w.heap.size ≤ ob; omega) _
                    clear hown' hgrow hown hb3 c1 HBX HNO HMM
                    go_wp2_with fail
                    go_roundw
                    case rel => exact ⟨e, body ++ [(2, m)], _, f2, rfl, he2, by simp; omega, HNX, HNM⟩
                    case measure => simp [intOf]; omega
                · have bn2 : ((s[p + 1].toNat : Int) == 110) = false := by simp; omega
                  have HKD : Hid (kindAt s.data.toList (p + 1) = 0) := by
                    show _ = _
                    unfold kindAt
                    rw [HG1.out, if_neg (fun e => hn2 (by rw [e]; rfl)), if_neg (fun e => ht (by rw [e]; rfl))]
                  have hc9 := Small9_any s (p + 2) wr (by omega) hs
                  obtain ⟨m, e, HME⟩ : ∃ m e, Hid (small9 s.data.toList (p + 2) = (m, e)) := ⟨_, _, (rfl : small9 s.data.toList (p + 2) = small9 s.data.toList (p + 2))⟩
                  rw [HME.out] at hc9
                  go_wp2_with fail
                  refine hc9.mono ?_
                  rintro _ w9 ⟨rfl, h99⟩
                  have h98 := h99.symm
                  subst h98
                  clear hc9 h99
                  have HN : Hid (pq = none) := by
                    show _ = _
                    have h1 := HF.out.2
                    rw [HFF.out, HBS.out, HME.out, if_pos (Or.inl HKD.out)] at h1
                    rw [HP2.out, show bq = none from h1]
                  have hrb : wr.heap[w.heap.size]? = some (Obj.cells #[.int .i64 0, .slice none 0 0] 39) := HMM.out.1
                  obtain rfl : pq = none := HN.out
                  have r1 := block_store (i := 0) hrb (.int .i64 0)
                  have r2 := block_store (i := 1) r1 (.slice none 0 0)
                  simp only [List.setIfInBounds_toArray, List.set_cons_zero, List.set_cons_succ] at r1 r2
                  have y0 := cell_blk hrb 0
                  have y1 := cell_blk r1 1
                  have v0 := cell_blk r2 0
                  have v1 := cell_blk r2 1
                  have f0 := frozen_blk hrb 0
                  have f1 := frozen_blk r1 1
                  simp only [List.getElem?_toArray, List.getElem?_cons_zero, List.getElem?_cons_succ] at y0 y1 v0 v1
                  have HFIN : Hid (Below w.heap.size w ((wr.setCell ⟨w.heap.size, 0, none⟩ (.int .i64 0)).setCell ⟨w.heap.size, 1, none⟩ (.slice none 0 0))) := (HMM.out.2.2.2.setCell (p := ⟨w.heap.size, 0, none⟩) (Nat.le_refl _) _).setCell (p := ⟨w.heap.size, 1, none⟩) (Nat.le_refl _) _
                  clear hrb r1 r2
                  go_wp2_with fail
                  exact bodyPost_ret (v := .tuple #[.agg #[.int .i64 0, .slice none 0 0], .bool false]) (by simp [results, Tryd.results23, go_sem, v0, v1]) rfl ⟨0, [], none, 0, rfl, trivial, fun h => absurd h (by decide), syms_nil _, fun q hq => by simp [Value.ownBlock] at hq, HFIN.out⟩
            · have b3 : decide ((p : Int) + 1 < (s.size : Int)) = false := by simp; omega
              have HKD : Hid (kindAt s.data.toList (p + 1) = 0) := by
                show _ = _
                unfold kindAt
                rw [getD_out s (p + 1) (by omega)]; decide
              have hc9 := Small9_any s (p + 2) wr (by omega) hs
              obtain ⟨m, e, HME⟩ : ∃ m e, Hid (small9 s.data.toList (p + 2) = (m, e)) := ⟨_, _, (rfl : small9 s.data.toList (p + 2) = small9 s.data.toList (p + 2))⟩
              rw [HME.out] at hc9
              go_wp2_with fail
              refine hc9.mono ?_
              rintro _ w9 ⟨rfl, h99⟩
              have h98 := h99.symm
              subst h98
              clear hc9 h99
              have HN : Hid (pq = none) := by
                show _ = _
                have h1 := HF.out.2
                rw [HFF.out, HBS.out, HME.out, if_pos (Or.inl HKD.out)] at h1
                rw [HP2.out, show bq = none from h1]
              have hrb : wr.heap[w.heap.size]? = some (Obj.cells #[.int .i64 0, .slice none 0 0] 39) := HMM.out.1
              obtain rfl : pq = none := HN.out
              have r1 := block_store (i := 0) hrb (.int .i64 0)
              have r2 := block_store (i := 1) r1 (.slice none 0 0)
              simp only [List.setIfInBounds_toArray, List.set_cons_zero, List.set_cons_succ] at r1 r2
              have y0 := cell_blk hrb 0
              have y1 := cell_blk r1 1
              have v0 := cell_blk r2 0
              have v1 := cell_blk r2 1
              have f0 := frozen_blk hrb 0
              have f1 := frozen_blk r1 1
              simp only [List.getElem?_toArray, List.getElem?_cons_zero, List.getElem?_cons_succ] at y0 y1 v0 v1
              have HFIN : Hid (Below w.heap.size w ((wr.setCell ⟨w.heap.size, 0, none⟩ (.int .i64 0)).setCell ⟨w.heap.size, 1, none⟩ (.slice none 0 0))) := (HMM.out.2.2.2.setCell (p := ⟨w.heap.size, 0, none⟩) (Nat.le_refl _) _).setCell (p := ⟨w.heap.size, 1, none⟩) (Nat.le_refl _) _
              clear hrb r1 r2
              go_wp2_with fail
              exact bodyPost_ret (v := .tuple #[.agg #[.int .i64 0, .slice none 0 0], .bool false]) (by simp [results, Tryd.results23, go_sem, v0, v1]) rfl ⟨0, [], none, 0, rfl, trivial, fun h => absurd h (by decide), syms_nil _, fun q hq => by simp [Value.ownBlock] at hq, HFIN.out⟩
          · have HBE : Hid (bq = some (body, p)) := by
              show _ = _
              rw [HF.out.2]
              obtain ⟨f2, hf2⟩ : ∃ f2, f = f2 + 1 := ⟨f - 1, by have := HF.out.1; omega⟩
              have hno : ¬ s.data.toList.getD p 0 = 32 := fun h => by
                by_cases hp : p < s.size
                · exact hsp ⟨hp, h⟩
                · rw [getD_out s p (by omega)] at h; cases h
              rw [hf2, bodyQ, if_neg hno]
              simp [pre]
            have HPE : Hid (pq = if p + 1 = s.size ∧ s.data.toList.getD p 0 = 10 then some (n, body) else none) := by show _ = _; rw [HP2.out, HBE.out]
            have hobl := heap_lt HMM.out.2.1
            have c0 := cell_blk HMM.out.2.1 0
            have c1 := cell_blk HMM.out.2.1 1
            have hrb := HMM.out.1
            have r1 := block_store (i := 0) hrb (.int .i64 n)
            have r2 := block_store (i := 1) r1 (.slice ba body.length bc)
            simp only [List.setIfInBounds_toArray, List.set_cons_zero, List.set_cons_succ] at r1 r2
            have y0 := cell_blk hrb 0
            have y1 := cell_blk r1 1
            have v0 := cell_blk r2 0
            have v1 := cell_blk r2 1
            have f0 := frozen_blk hrb 0
            have f1 := frozen_blk r1 1
            simp only [List.getElem?_toArray, List.getElem?_cons_zero, List.getElem?_cons_succ] at c0 c1 y0 y1 v0 v1
            have HFIN : Hid (Syms ((wr.setCell ⟨w.heap.size, 0, none⟩ (.int .i64 n)).setCell ⟨w.heap.size, 1, none⟩ (.slice ba body.length bc)) (.slice ba body.length bc) body ∧ Nw w ((wr.setCell ⟨w.heap.size, 0, none⟩ (.int .i64 n)).setCell ⟨w.heap.size, 1, none⟩ (.slice ba body.length bc)) (.slice ba body.length bc) ∧ Below w.heap.size w ((wr.setCell ⟨w.heap.size, 0, none⟩ (.int .i64 n)).setCell ⟨w.heap.size, 1, none⟩ (.slice ba body.length bc))) := by
              have hob := HM0L.out
              have hown := HMM.out.2.2.1
              refine ⟨syms_of_own (own_keep hown fun b hb => ?_) (by omega), fun k hk => ⟨by have := own_ge hown k hk; omega, by have := (hown.lt k hk).2; simpa using this⟩, (HMM.out.2.2.2.setCell (p := ⟨w.heap.size, 0, none⟩) (Nat.le_refl _) _).setCell (p := ⟨w.heap.size, 1, none⟩) (Nat.le_refl _) _⟩
              have := own_ge hown b hb
              rw [Below.heap_setCell _ _ _ _ (by simp; omega), Below.heap_setCell _ _ _ _ (by simp; omega)]
            clear hrb r1 r2 HMM HF
            by_cases hp : p < s.size
            · have b1 : decide ((p : Int) < (s.size : Int)) = true := by simp; omega
              have hpi : (p : Int) < (s.size : Int) := by omega
              have HG0 : Hid (s.data.toList.getD p 0 = s[p]) := getD_get s p hp
              have hn32 : ¬ s[p].toNat = 32 := fun h => hsp ⟨hp, by rw [HG0.out]; exact (byte_is _ 32 (by omega)).1 h⟩
              have b2 : ((s[p].toNat : Int) == 32) = false := by simp; omega
              clear hsp
              by_cases hpe : p + 1 = s.size
              · have b3 : ((p : Int) == (s.size : Int) - 1) = true := by simp; omega
                by_cases h10 : s[p].toNat = 10
                · have b4 : ((s[p].toNat : Int) == 10) = true := by simp; omega
                  have HY : Hid (pq = some (n, body)) := by show _ = _; rw [HPE.out, if_pos ⟨hpe, by rw [HG0.out]; exact (byte_is _ 10 (by omega)).1 h10⟩]
                  clear hpe h10 hn32
                  go_wp2_with (go_region)
                  exact bodyPost_ret (v := .tuple #[.agg #[.int .i64 n, .slice ba body.length bc], .bool true]) (by simp [results, Tryd.results23, go_sem, v0, v1]) rfl ⟨n, body, ba, bc, (by rw [HY.out]; rfl), trivial, fun _ => HY.out, by exact HFIN.out.1, by exact HFIN.out.2.1, by exact HFIN.out.2.2.drew⟩
                · have b4 : ((s[p].toNat : Int) == 10) = false := by simp; omega
                  have HY : Hid (pq = none) := by show _ = _; rw [HPE.out, if_neg (fun h => h10 (by rw [← HG0.out, h.2]; rfl))]
                  clear hpe h10 hn32
                  go_wp2_with (go_region)
                  exact bodyPost_ret (v := .tuple #[.agg #[.int .i64 n, .slice ba body.length bc], .bool false]) (by simp [results, Tryd.results23, go_sem, v0, v1]) rfl ⟨n, body, ba, bc, (by rw [HY.out]; rfl), trivial, fun h => (by rw [HY.out] at h; cases h), by exact HFIN.out.1, by exact HFIN.out.2.1, by exact HFIN.out.2.2.drew⟩
              · have b3 : ((p : Int) == (s.size : Int) - 1) = false := by simp; omega
                have HY : Hid (pq = none) := by show _ = _; rw [HPE.out, if_neg (fun h => hpe h.1)]
                clear hpe hn32
                go_wp2_with (go_region)
                exact bodyPost_ret (v := .tuple #[.agg #[.int .i64 n, .slice ba body.length bc], .bool false]) (by simp [results, Tryd.results23, go_sem, v0, v1]) rfl ⟨n, body, ba, bc, (by rw [HY.out]; rfl), trivial, fun h => (by rw [HY.out] at h; cases h), by exact HFIN.out.1, by exact HFIN.out.2.1, by exact HFIN.out.2.2.drew⟩
            · have b1 : decide ((p : Int) < (s.size : Int)) = false := by simp; omega
              have b3 : ((p : Int) == (s.size : Int) - 1) = false := by simp; omega
              have HY : Hid (pq = none) := by show _ = _; rw [HPE.out, if_neg (fun h => by omega)]
              clear hsp
              go_wp2_with (go_region)
              exact bodyPost_ret (v := .tuple #[.agg #[.int .i64 n, .slice ba body.length bc], .bool false]) (by simp [results, Tryd.results23, go_sem, v0, v1]) rfl ⟨n, body, ba, bc, (by rw [HY.out]; rfl), trivial, fun h => (by rw [HY.out] at h; cases h), by exact HFIN.out.1, by exact HFIN.out.2.1, by exact HFIN.out.2.2.drew⟩
      · have bc : ((s[a].toNat : Int) != 58) = true := by simp; omega
        have HN : Hid (pq = none) := by
          show _ = _
          rw [HP.out, if_pos (Or.inr (by rw [getD_get s a hal2]; intro h; exact h58 ((byte_is _ 58 (by omega)).2 h)))]
        have hrb : w0.heap[w.heap.size]? = some (Obj.cells #[.int .i64 0, .slice none 0 0] 39) := HB0.out.2
        obtain rfl : pq = none := HN.out
        have r1 := block_store (i := 0) hrb (.int .i64 0)
        have r2 := block_store (i := 1) r1 (.slice none 0 0)
        simp only [List.setIfInBounds_toArray, List.set_cons_zero, List.set_cons_succ] at r1 r2
        have y0 := cell_blk hrb 0
        have y1 := cell_blk r1 1
        have v0 := cell_blk r2 0
        have v1 := cell_blk r2 1
        have f0 := frozen_blk hrb 0
        have f1 := frozen_blk r1 1
        simp only [List.getElem?_toArray, List.getElem?_cons_zero, List.getElem?_cons_succ] at y0 y1 v0 v1
        have HFIN : Hid (Below w.heap.size w ((w0.setCell ⟨w.heap.size, 0, none⟩ (.int .i64 0)).setCell ⟨w.heap.size, 1, none⟩ (.slice none 0 0))) := (HB0.out.1.setCell (p := ⟨w.heap.size, 0, none⟩) (Nat.le_refl _) _).setCell (p := ⟨w.heap.size, 1, none⟩) (Nat.le_refl _) _
        clear hrb r1 r2
        go_wp2_with fail
        exact bodyPost_ret (v := .tuple #[.agg #[.int .i64 0, .slice none 0 0], .bool false]) (by simp [results, Tryd.results23, go_sem, v0, v1]) rfl ⟨0, [], none, 0, rfl, trivial, fun h => absurd h (by decide), syms_nil _, fun q hq => by simp [Value.ownBlock] at hq, HFIN.out⟩

end Go.Proofs.YtgoafahglajfmaaDoor
