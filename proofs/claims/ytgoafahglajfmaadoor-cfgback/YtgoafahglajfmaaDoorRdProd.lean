/-
  The contract of cfg.readProd.
-/
import Derived.Test.YtgoafahglajfmaaDoorRdBody
namespace Go.Proofs.YtgoafahglajfmaaDoor
open Go.RowKit
open Cg

theorem heap_lt {w : World} {k : Nat} {o : Obj} (h : w.heap[k]? = some o) : k < w.heap.size := by
  rcases Nat.lt_or_ge k w.heap.size with h' | h'
  · exact h'
  · rw [Array.getElem?_eq_none h'] at h; cases h
theorem sp_len (c : UInt8) : ∀ l : List UInt8, ∀ p ∈ sp c l, p.length ≤ l.length
  | [], p, hp => by simp [sp] at hp; subst hp; simp
  | b :: l, p, hp => by
    have ih := sp_len c l
    unfold sp at hp
    split at hp
    · rcases List.mem_cons.1 hp with rfl | hp
      · simp
      · have := ih p hp; simp; omega
    · cases hs : sp c l with
      | nil => exact absurd hs (sp_ne c l)
      | cons h t =>
        rw [hs] at hp ih
        simp only at hp
        rcases List.mem_cons.1 hp with rfl | hp
        · have := ih h (by simp); simp; omega
        · have := ih p (by simp [hp]); simp; omega
theorem cutC_len (c : UInt8) : ∀ l : List UInt8, (cutC c l).1.length ≤ l.length ∧ (cutC c l).2.1.length ≤ l.length
  | [] => by simp [cutC, sp]
  | b :: l => by
    have ih := cutC_len c l
    by_cases h : b = c
    · subst h; rw [cutC_cons_eq]; simp
    · rw [cutC_cons_ne h]; simp; omega
theorem size_list (l : List UInt8) : (⟨l.toArray⟩ : ByteArray).size = l.length := rfl
set_option maxHeartbeats 3200000 in
set_option maxRecDepth 20000 in
theorem readProd_any (s : ByteArray) (w : World) (hs : s.size ≤ 4096) (hm : Mx w) :
    Calls Tryd.prog 33 #[.string s] w fun e w' => ∃ va vc, e = .returned (.tuple #[.agg #[.int .i64 (prodR s.data.toList).1.1, .slice va (prodR s.data.toList).1.2.length vc], .bool (prodR s.data.toList).2]) ∧ Syms w' (.slice va (prodR s.data.toList).1.2.length vc) (prodR s.data.toList).1.2 ∧ Nw w w' (.slice va (prodR s.data.toList).1.2.length vc) ∧ Below w.heap.size w w' := by
  obtain ⟨x, body, ok, HR⟩ : ∃ x body ok, Hid (prodR s.data.toList = ((x, body), ok)) := ⟨_, _, _, (rfl : prodR s.data.toList = prodR s.data.toList)⟩
  rw [HR.out]
  obtain ⟨a, b, f, HC⟩ : ∃ a b f, Hid (cutC 58 s.data.toList = (a, b, f)) := ⟨_, _, _, (rfl : cutC 58 s.data.toList = cutC 58 s.data.toList)⟩
  obtain ⟨y, k, HX⟩ : ∃ y k, Hid (numR a = (y, k)) := ⟨(numR a).1, (numR a).2, (rfl : numR a = numR a)⟩
  obtain ⟨bb, bk, HBO⟩ : ∃ bb bk, Hid (bodyR b = (bb, bk)) := ⟨_, _, (rfl : bodyR b = bodyR b)⟩
  have HP : Hid (((x, body), ok) = if f = true ∧ k = true then ((y, bb), bk) else ((0, []), false)) := by
    show _ = _
    rw [← HR.out]; unfold prodR; rw [HC.out]; simp only []; rw [HX.out, HBO.out]
  have HSB : Hid (b.length ≤ 4096) := by
    show _ ≤ _
    have h1 := (cutC_len 58 s.data.toList).2
    rw [HC.out, data_size] at h1
    simp only [] at h1; omega
  have HM0 : Hid (Mx (w.alloc (Obj.cells #[.int .i64 0, .slice none 0 0] 39))) := hm.below (below_alloc _ _)
  have hc := cut_any s 58 a b f HC.out hs (w.alloc (Obj.cells #[.int .i64 0, .slice none 0 0] 39)) HM0.out
  have HB0 : Hid (Below w.heap.size w (w.alloc (Obj.cells #[.int .i64 0, .slice none 0 0] 39)) ∧ (w.alloc (Obj.cells #[.int .i64 0, .slice none 0 0] 39)).heap[w.heap.size]? = some (Obj.cells #[.int .i64 0, .slice none 0 0] 39)) := ⟨below_alloc _ _, heap_alloc_new _ _⟩
  clear hs hm
  go_enter Tryd.func33, Tryd.ntmps33
  go_wp2_with fail
  refine hc.mono ?_
  rintro _ w1 ⟨rfl, hb⟩
  have hsz : w.heap.size ≤ (w.alloc (Obj.cells #[.int .i64 0, .slice none 0 0] 39)).heap.size := by simp
  have HB1 : Hid (Below w.heap.size w w1 ∧ w1.heap[w.heap.size]? = some (Obj.cells #[.int .i64 0, .slice none 0 0] 39) ∧ Mx w1) := ⟨HB0.out.1.trans (hb.mono hsz), box_next HB0.out.2 hb, HM0.out.below hb⟩
  clear hc hb HB0 HM0 hsz
  go_wp2_with fail
  refine (num_list a _ y k HX.out).mono ?_
  rintro _ w2 ⟨rfl, rfl⟩
  by_cases hfk : f = true ∧ k = true
  · obtain ⟨rfl, rfl⟩ := hfk
    have he := HP.out
    simp only [and_self, if_true, Prod.mk.injEq] at he
    obtain ⟨⟨rfl, rfl⟩, rfl⟩ := he
    have hcb := readBody_any ⟨b.toArray⟩ w2 (by rw [size_list]; exact HSB.out) HB1.out.2.2
    simp only [] at hcb
    rw [HBO.out] at hcb
    go_wp2_with fail
    refine hcb.mono ?_
    rintro _ w3 ⟨va, vc, rfl, hsy, hnw, hb3⟩
    have hrb : w3.heap[w.heap.size]? = some (Obj.cells #[.int .i64 0, .slice none 0 0] 39) := box_next HB1.out.2.1 hb3
    have HLT : Hid (w.heap.size < w2.heap.size) := heap_lt HB1.out.2.1
    have HF : Hid (Syms w3 (.slice va body.length vc) body ∧ Nw w2 w3 (.slice va body.length vc) ∧ Below w.heap.size w w3) := ⟨hsy, hnw, HB1.out.1.trans (hb3.mono HB1.out.1.size)⟩
    clear hcb hb3 hsy hnw
    have r1 := block_store (i := 0) hrb (.int .i64 x)
    have r2 := block_store (i := 1) r1 (.slice va body.length vc)
    simp only [List.setIfInBounds_toArray, List.set_cons_zero, List.set_cons_succ] at r1 r2
    have y0 := cell_blk hrb 0
    have y1 := cell_blk r1 1
    have v0 := cell_blk r2 0
    have v1 := cell_blk r2 1
    have f0 := frozen_blk hrb 0
    have f1 := frozen_blk r1 1
    simp only [List.getElem?_toArray, List.getElem?_cons_zero, List.getElem?_cons_succ] at y0 y1 v0 v1
    have HFIN : Hid (Syms ((w3.setCell ⟨w.heap.size, 0, none⟩ (.int .i64 x)).setCell ⟨w.heap.size, 1, none⟩ (.slice va body.length vc)) (.slice va body.length vc) body ∧ Nw w ((w3.setCell ⟨w.heap.size, 0, none⟩ (.int .i64 x)).setCell ⟨w.heap.size, 1, none⟩ (.slice va body.length vc)) (.slice va body.length vc) ∧ Below w.heap.size w ((w3.setCell ⟨w.heap.size, 0, none⟩ (.int .i64 x)).setCell ⟨w.heap.size, 1, none⟩ (.slice va body.length vc))) := by
      have hszz : ((w3.setCell ⟨w.heap.size, 0, none⟩ (.int .i64 x)).setCell ⟨w.heap.size, 1, none⟩ (.slice va body.length vc)).heap.size = w3.heap.size := by simp [World.setCell]
      refine ⟨HF.out.1.same (fun q hq => ?_) (by rw [hszz]; exact Nat.le_refl _), fun q hq => ?_, (HF.out.2.2.setCell (p := ⟨w.heap.size, 0, none⟩) (Nat.le_refl _) _).setCell (p := ⟨w.heap.size, 1, none⟩) (Nat.le_refl _) _⟩
      · have := (HF.out.2.1 q hq).1
        have h2 := HLT.out
        rw [Below.heap_setCell _ _ _ _ (by simp; omega), Below.heap_setCell _ _ _ _ (by simp; omega)]
      · have := HF.out.2.1 q hq
        have h2 := HLT.out
        rw [hszz]; omega
    clear hrb r1 r2
    go_wp2_with fail
    exact bodyPost_ret (v := .tuple #[.agg #[.int .i64 x, .slice va body.length vc], .bool ok]) (by simp [results, Tryd.results33, go_sem, v0, v1]) rfl ⟨va, vc, rfl, HFIN.out.1, HFIN.out.2.1, HFIN.out.2.2⟩
  · have he := HP.out
    rw [if_neg hfk] at he
    simp only [Prod.mk.injEq] at he
    obtain ⟨⟨rfl, rfl⟩, rfl⟩ := he
    have hrb : w2.heap[w.heap.size]? = some (Obj.cells #[.int .i64 0, .slice none 0 0] 39) := HB1.out.2.1
    have HFIN : Hid (Below w.heap.size w ((w2.setCell ⟨w.heap.size, 0, none⟩ (.int .i64 0)).setCell ⟨w.heap.size, 1, none⟩ (.slice none 0 0))) := (HB1.out.1.setCell (p := ⟨w.heap.size, 0, none⟩) (Nat.le_refl _) _).setCell (p := ⟨w.heap.size, 1, none⟩) (Nat.le_refl _) _
    cases f with
    | false =>
      have r1 := block_store (i := 0) hrb (.int .i64 0)
      have r2 := block_store (i := 1) r1 (.slice none 0 0)
      simp only [List.setIfInBounds_toArray, List.set_cons_zero, List.set_cons_succ] at r1 r2
      have y0 := cell_blk hrb 0
      have y1 := cell_blk r1 1
      have v0 := cell_blk r2 0
      have v1 := cell_blk r2 1
      have f0 := frozen_blk hrb 0
      have f1 := frozen_blk r1 1
      simp only [List.getElem?_toArray, List.getElem?_cons_zero, List.getElem?_cons_succ] at y0 y1 v0 v1
      clear hfk
      clear hrb r1 r2
      go_wp2_with fail
      exact bodyPost_ret (v := .tuple #[.agg #[.int .i64 0, .slice none 0 0], .bool false]) (by simp [results, Tryd.results33, go_sem, v0, v1]) rfl ⟨none, 0, rfl, syms_nil _, fun q hq => by simp [Value.ownBlock] at hq, HFIN.out⟩
    | true =>
      cases k with
      | true => exact absurd ⟨rfl, rfl⟩ hfk
      | false =>
        have r1 := block_store (i := 0) hrb (.int .i64 0)
        have r2 := block_store (i := 1) r1 (.slice none 0 0)
        simp only [List.setIfInBounds_toArray, List.set_cons_zero, List.set_cons_succ] at r1 r2
        have y0 := cell_blk hrb 0
        have y1 := cell_blk r1 1
        have v0 := cell_blk r2 0
        have v1 := cell_blk r2 1
        have f0 := frozen_blk hrb 0
        have f1 := frozen_blk r1 1
        simp only [List.getElem?_toArray, List.getElem?_cons_zero, List.getElem?_cons_succ] at y0 y1 v0 v1
        clear hfk
        clear hrb r1 r2
        go_wp2_with fail
        exact bodyPost_ret (v := .tuple #[.agg #[.int .i64 0, .slice none 0 0], .bool false]) (by simp [results, Tryd.results33, go_sem, v0, v1]) rfl ⟨none, 0, rfl, syms_nil _, fun q hq => by simp [Value.ownBlock] at hq, HFIN.out⟩
end Go.Proofs.YtgoafahglajfmaaDoor
