/-
  The contract of pushref.ReadCfg.
-/
import Derived.Test.YtgoafahglajfmaaDoorRfMath
import Derived.Test.YtgoafahglajfmaaDoorRProd
import Derived.Test.YtgoafahglajfmaaDoorRead
import Derived.Deep.AppendLies
namespace Go.Proofs.YtgoafahglajfmaaDoor
open Go.RowKit
open Cg

namespace Cg
theorem ref_none (l : List UInt8) (r : List (List UInt8)) (h : countsQ l = none) : refQ (l :: r) = (zst, 1, 6) := by unfold refQ; simp only []; rw [h]
theorem ref_some (l : List UInt8) (r : List (List UInt8)) (a b : Int) (h : countsQ l = some (a, b)) (ps : List Pd) (k : Nat) (f : Bool) (h2 : rdQ 2 [] r = (ps, k, f)) : refQ (l :: r) = if f = true then (if chk a b ps = 0 then (⟨a, b, ps⟩, 0, 0) else (zst, 0, chk a b ps)) else (zst, (k : Int), 6) := by unfold refQ; simp only []; rw [h, h2]
def stepQ (pq : Option Pd) (ps : List Pd) (k : Nat) (r : List (List UInt8)) : List Pd × Nat × Bool := match pq with
  | none => (ps, k, false)
  | some p => rdQ (k + 1) (ps ++ [p]) r
theorem rdQ_cons (k : Nat) (ps : List Pd) (l : List UInt8) (r : List (List UInt8)) : rdQ k ps (l :: r) = stepQ (prodQ l) ps k r := rfl
theorem lnR_len {n : Nat} : ∀ tl : List (List UInt8), (∀ p ∈ tl, p.length ≤ n) → ∀ q ∈ lnR tl, q.length ≤ n + 1
  | [], _, q, hq => by simp [lnR] at hq
  | [p], h, q, hq => by
    have hp := h p List.mem_cons_self
    rw [lnR] at hq
    split at hq
    · simp at hq
    · have := List.mem_singleton.1 hq; rw [this]; omega
  | p :: p2 :: r, h, q, hq => by
    rw [lnR] at hq
    rcases List.mem_cons.1 hq with e | e
    · have hp := h p List.mem_cons_self
      rw [e]; simp; omega
    · exact lnR_len (p2 :: r) (fun x hx => h x (List.mem_cons_of_mem _ hx)) q e
end Cg
set_option maxHeartbeats 12000000 in
set_option maxRecDepth 20000 in
theorem ReadCfg_any (s : ByteArray) (w : World) (rt rn : Int) (rps : List Pd) (line err : Int) (hr : readR s.data.toList = (⟨rt, rn, rps⟩, line, err)) :
    Calls Tryd.prog 10 #[.string s] w fun e w' => ∃ a c, e = .returned (.tuple #[.agg #[.int .i64 rt, .int .i64 rn, .slice a rps.length c], .int .i64 line, .int .i64 err]) ∧ Pds w' (.slice a rps.length c) rps ∧ Below w.heap.size w w' := by
  by_cases hl : 4096 < s.size
  · have b0 : decide ((4096 : Int) < (s.size : Int)) = true := by simp; omega
    have hre := hr.symm
    unfold readR at hre
    rw [if_pos (by rw [data_size]; exact hl)] at hre
    clear hr
    have hrb : (w.alloc (Obj.cells #[.int .i64 0, .int .i64 0, .slice none 0 0] 24)).heap[w.heap.size]? = some (Obj.cells #[.int .i64 0, .int .i64 0, .slice none 0 0] 24) := heap_alloc_new _ _
    go_enter Tryd.func10, Tryd.ntmps10
    simp only [Prod.mk.injEq] at hre
    obtain ⟨hre1, rfl, rfl⟩ := hre
    obtain ⟨rfl, rfl, rfl⟩ := zst_parts hre1
    clear hre1 hrb
    go_wp2_with fail
    exact bodyPost_ret (v := .tuple #[.agg #[.int .i64 0, .int .i64 0, .slice none 0 0], .int .i64 0, .int .i64 2]) (by simp [results, Tryd.results10, go_sem]) rfl ⟨none, 0, rfl, pds_nil _, below_alloc _ _⟩
  · have b0 : decide ((4096 : Int) < (s.size : Int)) = false := by simp; omega
    have HRE : Hid ((⟨rt, rn, rps⟩, line, err) = refQ (lnR (sp 10 s.data.toList))) := by show _ = _; rw [ref_same _ (by rw [data_size]; exact hl)]; exact hr.symm
    have HB0 : Hid (Below w.heap.size w (w.alloc (Obj.cells #[.int .i64 0, .int .i64 0, .slice none 0 0] 24)) ∧ (w.alloc (Obj.cells #[.int .i64 0, .int .i64 0, .slice none 0 0] 24)).heap[w.heap.size]? = some (Obj.cells #[.int .i64 0, .int .i64 0, .slice none 0 0] 24)) := ⟨below_alloc _ _, heap_alloc_new _ _⟩
    obtain ⟨i1, hi1, hy0, hy1, hy2⟩ := info_parts info39
    have hc := Lines_any s (w.alloc (Obj.cells #[.int .i64 0, .int .i64 0, .slice none 0 0] 24)) (by omega)
    have HSL : Hid (s.size ≤ 4096) := by show _ ≤ _; omega
    clear hr hl
    go_enter Tryd.func10, Tryd.ntmps10
    go_wp2_with fail
    refine hc.mono ?_
    rintro _ w2 ⟨ls, la, lc, rfl, hls, hln, hst, hb⟩
    clear hc b0
    have HRB : Hid (w2.heap[w.heap.size]? = some (Obj.cells #[.int .i64 0, .int .i64 0, .slice none 0 0] 24) ∧ Below w.heap.size w w2) := ⟨(hb.block _ (heap_lt HB0.out.2)).trans HB0.out.2, HB0.out.1.trans (hb.mono HB0.out.1.size)⟩
    have HR2 : Hid ((⟨rt, rn, rps⟩, line, err) = refQ (ls.map (·.data.toList))) := by show _ = _; rw [hls]; exact HRE.out
    have HLN : Hid (∀ l ∈ ls, l.size ≤ 4097) := fun l hl => by
      have h1 : l.data.toList ∈ lnR (sp 10 s.data.toList) := by rw [← hls]; exact List.mem_map_of_mem hl
      have h2 := lnR_len (n := s.size) _ (fun p hp => by have := sp_len 10 s.data.toList p hp; rw [data_size] at this; exact this) _ h1
      rw [data_size] at h2
      have := HSL.out
      omega
    have HST : Hid (Strs w2 (.slice la ls.length lc) ls) := hst
    clear hb hls hst HRE HB0
    obtain ⟨n, HNL⟩ : ∃ n, Hid (ls.length = n) := ⟨_, (rfl : ls.length = ls.length)⟩
    rw [HNL.out] at hln ⊢
    by_cases hn0 : n = 0
    · subst hn0
      have hre := HR2.out
      rw [List.length_eq_zero_iff.1 HNL.out] at hre
      have hrb : w2.heap[w.heap.size]? = some (Obj.cells #[.int .i64 0, .int .i64 0, .slice none 0 0] 24) := HRB.out.1
      rw [show refQ (List.map (·.data.toList) ([] : List ByteArray)) = (zst, 1, 6) from rfl] at hre
      simp only [Prod.mk.injEq] at hre
      obtain ⟨hre1, rfl, rfl⟩ := hre
      obtain ⟨rfl, rfl, rfl⟩ := zst_parts hre1
      clear hre1
      have r1 := block_store (i := 0) hrb (.int .i64 0)
      have r2 := block_store (i := 1) r1 (.int .i64 0)
      have r3 := block_store (i := 2) r2 (.slice none 0 0)
      simp only [List.setIfInBounds_toArray, List.set_cons_zero, List.set_cons_succ] at r1 r2 r3
      have y0 := cell_blk hrb 0
      have y1 := cell_blk r1 1
      have y2 := cell_blk r2 2
      have v0 := cell_blk r3 0
      have v1 := cell_blk r3 1
      have v2 := cell_blk r3 2
      have f0 := frozen_blk hrb 0
      have f1 := frozen_blk r1 1
      have f2 := frozen_blk r2 2
      simp only [List.getElem?_toArray, List.getElem?_cons_zero, List.getElem?_cons_succ] at y0 y1 y2 v0 v1 v2
      have HFIN : Hid (Below w.heap.size w ((((w2).setCell ⟨w.heap.size, 0, none⟩ (.int .i64 0)).setCell ⟨w.heap.size, 1, none⟩ (.int .i64 0)).setCell ⟨w.heap.size, 2, none⟩ (.slice none 0 0))) := (((HRB.out.2).setCell (p := ⟨w.heap.size, 0, none⟩) (Nat.le_refl _) _).setCell (p := ⟨w.heap.size, 1, none⟩) (Nat.le_refl _) _).setCell (p := ⟨w.heap.size, 2, none⟩) (Nat.le_refl _) _
      clear hrb r1 r2 r3
      go_wp2_with fail
      exact bodyPost_ret (v := .tuple #[.agg #[.int .i64 0, .int .i64 0, .slice none 0 0], .int .i64 1, .int .i64 6]) (by simp [results, Tryd.results10, go_sem, v0, v1, v2]) rfl ⟨none, 0, rfl, pds_nil _, HFIN.out⟩
    · have b1 : ((n : Int) == 0) = false := by simp; omega
      have hnp : (0 : Int) < (n : Int) := by omega
      obtain ⟨l0, tl, HLS⟩ : ∃ l0 tl, Hid (ls = l0 :: tl) := by
        cases e : ls with
        | nil => exact absurd (by rw [← HNL.out, e]; rfl) hn0
        | cons a t => exact ⟨a, t, rfl⟩
      have HDS : Hid (ls.map (·.data.toList) = l0.data.toList :: tl.map (·.data.toList)) := by show _ = _; rw [HLS.out]; rfl
      obtain ⟨b, o, rfl, hbl, HCS⟩ : ∃ b o, la = some ⟨b, o, none⟩ ∧ b < w2.heap.size ∧ Hid (∀ i, i < n → w2.cell? ⟨b, o + i, none⟩ = some (.string (ls.getD i ByteArray.empty))) := by
        obtain ⟨ao, cap, e1, -, h | ⟨b, o, h1, h2, h3⟩⟩ := HST.out
        · exact absurd (by rw [← HNL.out, h]; rfl) hn0
        · refine ⟨b, o, ?_, h2, fun i hi => h3 i (by rw [HNL.out]; exact hi)⟩
          injection e1 with e2
          rw [e2, h1]
      have c0 : (w2.alloc (Obj.cells #[.int .i64 0, .int .i64 0, .slice none 0 0] 24)).cell? ⟨b, o, none⟩ = some (.string l0) := by
        have h := HCS.out 0 (by omega)
        rw [HLS.out] at h
        rw [(below_alloc w2 (Obj.cells #[.int .i64 0, .int .i64 0, .slice none 0 0] 24)).cell (p := ⟨b, o, none⟩) hbl]
        exact h
      have hl0 : l0.size ≤ 4097 := HLN.out l0 (by rw [HLS.out]; exact List.mem_cons_self)
      have HW3 : Hid ((w2.alloc (Obj.cells #[.int .i64 0, .int .i64 0, .slice none 0 0] 24)).heap[w2.heap.size]? = some (Obj.cells #[.int .i64 0, .int .i64 0, .slice none 0 0] 24) ∧ Below w2.heap.size w2 (w2.alloc (Obj.cells #[.int .i64 0, .int .i64 0, .slice none 0 0] 24)) ∧ (w2.alloc (Obj.cells #[.int .i64 0, .int .i64 0, .slice none 0 0] 24)).heap[w.heap.size]? = some (Obj.cells #[.int .i64 0, .int .i64 0, .slice none 0 0] 24)) := ⟨heap_alloc_new _ _, below_alloc _ _, box_next HRB.out.1 (below_alloc _ _)⟩
      have HB3 : Hid (Below w.heap.size w (w2.alloc (Obj.cells #[.int .i64 0, .int .i64 0, .slice none 0 0] 24))) := HRB.out.2.alloc HRB.out.2.size _
      have hc9 := Small9_any l0 0 (w2.alloc (Obj.cells #[.int .i64 0, .int .i64 0, .slice none 0 0] 24)) (by omega) hl0
      obtain ⟨x9, a, H9⟩ : ∃ x9 a, Hid (small9 l0.data.toList 0 = (x9, a)) := ⟨_, _, (rfl : small9 l0.data.toList 0 = small9 l0.data.toList 0)⟩
      rw [H9.out] at hc9
      have HCQ : Hid (countsQ l0.data.toList = if x9 < 0 ∨ l0.data.toList.getD a 0 ≠ 32 then none else
          if (small9 l0.data.toList (a + 1)).1 < 0 ∨ ¬ ((small9 l0.data.toList (a + 1)).2 + 1 = l0.size ∧ l0.data.toList.getD (small9 l0.data.toList (a + 1)).2 0 = 10) then none else some (x9, (small9 l0.data.toList (a + 1)).1)) := by show _ = _; unfold countsQ; rw [H9.out, data_size]
      have H9L : Hid (0 ≤ x9 → 0 < a ∧ a ≤ l0.size) := fun h => by have := small9_le l0.data.toList 0 (by rw [H9.out]; exact h); rw [H9.out, data_size] at this; exact this
      clear hn0
      go_wp2_with fail
      obtain ⟨ob, HOB⟩ : ∃ ob, Hid (w2.heap.size = ob) := ⟨_, (rfl : w2.heap.size = w2.heap.size)⟩
      obtain ⟨w3, HWW⟩ : ∃ w3, Hid (w2.alloc (Obj.cells #[.int .i64 0, .int .i64 0, .slice none 0 0] 24) = w3) := ⟨_, (rfl : w2.alloc (Obj.cells #[.int .i64 0, .int .i64 0, .slice none 0 0] 24) = w2.alloc (Obj.cells #[.int .i64 0, .int .i64 0, .slice none 0 0] 24))⟩
      rw [HWW.out] at hc9 c0 HW3 HB3 ⊢
      rw [HOB.out] at HW3 hbl ⊢
      refine hc9.mono ?_
      rintro _ w9 ⟨rfl, h99⟩
      have h98 := h99.symm
      subst h98
      clear hc9 h99
      by_cases hn : x9 < 0
      · have bn : decide (x9 < 0) = true := by simp; exact hn
        have hre := HR2.out
        rw [HDS.out, ref_none _ _ (by rw [HCQ.out]; rw [if_pos (Or.inl hn)])] at hre
        have hrb : w3.heap[w.heap.size]? = some (Obj.cells #[.int .i64 0, .int .i64 0, .slice none 0 0] 24) := HW3.out.2.2
        simp only [Prod.mk.injEq] at hre
        obtain ⟨hre1, rfl, rfl⟩ := hre
        obtain ⟨rfl, rfl, rfl⟩ := zst_parts hre1
        clear hre1
        have r1 := block_store (i := 0) hrb (.int .i64 0)
        have r2 := block_store (i := 1) r1 (.int .i64 0)
        have r3 := block_store (i := 2) r2 (.slice none 0 0)
        simp only [List.setIfInBounds_toArray, List.set_cons_zero, List.set_cons_succ] at r1 r2 r3
        have y0 := cell_blk hrb 0
        have y1 := cell_blk r1 1
        have y2 := cell_blk r2 2
        have v0 := cell_blk r3 0
        have v1 := cell_blk r3 1
        have v2 := cell_blk r3 2
        have f0 := frozen_blk hrb 0
        have f1 := frozen_blk r1 1
        have f2 := frozen_blk r2 2
        simp only [List.getElem?_toArray, List.getElem?_cons_zero, List.getElem?_cons_succ] at y0 y1 y2 v0 v1 v2
        have HFIN : Hid (Below w.heap.size w ((((w3).setCell ⟨w.heap.size, 0, none⟩ (.int .i64 0)).setCell ⟨w.heap.size, 1, none⟩ (.int .i64 0)).setCell ⟨w.heap.size, 2, none⟩ (.slice none 0 0))) := (((HB3.out).setCell (p := ⟨w.heap.size, 0, none⟩) (Nat.le_refl _) _).setCell (p := ⟨w.heap.size, 1, none⟩) (Nat.le_refl _) _).setCell (p := ⟨w.heap.size, 2, none⟩) (Nat.le_refl _) _
        clear hrb r1 r2 r3
        go_wp2_with fail
        exact bodyPost_ret (v := .tuple #[.agg #[.int .i64 0, .int .i64 0, .slice none 0 0], .int .i64 1, .int .i64 6]) (by simp [results, Tryd.results10, go_sem, v0, v1, v2]) rfl ⟨none, 0, rfl, pds_nil _, HFIN.out⟩
      · have bn : decide (x9 < 0) = false := by simp; omega
        obtain ⟨ha0, ha1⟩ := H9L.out (by omega)
        by_cases hal : l0.size ≤ a
        · have ba : decide ((l0.size : Int) ≤ (a : Int)) = true := by simp; omega
          have ba2 : decide (l0.size ≤ a) = true := by simp; omega
          have hre := HR2.out
          rw [HDS.out, ref_none _ _ (by rw [HCQ.out]; rw [if_pos (Or.inr (by rw [getD_out l0 a hal]; decide))])] at hre
          have hrb : w3.heap[w.heap.size]? = some (Obj.cells #[.int .i64 0, .int .i64 0, .slice none 0 0] 24) := HW3.out.2.2
          simp only [Prod.mk.injEq] at hre
          obtain ⟨hre1, rfl, rfl⟩ := hre
          obtain ⟨rfl, rfl, rfl⟩ := zst_parts hre1
          clear hre1
          have r1 := block_store (i := 0) hrb (.int .i64 0)
          have r2 := block_store (i := 1) r1 (.int .i64 0)
          have r3 := block_store (i := 2) r2 (.slice none 0 0)
          simp only [List.setIfInBounds_toArray, List.set_cons_zero, List.set_cons_succ] at r1 r2 r3
          have y0 := cell_blk hrb 0
          have y1 := cell_blk r1 1
          have y2 := cell_blk r2 2
          have v0 := cell_blk r3 0
          have v1 := cell_blk r3 1
          have v2 := cell_blk r3 2
          have f0 := frozen_blk hrb 0
          have f1 := frozen_blk r1 1
          have f2 := frozen_blk r2 2
          simp only [List.getElem?_toArray, List.getElem?_cons_zero, List.getElem?_cons_succ] at y0 y1 y2 v0 v1 v2
          have HFIN : Hid (Below w.heap.size w ((((w3).setCell ⟨w.heap.size, 0, none⟩ (.int .i64 0)).setCell ⟨w.heap.size, 1, none⟩ (.int .i64 0)).setCell ⟨w.heap.size, 2, none⟩ (.slice none 0 0))) := (((HB3.out).setCell (p := ⟨w.heap.size, 0, none⟩) (Nat.le_refl _) _).setCell (p := ⟨w.heap.size, 1, none⟩) (Nat.le_refl _) _).setCell (p := ⟨w.heap.size, 2, none⟩) (Nat.le_refl _) _
          clear hrb r1 r2 r3
          go_wp2_with fail
          exact bodyPost_ret (v := .tuple #[.agg #[.int .i64 0, .int .i64 0, .slice none 0 0], .int .i64 1, .int .i64 6]) (by simp [results, Tryd.results10, go_sem, v0, v1, v2]) rfl ⟨none, 0, rfl, pds_nil _, HFIN.out⟩
        · have ba : decide ((l0.size : Int) ≤ (a : Int)) = false := by simp; omega
          have ba2 : decide (l0.size ≤ a) = false := by simp; omega
          have hal2 : a < l0.size := by omega
          have hai : (a : Int) < (l0.size : Int) := by omega
          by_cases h32 : l0[a].toNat = 32
          · have bc : ((l0[a].toNat : Int) != 32) = false := by simp; omega
            have HC2 : Hid (countsQ l0.data.toList = if (small9 l0.data.toList (a + 1)).1 < 0 ∨ ¬ ((small9 l0.data.toList (a + 1)).2 + 1 = l0.size ∧ l0.data.toList.getD (small9 l0.data.toList (a + 1)).2 0 = 10) then none else some (x9, (small9 l0.data.toList (a + 1)).1)) := by
              show _ = _
              rw [HCQ.out, if_neg]
              intro h
              rcases h with h | h
              · exact hn h
              · exact h (by rw [getD_get l0 a hal2]; exact (byte_is _ 32 (by omega)).1 h32)
            have hc9 := Small9_any l0 (a + 1) w3 (by omega) hl0
            obtain ⟨m9, e, H8⟩ : ∃ m9 e, Hid (small9 l0.data.toList (a + 1) = (m9, e)) := ⟨_, _, (rfl : small9 l0.data.toList (a + 1) = small9 l0.data.toList (a + 1))⟩
            rw [H8.out] at hc9 HC2
            have H8L : Hid (0 ≤ m9 → e ≤ l0.size) := fun h => by have := small9_le l0.data.toList (a + 1) (by rw [H8.out]; exact h); rw [H8.out, data_size] at this; exact this.2
            clear HCQ
            have HCQ := HC2
            simp only [] at HCQ
            clear hn hal h32
            go_wp2_with fail
            refine hc9.mono ?_
            rintro _ w9 ⟨rfl, h99⟩
            have h98 := h99.symm
            subst h98
            clear hc9 h99 bc ba ba2 bn
            by_cases hm : m9 < 0
            · have bm : decide (m9 < 0) = true := by simp; exact hm
              have hre := HR2.out
              rw [HDS.out, ref_none _ _ (by rw [HCQ.out]; rw [if_pos (Or.inl hm)])] at hre
              have hrb : w3.heap[w.heap.size]? = some (Obj.cells #[.int .i64 0, .int .i64 0, .slice none 0 0] 24) := HW3.out.2.2
              simp only [Prod.mk.injEq] at hre
              obtain ⟨hre1, rfl, rfl⟩ := hre
              obtain ⟨rfl, rfl, rfl⟩ := zst_parts hre1
              clear hre1
              have r1 := block_store (i := 0) hrb (.int .i64 0)
              have r2 := block_store (i := 1) r1 (.int .i64 0)
              have r3 := block_store (i := 2) r2 (.slice none 0 0)
              simp only [List.setIfInBounds_toArray, List.set_cons_zero, List.set_cons_succ] at r1 r2 r3
              have y0 := cell_blk hrb 0
              have y1 := cell_blk r1 1
              have y2 := cell_blk r2 2
              have v0 := cell_blk r3 0
              have v1 := cell_blk r3 1
              have v2 := cell_blk r3 2
              have f0 := frozen_blk hrb 0
              have f1 := frozen_blk r1 1
              have f2 := frozen_blk r2 2
              simp only [List.getElem?_toArray, List.getElem?_cons_zero, List.getElem?_cons_succ] at y0 y1 y2 v0 v1 v2
              have HFIN : Hid (Below w.heap.size w ((((w3).setCell ⟨w.heap.size, 0, none⟩ (.int .i64 0)).setCell ⟨w.heap.size, 1, none⟩ (.int .i64 0)).setCell ⟨w.heap.size, 2, none⟩ (.slice none 0 0))) := (((HB3.out).setCell (p := ⟨w.heap.size, 0, none⟩) (Nat.le_refl _) _).setCell (p := ⟨w.heap.size, 1, none⟩) (Nat.le_refl _) _).setCell (p := ⟨w.heap.size, 2, none⟩) (Nat.le_refl _) _
              clear hrb r1 r2 r3
              go_wp2_with fail
              exact bodyPost_ret (v := .tuple #[.agg #[.int .i64 0, .int .i64 0, .slice none 0 0], .int .i64 1, .int .i64 6]) (by simp [results, Tryd.results10, go_sem, v0, v1, v2]) rfl ⟨none, 0, rfl, pds_nil _, HFIN.out⟩
            · have bm : decide (m9 < 0) = false := by simp; omega
              have hel := H8L.out (by omega)
              by_cases he : e + 1 = l0.size
              · have be : ((e : Int) != (l0.size : Int) - 1) = false := by simp; omega
                have hei : (e : Int) < (l0.size : Int) := by omega
                have he2 : e < l0.size := by omega
                by_cases h10 : l0[e].toNat = 10
                · have bt : ((l0[e].toNat : Int) != 10) = false := by simp; omega
                  have HCS2 : Hid (countsQ l0.data.toList = some (x9, m9)) := by
                    show _ = _
                    rw [HCQ.out, if_neg]
                    intro h
                    rcases h with h | h
                    · exact hm h
                    · exact h ⟨he, by rw [getD_get l0 e he2]; exact (byte_is _ 10 (by omega)).1 h10⟩
                  have hrb : w3.heap[ob]? = some (Obj.cells #[.int .i64 0, .int .i64 0, .slice none 0 0] 24) := HW3.out.1
                  have r1 := block_store (i := 0) hrb (.int .i64 x9)
                  have r2 := block_store (i := 1) r1 (.int .i64 m9)
                  simp only [List.setIfInBounds_toArray, List.set_cons_zero, List.set_cons_succ] at r1 r2
                  have y0 := cell_blk hrb 0
                  have y1 := cell_blk r1 1
                  have f0 := frozen_blk hrb 0
                  have f1 := frozen_blk r1 1
                  simp only [List.getElem?_toArray, List.getElem?_cons_zero, List.getElem?_cons_succ] at y0 y1
                  have HW4 : Hid (((w3.setCell ⟨ob, 0, none⟩ (.int .i64 x9)).setCell ⟨ob, 1, none⟩ (.int .i64 m9)).heap[ob]? = some (.cells #[.int .i64 x9, .int .i64 m9, .slice none 0 0] 24) ∧ Below ob w2 ((w3.setCell ⟨ob, 0, none⟩ (.int .i64 x9)).setCell ⟨ob, 1, none⟩ (.int .i64 m9)) ∧ ob + 1 ≤ ((w3.setCell ⟨ob, 0, none⟩ (.int .i64 x9)).setCell ⟨ob, 1, none⟩ (.int .i64 m9)).heap.size) :=
                    ⟨r2, (HW3.out.2.1.setCell (p := ⟨ob, 0, none⟩) (Nat.le_refl _) _).setCell (p := ⟨ob, 1, none⟩) (Nat.le_refl _) _, heap_lt r2⟩
                  have HOL : Hid (w.heap.size < ob) := by show _ < _; rw [← HOB.out]; exact heap_lt HRB.out.1
                  clear hrb r1 r2 hm he h10 HCQ
                  go_wp2_with fail
                  clear y0 y1 f0 f1 bm be bt c0 b1
                  generalize (w3.setCell ⟨ob, 0, none⟩ (.int .i64 x9)).setCell ⟨ob, 1, none⟩ (.int .i64 m9) = w4 at HW4 ⊢
                  go_loopw [10] (fun i wr => ∃ (k : Nat) (ps : List Pd) (v : Value), i = .int .i64 (k : Int) ∧ 1 ≤ k ∧ k ≤ n ∧ ps.length ≤ k ∧ Hid (rdQ 2 [] (tl.map (·.data.toList)) = rdQ (k + 1) ps ((ls.map (·.data.toList)).drop k)) ∧
                      Hid (wr.heap[ob]? = some (.cells #[.int .i64 x9, .int .i64 m9, v] 24) ∧ Rw (ob + 1) wr v ps ∧ ob + 1 ≤ wr.heap.size ∧ Below ob w2 wr)) (fun i _ => n - (intOf i).toNat)
                  case atStart => exact ⟨1, [], .slice none 0 0, rfl, by omega, by omega, by simp, by show _ = _; rw [HDS.out]; rfl, HW4.out.1, Rw.nil _ _, HW4.out.2.2, HW4.out.2.1⟩
                  case round =>
                    obtain ⟨k, ps, v, rfl, hk1, hkn, hpk, HRQ, HGS⟩ := hrel
                    have HBW : Hid (Below w.heap.size w wr) := HRB.out.2.trans (HGS.out.2.2.2.mono (by rw [← HOB.out]; exact HRB.out.2.size))
                    have HRW2 : Hid (wr.heap[w.heap.size]? = some (Obj.cells #[.int .i64 0, .int .i64 0, .slice none 0 0] 24)) := (HGS.out.2.2.2.block _ HOL.out).trans HRB.out.1
                    obtain ⟨va, vc, rfl⟩ := HGS.out.2.1.form
                    by_cases hkl : k < n
                    · have hki : (k : Int) < (n : Int) := by omega
                      have hki0 : (0 : Int) ≤ (k : Int) := by omega
                      have hkls : k < ls.length := by rw [HNL.out]; exact hkl
                      have ck : wr.cell? ⟨b, o + k, none⟩ = some (.string ls[k]) := by
                        rw [HGS.out.2.2.2.cell (p := ⟨b, o + k, none⟩) hbl, HCS.out k hkl, List.getD_eq_getElem?_getD, List.getElem?_eq_getElem hkls]; rfl
                      have HDK : Hid ((ls.map (·.data.toList)).drop k = ls[k].data.toList :: (ls.map (·.data.toList)).drop (k + 1)) := by
                        show _ = _
                        rw [List.drop_eq_getElem_cons (by rw [List.length_map]; exact hkls), List.getElem_map]
                      have hlk := HLN.out ls[k] (List.getElem_mem hkls)
                      obtain ⟨lk, HLK⟩ : ∃ lk, Hid (ls[k] = lk) := ⟨_, (rfl : ls[k] = ls[k])⟩
                      rw [HLK.out] at ck HDK hlk
                      rw [HDK.out] at HRQ
                      have hcp := prod_any lk wr hlk
                      obtain ⟨pq, HPQ⟩ : ∃ pq, Hid (prodQ lk.data.toList = pq) := ⟨_, (rfl : prodQ lk.data.toList = prodQ lk.data.toList)⟩
                      rw [HPQ.out] at hcp
                      have HRS : Hid (rdQ 2 [] (tl.map (·.data.toList)) = stepQ pq ps (k + 1) ((ls.map (·.data.toList)).drop (k + 1))) := by
                        show _ = _
                        rw [HRQ.out, rdQ_cons, HPQ.out]
                      go_wp2_with fail
                      refine hcp.mono ?_
                      rintro _ w5 ⟨x, body, ba, bc, rfl, -, hso, hsy, hnw, hb⟩
                      have HB5 : Hid (Below wr.heap.size wr w5) := hb
                      have HSY : Hid (Syms w5 (.slice ba body.length bc) body ∧ Nw wr w5 (.slice ba body.length bc)) := ⟨hsy, hnw⟩
                      clear hcp hb hsy hnw ck
                      cases pq with
                      | none =>
                        simp only [Option.isSome]
                        have hre := HR2.out
                        rw [HDS.out, ref_some _ _ x9 m9 HCS2.out _ _ _ HRS.out] at hre
                        simp only [Bool.false_eq_true, if_false] at hre
                        have hrb : (w5.alloc (Obj.cells #[.int .i64 x, .slice ba body.length bc] 39)).heap[w.heap.size]? = some (Obj.cells #[.int .i64 0, .int .i64 0, .slice none 0 0] 24) := box_next (box_next HRW2.out HB5.out) (below_alloc _ _)
                        have HB6 : Hid (Below w.heap.size w (w5.alloc (Obj.cells #[.int .i64 x, .slice ba body.length bc] 39))) := (HBW.out.trans (HB5.out.mono HBW.out.size)).alloc (Nat.le_trans HBW.out.size HB5.out.size) _
                        clear hso
                        simp only [Prod.mk.injEq] at hre
                        obtain ⟨hre1, rfl, rfl⟩ := hre
                        obtain ⟨rfl, rfl, rfl⟩ := zst_parts hre1
                        clear hre1
                        have r1 := block_store (i := 0) hrb (.int .i64 0)
                        have r2 := block_store (i := 1) r1 (.int .i64 0)
                        have r3 := block_store (i := 2) r2 (.slice none 0 0)
                        simp only [List.setIfInBounds_toArray, List.set_cons_zero, List.set_cons_succ] at r1 r2 r3
                        have y0 := cell_blk hrb 0
                        have y1 := cell_blk r1 1
                        have y2 := cell_blk r2 2
                        have v0 := cell_blk r3 0
                        have v1 := cell_blk r3 1
                        have v2 := cell_blk r3 2
                        have f0 := frozen_blk hrb 0
                        have f1 := frozen_blk r1 1
                        have f2 := frozen_blk r2 2
                        simp only [List.getElem?_toArray, List.getElem?_cons_zero, List.getElem?_cons_succ] at y0 y1 y2 v0 v1 v2
                        have HFIN : Hid (Below w.heap.size w ((((w5.alloc (Obj.cells #[.int .i64 x, .slice ba body.length bc] 39)).setCell ⟨w.heap.size, 0, none⟩ (.int .i64 0)).setCell ⟨w.heap.size, 1, none⟩ (.int .i64 0)).setCell ⟨w.heap.size, 2, none⟩ (.slice none 0 0))) := (((HB6.out).setCell (p := ⟨w.heap.size, 0, none⟩) (Nat.le_refl _) _).setCell (p := ⟨w.heap.size, 1, none⟩) (Nat.le_refl _) _).setCell (p := ⟨w.heap.size, 2, none⟩) (Nat.le_refl _) _
                        clear hrb r1 r2 r3
                        go_wp2_with fail
                        exact bodyPost_ret (v := .tuple #[.agg #[.int .i64 0, .int .i64 0, .slice none 0 0], .int .i64 ((k : Int) + 1), .int .i64 6]) (by simp [results, Tryd.results10, go_sem, v0, v1, v2]) rfl ⟨none, 0, (by push_cast; rfl), pds_nil _, HFIN.out⟩
                      | some pp =>
                        obtain rfl : pp = (x, body) := Option.some.inj (hso rfl)
                        simp only [Option.isSome]
                        clear hso
                        have HB6 : Hid (Below wr.heap.size wr (w5.alloc (Obj.cells #[.int .i64 x, .slice ba body.length bc] 39))) := HB5.out.alloc HB5.out.size _
                        have g0 := cell_new w5 #[.int .i64 x, .slice ba body.length bc] 39 0
                        have g1 := cell_new w5 #[.int .i64 x, .slice ba body.length bc] 39 1
                        simp only [List.getElem?_toArray, List.getElem?_cons_zero, List.getElem?_cons_succ] at g0 g1
                        have HS6 : Hid (Syms (w5.alloc (Obj.cells #[.int .i64 x, .slice ba body.length bc] 39)) (.slice ba body.length bc) body) := HSY.out.1.below (below_alloc _ _)
                        have HSZ6 : Hid (w5.heap.size ≤ (w5.alloc (Obj.cells #[.int .i64 x, .slice ba body.length bc] 39)).heap.size) := by show _ ≤ _; simp
                        have hbx := box_next HGS.out.1 HB6.out
                        have e2 := cell_blk hbx 2
                        simp only [List.getElem?_toArray, List.getElem?_cons_zero, List.getElem?_cons_succ] at e2
                        clear hbx
                        go_upto_region 20 with (fail)
                        generalize w5.alloc (Obj.cells #[.int .i64 x, .slice ba body.length bc] 39) = w6 at HB6 g0 g1 HS6 HSZ6 e2 ⊢
                        obtain ⟨U, hrow, hU⟩ := HGS.out.2.1
                        have HU : Hid (∀ i (hi : i < ps.length), Syms wr (U i) ps[i].2 ∧ ∀ k, (U i).ownBlock = some k → ob + 1 ≤ k ∧ k < wr.heap.size ∧ (Value.slice va ps.length vc).ownBlock ≠ some k) := hU
                        clear hU
                        have HROW : Hid (wr.ownsRow (ob + 1) 39 2 (.slice va ps.length vc) ps.length (pcs ps U ps.length)) := hrow
                        have hr6 := own_below hrow HB6.out
                        have hs6 := HB6.out.size
                        have hobs := HGS.out.2.2.1
                        clear hrow
                        go_wp2_with (at_builtin; refine wpList_append_lies _ rfl _ _ 22 rfl (ob + 1) 39 i1 (.agg #[.int .i64 0, .slice none 0 0]) 2 32 Tryd.underlying22 hi1 hy0 hy1 hy2 rfl (by decide) _ _ _ rfl (hr6.alloc _) ⟨w6.heap.size, 0, none⟩ 1 1 [.int .i64 x, .slice ba body.length bc] rfl rfl (World.news_of_block (t := 39) (fr := (0, 0)) (heap_alloc_new w6 _)) (by simp [Value.oneCell']) (by omega) (by unfold maxLen; omega) (by omega) (by simp; omega) _ rfl ?_)
                        intro gr cr V hown' hgrow hor hlt
                        have HFI : Hid (Fin2 (ob + 1) ob x9 m9 (ps ++ [(x, body)]) wr (V.setCell ⟨ob, 2, none⟩ (.slice (some ⟨gr, 0, none⟩) (ps.length + 1) cr))) :=
                          rw_step (by omega) hobs HGS.out.1 HROW.out HU.out x body (.slice ba body.length bc) (HB6.out.alloc HB6.out.size _) (HS6.out.below (below_alloc _ _)) (fun k hk => ⟨(HSY.out.2 k hk).1, by have := (HSY.out.2 k hk).2; have := HSZ6.out; simp; omega⟩) hgrow hown' (hor.imp id fun h => by have h2 := h; simp at h2 ⊢; omega)
                        have hbV : V.heap[ob]? = some (.cells #[.int .i64 x9, .int .i64 m9, .slice va ps.length vc] 24) := by
                          rw [hgrow.block ob (by simp; omega) (fun e2 => by have := own_ge HROW.out ob e2.symm; omega), (below_alloc w6 _).block ob (by omega)]
                          exact box_next HGS.out.1 HB6.out
                        have d2 := cell_blk hbV 2
                        have f2 := frozen_blk hbV 2
                        simp only [List.getElem?_toArray, List.getElem?_cons_zero, List.getElem?_cons_succ] at d2
                        clear hown' hgrow hor hlt hbV hr6 g0 g1 e2
                        go_wp2_with fail
                        obtain ⟨v', hx1, hx2, hx3⟩ := HFI.out
                        have HNX : Hid ((V.setCell ⟨ob, 2, none⟩ (.slice (some ⟨gr, 0, none⟩) (ps.length + 1) cr)).heap[ob]? = some (.cells #[.int .i64 x9, .int .i64 m9, v'] 24) ∧ Rw (ob + 1) (V.setCell ⟨ob, 2, none⟩ (.slice (some ⟨gr, 0, none⟩) (ps.length + 1) cr)) v' (ps ++ [(x, body)]) ∧ ob + 1 ≤ (V.setCell ⟨ob, 2, none⟩ (.slice (some ⟨gr, 0, none⟩) (ps.length + 1) cr)).heap.size ∧ Below ob w2 (V.setCell ⟨ob, 2, none⟩ (.slice (some ⟨gr, 0, none⟩) (ps.length + 1) cr))) :=
                          ⟨hx1, hx2, heap_lt hx1, ⟨hx3.os.trans HGS.out.2.2.2.os, hx3.tape.trans HGS.out.2.2.2.tape, hx3.output.trans HGS.out.2.2.2.output, Nat.le_trans HGS.out.2.2.2.size hx3.size, fun j hj => (hx3.block j (by omega) (by omega)).trans (HGS.out.2.2.2.block j hj)⟩⟩
                        clear hx1 hx2 hx3 d2 f2
                        go_roundw
                        case rel => exact ⟨k + 1, ps ++ [(x, body)], v', by go_num, by omega, by omega, by simp; omega, HRS, HNX⟩
                        case measure => simp [intOf]; omega
                    · obtain rfl : k = n := by omega
                      have HRF : Hid (rdQ 2 [] (tl.map (·.data.toList)) = (ps, k + 1, true)) := by
                        show _ = _
                        rw [HRQ.out, List.drop_eq_nil_of_le (by rw [List.length_map, HNL.out]; exact Nat.le_refl _)]; rfl
                      have hre := HR2.out
                      rw [HDS.out, ref_some _ _ x9 m9 HCS2.out _ _ _ HRF.out] at hre
                      simp only [if_true] at hre
                      have HPD : Hid (Pds wr (.slice va ps.length vc) ps) := HGS.out.2.1.pds (by omega)
                      have c0 := cell_blk HGS.out.1 0
                      have c1 := cell_blk HGS.out.1 1
                      have c2 := cell_blk HGS.out.1 2
                      simp only [List.getElem?_toArray, List.getElem?_cons_zero, List.getElem?_cons_succ] at c0 c1 c2
                      obtain ⟨ch, HCH⟩ : ∃ ch, Hid (chk x9 m9 ps = ch) := ⟨_, (rfl : chk x9 m9 ps = chk x9 m9 ps)⟩
                      rw [HCH.out] at hre
                      have HRE2 : Hid ((⟨rt, rn, rps⟩, line, err) = if ch = 0 then (⟨x9, m9, ps⟩, (0 : Int), (0 : Int)) else (zst, 0, ch)) := hre
                      clear hre
                      go_wp2_with fail
                      have hcc := Cfg_any x9 m9 _ ps wr HPD.out
                      rw [HCH.out] at hcc
                      refine hcc.mono ?_
                      rintro _ w7 ⟨rfl, hb⟩
                      have hrb : w7.heap[w.heap.size]? = some (Obj.cells #[.int .i64 0, .int .i64 0, .slice none 0 0] 24) := box_next HRW2.out hb
                      have HBB : Hid (Below w.heap.size w w7) := HBW.out.trans (hb.mono HBW.out.size)
                      have hbx := box_next HGS.out.1 hb
                      have e0 := cell_blk hbx 0
                      have e1 := cell_blk hbx 1
                      have e2 := cell_blk hbx 2
                      simp only [List.getElem?_toArray, List.getElem?_cons_zero, List.getElem?_cons_succ] at e0 e1 e2
                      have HR7 : Hid (Rw (ob + 1) w7 (.slice va ps.length vc) ps) := HGS.out.2.1.same (fun j _ h3 => hb.block j h3) hb.size
                      clear hcc hb hbx c0 c1 c2
                      by_cases hch : ch = 0
                      · subst hch
                        have he := HRE2.out
                        simp only [if_true, Prod.mk.injEq] at he
                        obtain ⟨he0, rfl, rfl⟩ := he
                        injection he0 with k1 k2 k3
                        subst k1 k2 k3
                        have r1 := block_store (i := 0) hrb (.int .i64 rt)
                        have r2 := block_store (i := 1) r1 (.int .i64 rn)
                        have r3 := block_store (i := 2) r2 (.slice va rps.length vc)
                        simp only [List.setIfInBounds_toArray, List.set_cons_zero, List.set_cons_succ] at r1 r2 r3
                        have y0 := cell_blk hrb 0
                        have y1 := cell_blk r1 1
                        have y2 := cell_blk r2 2
                        have v0 := cell_blk r3 0
                        have v1 := cell_blk r3 1
                        have v2 := cell_blk r3 2
                        have f0 := frozen_blk hrb 0
                        have f1 := frozen_blk r1 1
                        have f2 := frozen_blk r2 2
                        simp only [List.getElem?_toArray, List.getElem?_cons_zero, List.getElem?_cons_succ] at y0 y1 y2 v0 v1 v2
                        have HFIN : Hid (Pds ((((w7).setCell ⟨w.heap.size, 0, none⟩ (.int .i64 rt)).setCell ⟨w.heap.size, 1, none⟩ (.int .i64 rn)).setCell ⟨w.heap.size, 2, none⟩ (.slice va rps.length vc)) (.slice va rps.length vc) rps ∧ Below w.heap.size w ((((w7).setCell ⟨w.heap.size, 0, none⟩ (.int .i64 rt)).setCell ⟨w.heap.size, 1, none⟩ (.int .i64 rn)).setCell ⟨w.heap.size, 2, none⟩ (.slice va rps.length vc))) := by
                          have := HOL.out
                          refine ⟨(HR7.out.same (fun j h2 _ => ?_) (by simp [World.setCell])).pds (by omega), (((HBB.out).setCell (p := ⟨w.heap.size, 0, none⟩) (Nat.le_refl _) _).setCell (p := ⟨w.heap.size, 1, none⟩) (Nat.le_refl _) _).setCell (p := ⟨w.heap.size, 2, none⟩) (Nat.le_refl _) _⟩
                          rw [Below.heap_setCell _ _ _ _ (by simp; omega), Below.heap_setCell _ _ _ _ (by simp; omega), Below.heap_setCell _ _ _ _ (by simp; omega)]
                        clear hrb r1 r2 r3
                        go_wp2_with fail
                        exact bodyPost_ret (v := .tuple #[.agg #[.int .i64 rt, .int .i64 rn, .slice va rps.length vc], .int .i64 0, .int .i64 0]) (by simp [results, Tryd.results10, go_sem, v0, v1, v2]) rfl ⟨va, vc, rfl, HFIN.out.1, HFIN.out.2⟩
                      · have hcb : (ch != 0) = true := by simp; exact hch
                        have he := HRE2.out
                        rw [if_neg hch] at he
                        clear hch
                        simp only [Prod.mk.injEq] at he
                        obtain ⟨he1, rfl, rfl⟩ := he
                        obtain ⟨rfl, rfl, rfl⟩ := zst_parts he1
                        clear he1
                        have r1 := block_store (i := 0) hrb (.int .i64 0)
                        have r2 := block_store (i := 1) r1 (.int .i64 0)
                        have r3 := block_store (i := 2) r2 (.slice none 0 0)
                        simp only [List.setIfInBounds_toArray, List.set_cons_zero, List.set_cons_succ] at r1 r2 r3
                        have y0 := cell_blk hrb 0
                        have y1 := cell_blk r1 1
                        have y2 := cell_blk r2 2
                        have v0 := cell_blk r3 0
                        have v1 := cell_blk r3 1
                        have v2 := cell_blk r3 2
                        have f0 := frozen_blk hrb 0
                        have f1 := frozen_blk r1 1
                        have f2 := frozen_blk r2 2
                        simp only [List.getElem?_toArray, List.getElem?_cons_zero, List.getElem?_cons_succ] at y0 y1 y2 v0 v1 v2
                        have HFIN : Hid (Below w.heap.size w ((((w7).setCell ⟨w.heap.size, 0, none⟩ (.int .i64 0)).setCell ⟨w.heap.size, 1, none⟩ (.int .i64 0)).setCell ⟨w.heap.size, 2, none⟩ (.slice none 0 0))) := (((HBB.out).setCell (p := ⟨w.heap.size, 0, none⟩) (Nat.le_refl _) _).setCell (p := ⟨w.heap.size, 1, none⟩) (Nat.le_refl _) _).setCell (p := ⟨w.heap.size, 2, none⟩) (Nat.le_refl _) _
                        clear hrb r1 r2 r3
                        go_wp2_with fail
                        exact bodyPost_ret (v := .tuple #[.agg #[.int .i64 0, .int .i64 0, .slice none 0 0], .int .i64 0, .int .i64 err]) (by simp [results, Tryd.results10, go_sem, v0, v1, v2]) rfl ⟨none, 0, rfl, pds_nil _, HFIN.out⟩
                · have bt : ((l0[e].toNat : Int) != 10) = true := by simp; omega
                  have hre := HR2.out
                  rw [HDS.out, ref_none _ _ (by rw [HCQ.out]; rw [if_pos (Or.inr (fun h => h10 (by rw [← getD_get l0 e he2, h.2]; rfl)))])] at hre
                  have hrb : w3.heap[w.heap.size]? = some (Obj.cells #[.int .i64 0, .int .i64 0, .slice none 0 0] 24) := HW3.out.2.2
                  simp only [Prod.mk.injEq] at hre
                  obtain ⟨hre1, rfl, rfl⟩ := hre
                  obtain ⟨rfl, rfl, rfl⟩ := zst_parts hre1
                  clear hre1
                  have r1 := block_store (i := 0) hrb (.int .i64 0)
                  have r2 := block_store (i := 1) r1 (.int .i64 0)
                  have r3 := block_store (i := 2) r2 (.slice none 0 0)
                  simp only [List.setIfInBounds_toArray, List.set_cons_zero, List.set_cons_succ] at r1 r2 r3
                  have y0 := cell_blk hrb 0
                  have y1 := cell_blk r1 1
                  have y2 := cell_blk r2 2
                  have v0 := cell_blk r3 0
                  have v1 := cell_blk r3 1
                  have v2 := cell_blk r3 2
                  have f0 := frozen_blk hrb 0
                  have f1 := frozen_blk r1 1
                  have f2 := frozen_blk r2 2
                  simp only [List.getElem?_toArray, List.getElem?_cons_zero, List.getElem?_cons_succ] at y0 y1 y2 v0 v1 v2
                  have HFIN : Hid (Below w.heap.size w ((((w3).setCell ⟨w.heap.size, 0, none⟩ (.int .i64 0)).setCell ⟨w.heap.size, 1, none⟩ (.int .i64 0)).setCell ⟨w.heap.size, 2, none⟩ (.slice none 0 0))) := (((HB3.out).setCell (p := ⟨w.heap.size, 0, none⟩) (Nat.le_refl _) _).setCell (p := ⟨w.heap.size, 1, none⟩) (Nat.le_refl _) _).setCell (p := ⟨w.heap.size, 2, none⟩) (Nat.le_refl _) _
                  clear hrb r1 r2 r3
                  go_wp2_with fail
                  exact bodyPost_ret (v := .tuple #[.agg #[.int .i64 0, .int .i64 0, .slice none 0 0], .int .i64 1, .int .i64 6]) (by simp [results, Tryd.results10, go_sem, v0, v1, v2]) rfl ⟨none, 0, rfl, pds_nil _, HFIN.out⟩
              · have be : ((e : Int) != (l0.size : Int) - 1) = true := by simp; omega
                have hre := HR2.out
                rw [HDS.out, ref_none _ _ (by rw [HCQ.out]; rw [if_pos (Or.inr (fun h => he h.1))])] at hre
                have hrb : w3.heap[w.heap.size]? = some (Obj.cells #[.int .i64 0, .int .i64 0, .slice none 0 0] 24) := HW3.out.2.2
                simp only [Prod.mk.injEq] at hre
                obtain ⟨hre1, rfl, rfl⟩ := hre
                obtain ⟨rfl, rfl, rfl⟩ := zst_parts hre1
                clear hre1
                have r1 := block_store (i := 0) hrb (.int .i64 0)
                have r2 := block_store (i := 1) r1 (.int .i64 0)
                have r3 := block_store (i := 2) r2 (.slice none 0 0)
                simp only [List.setIfInBounds_toArray, List.set_cons_zero, List.set_cons_succ] at r1 r2 r3
                have y0 := cell_blk hrb 0
                have y1 := cell_blk r1 1
                have y2 := cell_blk r2 2
                have v0 := cell_blk r3 0
                have v1 := cell_blk r3 1
                have v2 := cell_blk r3 2
                have f0 := frozen_blk hrb 0
                have f1 := frozen_blk r1 1
                have f2 := frozen_blk r2 2
                simp only [List.getElem?_toArray, List.getElem?_cons_zero, List.getElem?_cons_succ] at y0 y1 y2 v0 v1 v2
                have HFIN : Hid (Below w.heap.size w ((((w3).setCell ⟨w.heap.size, 0, none⟩ (.int .i64 0)).setCell ⟨w.heap.size, 1, none⟩ (.int .i64 0)).setCell ⟨w.heap.size, 2, none⟩ (.slice none 0 0))) := (((HB3.out).setCell (p := ⟨w.heap.size, 0, none⟩) (Nat.le_refl _) _).setCell (p := ⟨w.heap.size, 1, none⟩) (Nat.le_refl _) _).setCell (p := ⟨w.heap.size, 2, none⟩) (Nat.le_refl _) _
                clear hrb r1 r2 r3
                go_wp2_with fail
                exact bodyPost_ret (v := .tuple #[.agg #[.int .i64 0, .int .i64 0, .slice none 0 0], .int .i64 1, .int .i64 6]) (by simp [results, Tryd.results10, go_sem, v0, v1, v2]) rfl ⟨none, 0, rfl, pds_nil _, HFIN.out⟩
          · have bc : ((l0[a].toNat : Int) != 32) = true := by simp; omega
            have hre := HR2.out
            rw [HDS.out, ref_none _ _ (by rw [HCQ.out]; rw [if_pos (Or.inr (fun h => h32 (by rw [← getD_get l0 a hal2, h]; rfl)))])] at hre
            have hrb : w3.heap[w.heap.size]? = some (Obj.cells #[.int .i64 0, .int .i64 0, .slice none 0 0] 24) := HW3.out.2.2
            simp only [Prod.mk.injEq] at hre
            obtain ⟨hre1, rfl, rfl⟩ := hre
            obtain ⟨rfl, rfl, rfl⟩ := zst_parts hre1
            clear hre1
            have r1 := block_store (i := 0) hrb (.int .i64 0)
            have r2 := block_store (i := 1) r1 (.int .i64 0)
            have r3 := block_store (i := 2) r2 (.slice none 0 0)
            simp only [List.setIfInBounds_toArray, List.set_cons_zero, List.set_cons_succ] at r1 r2 r3
            have y0 := cell_blk hrb 0
            have y1 := cell_blk r1 1
            have y2 := cell_blk r2 2
            have v0 := cell_blk r3 0
            have v1 := cell_blk r3 1
            have v2 := cell_blk r3 2
            have f0 := frozen_blk hrb 0
            have f1 := frozen_blk r1 1
            have f2 := frozen_blk r2 2
            simp only [List.getElem?_toArray, List.getElem?_cons_zero, List.getElem?_cons_succ] at y0 y1 y2 v0 v1 v2
            have HFIN : Hid (Below w.heap.size w ((((w3).setCell ⟨w.heap.size, 0, none⟩ (.int .i64 0)).setCell ⟨w.heap.size, 1, none⟩ (.int .i64 0)).setCell ⟨w.heap.size, 2, none⟩ (.slice none 0 0))) := (((HB3.out).setCell (p := ⟨w.heap.size, 0, none⟩) (Nat.le_refl _) _).setCell (p := ⟨w.heap.size, 1, none⟩) (Nat.le_refl _) _).setCell (p := ⟨w.heap.size, 2, none⟩) (Nat.le_refl _) _
            clear hrb r1 r2 r3
            go_wp2_with fail
            exact bodyPost_ret (v := .tuple #[.agg #[.int .i64 0, .int .i64 0, .slice none 0 0], .int .i64 1, .int .i64 6]) (by simp [results, Tryd.results10, go_sem, v0, v1, v2]) rfl ⟨none, 0, rfl, pds_nil _, HFIN.out⟩

end Go.Proofs.YtgoafahglajfmaaDoor
