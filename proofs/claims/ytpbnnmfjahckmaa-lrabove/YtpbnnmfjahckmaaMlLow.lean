/-
  The contracts of lr.isWhole, width, actBehind.
-/
import Derived.Test.YtpbnnmfjahckmaaMkAll
import Derived.Test.YtpbnnmfjahckmaaMlMath
namespace Go.Proofs.Ytpbnnmfjahckmaa
open Go.RowKit
open Cg

set_option maxRecDepth 20000 in
theorem isWhole_any (t n : Int) (ao : Option Addr) (k c : Nat) (p : Int) (w : World) :
    Calls Try.prog 87 #[.agg #[.int .i64 t, .int .i64 n, .slice ao k c], .int .i64 p] w fun e w' => e = .returned (.bool (p == (k : Int))) ∧ Below w.heap.size w w' := by
  go_enter Try.func87, Try.ntmps87
  go_wp2_with fail
  go_ret
  exact ⟨by simp, below_alloc _ _⟩
set_option maxHeartbeats 3200000 in
set_option maxRecDepth 20000 in
theorem width_any (t n : Int) (pv : Value) (ps : List Pd) (p : Nat) (hp : p ≤ ps.length) (w : World) (h : Pds w pv ps) :
    Calls Try.prog 74 #[.agg #[.int .i64 t, .int .i64 n, pv], .int .i64 (p : Int)] w fun e w' => e = .returned (.int .i64 ((bod ps p).length : Int)) ∧ Below w.heap.size w w' := by
  have HGB := Gb.box h t n
  obtain ⟨ao, c, rfl, hm, hcs⟩ := h
  have HG0 : Hid (Gb w w.heap.size t n (.slice ao ps.length c) ps (w.alloc (Obj.cells #[.int .i64 t, .int .i64 n, .slice ao ps.length c] 24))) := HGB
  clear HGB
  have hcall := isWhole_any t n ao ps.length c (p : Int) (w.alloc (Obj.cells #[.int .i64 t, .int .i64 n, .slice ao ps.length c] 24))
  by_cases hw : p = ps.length
  · have b0 : ((p : Int) == (ps.length : Int)) = true := by simp [hw]
    have HBW : Hid ((bod ps p).length = 1) := by show _ = _; rw [hw, bod_whole]; rfl
    rw [HBW.out]
    rw [b0] at hcall
    clear hw hcs hp b0
    go_enter Try.func74, Try.ntmps74
    go_wp2_with fail
    refine hcall.mono ?_
    rintro _ w1 ⟨rfl, hb⟩
    have HG1 : Hid (Gb w w.heap.size t n (.slice ao ps.length c) ps w1) := HG0.out.next hb
    clear hb hcall HG0
    go_wp2_with fail
    go_ret
    exact ⟨by simp, HG1.out.below⟩
  · have b0 : ((p : Int) == (ps.length : Int)) = false := by simp; omega
    have hlt : p < ps.length := by omega
    obtain ⟨b, o, rfl, hb, hc⟩ := hcs.resolve_left (by intro e; subst e; simp at hlt)
    obtain ⟨d0, u, d1, hsy⟩ := hc p hlt
    have hk0 : (0 : Int) ≤ (p : Int) := by omega
    have hk1 : (p : Int) < (ps.length : Int) := by omega
    have HBW : Hid ((bod ps p).length = (ps[p]'hlt).2.length) := by show _ = _; rw [bod_at hlt]
    rw [HBW.out]
    rw [b0] at hcall
    obtain ⟨uo, uc, hu, -⟩ := id hsy
    rw [hu] at d1
    generalize (ps[p]'hlt).2.length = ul at d1 ⊢
    have HD : Hid (w.cell? ⟨b, o + p * 2 + 1, none⟩ = some (.slice uo ul uc) ∧ b < w.heap.size) := ⟨d1, hb⟩
    clear hw hc hcs hp d0 d1 hsy hu hlt b0 HBW
    go_enter Try.func74, Try.ntmps74
    go_wp2_with fail
    refine hcall.mono ?_
    rintro _ w1 ⟨rfl, hb1⟩
    have HG1 : Hid (Gb w w.heap.size t n (.slice (some ⟨b, o, none⟩) ps.length c) ps w1) := HG0.out.next hb1
    have y0 : w1.cell? ⟨b, o + p * 2 + 1, none⟩ = some (.slice uo ul uc) := (HG1.out.below.cell (p := ⟨b, o + p * 2 + 1, none⟩) HD.out.2).trans HD.out.1
    have z2 := HG1.out.c2
    clear hb1 hcall HG0
    go_wp2_with fail
    go_ret
    exact ⟨by simp, HG1.out.below⟩
set_option maxHeartbeats 3200000 in
set_option maxRecDepth 20000 in
theorem actBehind_any (t n : Int) (pv : Value) (ps : List Pd) (p : Nat) (w : World) (h : Pds w pv ps) :
    Calls Try.prog 75 #[.agg #[.int .i64 t, .int .i64 n, pv], .int .i64 (p : Int)] w fun e w' => e = .returned (.agg #[.int .i64 (actX ps p).1, .int .i64 (actX ps p).2]) ∧ Below w.heap.size w w' := by
  obtain ⟨ao, c, rfl⟩ := h.len
  have hab2 := below_alloc2 w (Obj.cells #[.int .i64 t, .int .i64 n, .slice ao ps.length c] 24) (Obj.cells #[.int .i64 0, .int .i64 0] 104)
  have hcall := isWhole_any t n ao ps.length c (p : Int) ((w.alloc (Obj.cells #[.int .i64 t, .int .i64 n, .slice ao ps.length c] 24)).alloc (Obj.cells #[.int .i64 0, .int .i64 0] 104))
  have HRC : Hid (((w.alloc (Obj.cells #[.int .i64 t, .int .i64 n, .slice ao ps.length c] 24)).alloc (Obj.cells #[.int .i64 0, .int .i64 0] 104)).heap[w.heap.size + 1]? = some (.cells #[.int .i64 0, .int .i64 0] 104)) := by
    show _ = _
    have := heap_alloc_new (w.alloc (Obj.cells #[.int .i64 t, .int .i64 n, .slice ao ps.length c] 24)) (Obj.cells #[.int .i64 0, .int .i64 0] 104)
    simpa using this
  have HB2 : Hid (_) := hab2
  by_cases hw : p = ps.length
  · have b0 : ((p : Int) == (ps.length : Int)) = true := by simp [hw]
    have HX : Hid (actX ps p = (3, 0)) := by show _ = _; unfold actX; rw [if_pos hw]
    rw [HX.out]
    rw [b0] at hcall
    clear hw h b0 hab2 HX
    go_enter Try.func75, Try.ntmps75
    go_wp2_with fail
    refine hcall.mono ?_
    rintro _ w1 ⟨rfl, hb⟩
    have hrc := mbox_next HRC.out hb
    have HBW : Hid (Below w.heap.size w w1) := HB2.out.trans (hb.mono HB2.out.size)
    have a0 := mcell_blk hrc 0
    have z0 := mfrozen_blk hrc 0
    have hs1 := mblock_store (i := 0) hrc (.int .i64 3)
    have z2 := mfrozen_blk hs1 1
    have a2 := mcell_blk hs1 1
    simp at a0 a2
    have hs2 := mblock_store (i := 1) hs1 (.int .i64 0)
    have v0 := mcell_blk hs2 0
    have v1 := mcell_blk hs2 1
    simp at v0 v1
    have HFIN : Hid (Below w.heap.size w ((w1.setCell ⟨w.heap.size + 1, 0, none⟩ (.int .i64 3)).setCell ⟨w.heap.size + 1, 1, none⟩ (.int .i64 0))) := (HBW.out.setCell (by simp) _).setCell (by simp) _
    clear hb hcall HB2 HRC hs1 hs2 hrc
    go_wp2_with fail
    exact bodyPost_ret (v := .agg #[.int .i64 3, .int .i64 0]) (by simp [results, Try.results75, go_sem, v0, v1]) rfl ⟨rfl, HFIN.out⟩
  · have b0 : ((p : Int) == (ps.length : Int)) = false := by simp; omega
    have HX : Hid (actX ps p = (2, (p : Int))) := by show _ = _; unfold actX; rw [if_neg hw]
    rw [HX.out]
    rw [b0] at hcall
    clear hw h b0 hab2 HX
    go_enter Try.func75, Try.ntmps75
    go_wp2_with fail
    refine hcall.mono ?_
    rintro _ w1 ⟨rfl, hb⟩
    have hrc := mbox_next HRC.out hb
    have HBW : Hid (Below w.heap.size w w1) := HB2.out.trans (hb.mono HB2.out.size)
    have a0 := mcell_blk hrc 0
    have z0 := mfrozen_blk hrc 0
    have hs1 := mblock_store (i := 0) hrc (.int .i64 2)
    have z2 := mfrozen_blk hs1 1
    have a2 := mcell_blk hs1 1
    simp at a0 a2
    have hs2 := mblock_store (i := 1) hs1 (.int .i64 (p : Int))
    have v0 := mcell_blk hs2 0
    have v1 := mcell_blk hs2 1
    simp at v0 v1
    have HFIN : Hid (Below w.heap.size w ((w1.setCell ⟨w.heap.size + 1, 0, none⟩ (.int .i64 2)).setCell ⟨w.heap.size + 1, 1, none⟩ (.int .i64 (p : Int)))) := (HBW.out.setCell (by simp) _).setCell (by simp) _
    clear hb hcall HB2 HRC hs1 hs2 hrc
    go_wp2_with fail
    exact bodyPost_ret (v := .agg #[.int .i64 2, .int .i64 (p : Int)]) (by simp [results, Try.results75, go_sem, v0, v1]) rfl ⟨rfl, HFIN.out⟩
end Go.Proofs.Ytpbnnmfjahckmaa
