/-
  The contract of the closure of pushref.Tree: what is wrong first with a tree, for every tree.
-/
import Derived.Test.YtldfiofgknmcgaaTrThr
import Derived.Laws.EntriesVeiled
import Derived.Shelf.Abstract
namespace Go.Proofs.Ytldfiofgknmcgaa
open Go.RowKit
open Cg

/-- What pushref.Tree holds: the nodes and the leaves so far, the grammar, and the closure itself. -/
structure Lk (w0 : World) (na nb gb fb : Nat) (tt n : Int) (pv : Value) (nn lv : Nat) (W : World) : Prop where
  a : W.heap[na]? = some (.cells #[.int .i64 (nn : Int)] 3)
  b : W.heap[nb]? = some (.cells #[.int .i64 (lv : Int)] 3)
  g : W.heap[gb]? = some (.cells #[.int .i64 tt, .int .i64 n, pv] 24)
  f : W.heap[fb]? = some (.cells #[.func (Fn.func 31) #[] #[.pointer (some ⟨na, 0, none⟩), .pointer (some ⟨nb, 0, none⟩), .pointer (some ⟨gb, 0, none⟩), .pointer (some ⟨fb, 0, none⟩)]] 71)
  ne : na ≠ nb
  ga : w0.heap.size ≤ na
  gb : w0.heap.size ≤ nb
  bel : Below w0.heap.size w0 W
theorem Lk.next {w0 : World} {na nb gb fb : Nat} {tt n : Int} {pv : Value} {nn lv : Nat} {W W' : World} (h : Lk w0 na nb gb fb tt n pv nn lv W) (hb : Below W.heap.size W W') : Lk w0 na nb gb fb tt n pv nn lv W' :=
  ⟨tbox_next h.a hb, tbox_next h.b hb, tbox_next h.g hb, tbox_next h.f hb, h.ne, h.ga, h.gb, h.bel.trans (hb.mono h.bel.size)⟩
theorem heap_apart {w : World} {b q i : Nat} {v : Value} {o : Obj} (h : w.heap[b]? = some o) (hn : b ≠ q) : (w.setCell ⟨q, i, none⟩ v).heap[b]? = some o := by
  rw [Below.heap_setCell _ _ _ _ (by simpa using hn)]; exact h
theorem ty_apart {w : World} {b q : Nat} {cs ds : Array Value} {s t : TypeId} {fr fs : Nat × Nat} (h : w.heap[b]? = some (.cells cs s fr)) (k : w.heap[q]? = some (.cells ds t fs)) (hn : s ≠ t) : b ≠ q := fun e => by
  subst e; rw [h] at k; simp at k; exact hn k.2.1
theorem Lk.setA {w0 : World} {na nb gb fb : Nat} {tt n : Int} {pv : Value} {nn lv : Nat} {W : World} (h : Lk w0 na nb gb fb tt n pv nn lv W) (m : Nat) : Lk w0 na nb gb fb tt n pv m lv (W.setCell ⟨na, 0, none⟩ (.int .i64 (m : Int))) :=
  ⟨by simpa using tblock_store (i := 0) h.a (.int .i64 (m : Int)), heap_apart h.b h.ne.symm, heap_apart h.g (ty_apart h.g h.a (by decide)), heap_apart h.f (ty_apart h.f h.a (by decide)), h.ne, h.ga, h.gb, h.bel.setCell h.ga _⟩
theorem Lk.setB {w0 : World} {na nb gb fb : Nat} {tt n : Int} {pv : Value} {nn lv : Nat} {W : World} (h : Lk w0 na nb gb fb tt n pv nn lv W) (m : Nat) : Lk w0 na nb gb fb tt n pv nn m (W.setCell ⟨nb, 0, none⟩ (.int .i64 (m : Int))) :=
  ⟨heap_apart h.a h.ne, by simpa using tblock_store (i := 0) h.b (.int .i64 (m : Int)), heap_apart h.g (ty_apart h.g h.b (by decide)), heap_apart h.f (ty_apart h.f h.b (by decide)), h.ne, h.ga, h.gb, h.bel.setCell h.gb _⟩
def Z3 (t : Nat) : Prop := t = 3
def LkP (w0 : World) (na nb gb fb : Nat) (tt n : Int) (pv : Value) (r : Nat × Nat × List Int) (W W' : World) : Prop := Lk w0 na nb gb fb tt n pv r.2.1 r.2.2.length W' ∧ Fy Z3 W W'

set_option maxHeartbeats 8000000 in
set_option maxRecDepth 20000 in
theorem look_all (w0 : World) (na nb gb fb : Nat) (tt n : Int) (pv : Value) (ps : List Pd) (hp : Pds w0 pv ps) (P : Nat → Prop) (m : Nat) : ∀ (t : T), t.sz ≤ m → ∀ (v : Value) (s0 s1 : Int) (dd nn : Nat) (ws : List Int) (w : World), Tx w0 P v t → dd ≤ 101 → nn ≤ 1000 → ws.length ≤ nn → Lk w0 na nb gb fb tt n pv nn ws.length w →
    Calls Try.prog 31 #[v, .agg #[.int .i64 s0, .int .i64 s1], .int .i64 (dd : Int), .pointer (some ⟨na, 0, none⟩), .pointer (some ⟨nb, 0, none⟩), .pointer (some ⟨gb, 0, none⟩), .pointer (some ⟨fb, 0, none⟩)] w fun e w' => e = .returned (.int .i64 ((thr ps t (s0, s1) dd nn ws).1 : Int)) ∧ LkP w0 na nb gb fb tt n pv (thr ps t (s0, s1) dd nn ws) w w' := by
  induction m with
  | zero => intro t hm; have := t.sz_pos; omega
  | succ m ih =>
    intro t hm
    have HIH : Hid _ := ih
    clear ih
    intro v s0 s1 dd nn ws w hx hd hn hws hk
    obtain ⟨p, k, ao, cap, kids, vals, rfl, rfl, hkm, -, -⟩ := hx.shape
    have HX : Hid (Tx w0 P (.agg #[.int .i64 p, .int .i64 k, .slice ao kids.length cap]) (.mk p k kids)) := hx
    have HP : Hid (Pds w0 pv ps) := hp
    have HKS : Hid (∀ s ∈ kids, s.sz ≤ m) := fun s hs => by have := T.sz_lt (t := .mk p k kids) hs; omega
    have HE := thr_eq ps p k kids (s0, s1) dd nn ws
    replace HE : Hid (_ = _) := HE
    obtain ⟨lv, HLV⟩ : ∃ lv, Hid (ws.length = lv) := ⟨_, (rfl : ws.length = ws.length)⟩
    rw [HLV.out] at hk hws
    have HK1 : Hid (Lk w0 na nb gb fb tt n pv nn lv ((w.alloc (Obj.cells #[.int .i64 p, .int .i64 k, .slice ao kids.length cap] 27)).alloc (Obj.cells #[.int .i64 s0, .int .i64 s1] 70))) := hk.next (below_alloc2 _ _ _)
    have c3 : ((w.alloc (Obj.cells #[.int .i64 p, .int .i64 k, .slice ao kids.length cap] 27)).alloc (Obj.cells #[.int .i64 s0, .int .i64 s1] 70)).cell? ⟨na, 0, none⟩ = some (.int .i64 (nn : Int)) := tcell_blk HK1.out.a 0
    have f3 : ((w.alloc (Obj.cells #[.int .i64 p, .int .i64 k, .slice ao kids.length cap] 27)).alloc (Obj.cells #[.int .i64 s0, .int .i64 s1] 70)).frozen? ⟨na, 0, none⟩ = false := tfrozen_blk HK1.out.a 0
    have HG1 : Hid (((w.alloc (Obj.cells #[.int .i64 p, .int .i64 k, .slice ao kids.length cap] 27)).alloc (Obj.cells #[.int .i64 s0, .int .i64 s1] 70)).heap[w.heap.size]? = some (.cells #[.int .i64 p, .int .i64 k, .slice ao kids.length cap] 27) ∧ ((w.alloc (Obj.cells #[.int .i64 p, .int .i64 k, .slice ao kids.length cap] 27)).alloc (Obj.cells #[.int .i64 s0, .int .i64 s1] 70)).heap[w.heap.size + 1]? = some (.cells #[.int .i64 s0, .int .i64 s1] 70)) := by
      refine ⟨tbox_next (heap_alloc_new _ _) (below_alloc _ _), ?_⟩
      have := heap_alloc_new (w.alloc (Obj.cells #[.int .i64 p, .int .i64 k, .slice ao kids.length cap] 27)) (Obj.cells #[.int .i64 s0, .int .i64 s1] 70)
      rw [show (w.alloc (Obj.cells #[.int .i64 p, .int .i64 k, .slice ao kids.length cap] 27)).heap.size = w.heap.size + 1 by simp] at this
      exact this
    have HF1 : Hid (Fy Z3 w ((w.alloc (Obj.cells #[.int .i64 p, .int .i64 k, .slice ao kids.length cap] 27)).alloc (Obj.cells #[.int .i64 s0, .int .i64 s1] 70))) := Fy.of (below_alloc2 _ _ _)
    clear hx hp hk
    obtain ⟨wb, HWB⟩ : ∃ wb, Hid (((w.alloc (Obj.cells #[.int .i64 p, .int .i64 k, .slice ao kids.length cap] 27)).alloc (Obj.cells #[.int .i64 s0, .int .i64 s1] 70)) = wb) := ⟨_, (rfl : ((w.alloc (Obj.cells #[.int .i64 p, .int .i64 k, .slice ao kids.length cap] 27)).alloc (Obj.cells #[.int .i64 s0, .int .i64 s1] 70)) = ((w.alloc (Obj.cells #[.int .i64 p, .int .i64 k, .slice ao kids.length cap] 27)).alloc (Obj.cells #[.int .i64 s0, .int .i64 s1] 70)))⟩
    go_enter Try.func31, Try.ntmps31
    go_upto_region 1 with fail
    rw [HWB.out] at HK1 c3 f3 HG1 HF1 ⊢
    clear HWB
    have HK2 : Hid (Lk w0 na nb gb fb tt n pv (nn + 1) lv (wb.setCell ⟨na, 0, none⟩ (.int .i64 ((nn : Int) + 1)))) := HK1.out.setA (nn + 1)
    have HG2 : Hid ((wb.setCell ⟨na, 0, none⟩ (.int .i64 ((nn : Int) + 1))).heap[w.heap.size]? = some (.cells #[.int .i64 p, .int .i64 k, .slice ao kids.length cap] 27) ∧ (wb.setCell ⟨na, 0, none⟩ (.int .i64 ((nn : Int) + 1))).heap[w.heap.size + 1]? = some (.cells #[.int .i64 s0, .int .i64 s1] 70)) :=
      ⟨heap_apart HG1.out.1 (ty_apart HG1.out.1 HK1.out.a (by decide)), heap_apart HG1.out.2 (ty_apart HG1.out.2 HK1.out.a (by decide))⟩
    have HF2 : Hid (Fy Z3 w (wb.setCell ⟨na, 0, none⟩ (.int .i64 ((nn : Int) + 1)))) := HF1.out.trans (Fy.set HK1.out.a (show Z3 3 from rfl) _)
    go_upto_region 2 with fail
    clear HK1 HG1 HF1 c3 f3
    generalize wb.setCell ⟨na, 0, none⟩ (.int .i64 ((nn : Int) + 1)) = W2 at HK2 HG2 HF2 ⊢
    have c3 : W2.cell? ⟨na, 0, none⟩ = some (.int .i64 ((nn : Int) + 1)) := tcell_blk HK2.out.a 0
    have c4 : W2.cell? ⟨nb, 0, none⟩ = some (.int .i64 (lv : Int)) := tcell_blk HK2.out.b 0
    have f4 : W2.frozen? ⟨nb, 0, none⟩ = false := tfrozen_blk HK2.out.b 0
    have e0 : W2.cell? ⟨w.heap.size, 0, none⟩ = some (.int .i64 p) := tcell_blk HG2.out.1 0
    have e1 : W2.cell? ⟨w.heap.size, 1, none⟩ = some (.int .i64 k) := tcell_blk HG2.out.1 1
    have e2 : W2.cell? ⟨w.heap.size, 2, none⟩ = some (.slice ao kids.length cap) := tcell_blk HG2.out.1 2
    have e3 : W2.cell? ⟨w.heap.size + 1, 0, none⟩ = some (.int .i64 s0) := tcell_blk HG2.out.2 0
    have e4 : W2.cell? ⟨w.heap.size + 1, 1, none⟩ = some (.int .i64 s1) := tcell_blk HG2.out.2 1
    by_cases h1 : 1000 < nn + 1
    · have h1' : decide ((1000 : Int) < (nn : Int) + 1) = true := by simp; omega
      have HE2 : Hid (thr ps (.mk p k kids) (s0, s1) dd nn ws = (2, nn + 1, ws)) := by show _ = _; rw [HE.out, if_pos h1]
      go_wp2_with fail
      go_ret
      rw [HE2.out]
      exact ⟨rfl, by show Lk _ _ _ _ _ _ _ _ (nn + 1) ws.length _; rw [HLV.out]; exact HK2.out, HF2.out⟩
    · have h1' : decide ((1000 : Int) < (nn : Int) + 1) = false := by simp; omega
      by_cases h2 : 100 < dd
      · have h2' : decide ((100 : Int) < (dd : Int)) = true := by simp; omega
        have HE2 : Hid (thr ps (.mk p k kids) (s0, s1) dd nn ws = (7, nn + 1, ws)) := by show _ = _; rw [HE.out, if_neg h1, if_pos h2]
        go_wp2_with fail
        go_ret
        rw [HE2.out]
        exact ⟨rfl, by show Lk _ _ _ _ _ _ _ _ (nn + 1) ws.length _; rw [HLV.out]; exact HK2.out, HF2.out⟩
      · have h2' : decide ((100 : Int) < (dd : Int)) = false := by simp; omega
        have HE2 : Hid (thr ps (.mk p k kids) (s0, s1) dd nn ws = if may ps p k kids.length (s0, s1) ws.length = true then (if s0 = 1 then (0, nn + 1, ws ++ [s1]) else thrL ps kids (bodyOf ps p) (dd + 1) (nn + 1) ws) else (4, nn + 1, ws)) := by show _ = _; rw [HE.out, if_neg h1, if_neg h2]
        have HN1 : Hid (nn + 1 ≤ 1000 ∧ dd ≤ 100) := by show _ ∧ _; omega
        have HBAD : Hid (may ps p k kids.length (s0, s1) lv = false → ((4 : Nat) = (thr ps (.mk p k kids) (s0, s1) dd nn ws).1) ∧ LkP w0 na nb gb fb tt n pv (thr ps (.mk p k kids) (s0, s1) dd nn ws) w W2) := fun hf => by
          rw [HE2.out, HLV.out, hf]
          exact ⟨rfl, by show Lk _ _ _ _ _ _ _ _ (nn + 1) ws.length _; rw [HLV.out]; exact HK2.out, HF2.out⟩
        clear HE h1 h2
        by_cases h4 : s0 = 1
        · subst h4
          have hs1 : ((1 : Int) == 1) = true := rfl
          by_cases g1 : p = -1
          · subst g1
            have hb1 : ((-1 : Int) != -1) = false := rfl
            by_cases g2 : k = (lv : Int)
            · subst g2
              have hb2 : ((lv : Int) != (lv : Int)) = false := by simp
              by_cases g3 : kids = []
              · subst g3
                have HE4 : Hid (thr ps (.mk (-1) (lv : Int) []) (1, s1) dd nn ws = (0, nn + 1, ws ++ [s1])) := by show _ = _; rw [HE2.out, HLV.out, if_pos (by simp [may, isOf]), if_pos rfl]
                have HFIN : Hid (LkP w0 na nb gb fb tt n pv (thr ps (.mk (-1) (lv : Int) []) (1, s1) dd nn ws) w (W2.setCell ⟨nb, 0, none⟩ (.int .i64 ((lv : Int) + 1)))) := by
                  show LkP _ _ _ _ _ _ _ _ _ _ _
                  rw [HE4.out]
                  refine ⟨?_, HF2.out.trans (Fy.set HK2.out.b (show Z3 3 from rfl) _)⟩
                  show Lk _ _ _ _ _ _ _ _ (nn + 1) (ws ++ [s1]).length _
                  rw [List.length_append, HLV.out]
                  exact HK2.out.setB (lv + 1)
                have hlv : lv ≤ 1000 := by omega
                have hkl : (([] : List T).length : Nat) = 0 := rfl
                rw [hkl] at e2
                go_wp2_with fail
                go_ret
                exact ⟨by rw [HE4.out]; rfl, HFIN.out⟩
              · have hkl : ((kids.length : Int) != 0) = true := by simp; exact g3
                have HM : Hid (may ps (-1) (lv : Int) kids.length (1, s1) lv = false) := by show _ = _; simp [may, g3]
                go_wp2_with fail
                go_ret
                have := HBAD.out HM.out
                exact ⟨by rw [← this.1]; rfl, this.2⟩
            · have hb2 : (k != (lv : Int)) = true := by simp; exact g2
              have HM : Hid (may ps (-1) k kids.length (1, s1) lv = false) := by show _ = _; simp [may, g2]
              clear g2
              go_wp2_with fail
              go_ret
              have := HBAD.out HM.out
              exact ⟨by rw [← this.1]; rfl, this.2⟩
          · have hb1 : (p != -1) = true := by simp; exact g1
            have HM : Hid (may ps p k kids.length (1, s1) lv = false) := by show _ = _; simp [may, isOf, g1]
            clear g1
            go_wp2_with fail
            go_ret
            have := HBAD.out HM.out
            exact ⟨by rw [← this.1]; rfl, this.2⟩
        · have hb4 : (s0 == 1) = false := by simp; exact h4
          obtain ⟨go, gc, rfl, hpm, -⟩ := HP.out
          have hg2 : W2.cell? ⟨gb, 2, none⟩ = some (.slice go ps.length gc) := tcell_blk HK2.out.g 2
          by_cases g1 : isPr ps p = true
          · have hle := isPr_le g1
            have hp0 : decide (p < 0) = false := by simp; omega
            have hp1 : decide ((ps.length : Int) ≤ p) = false := by simp; omega
            by_cases g2 : k = 0
            · subst g2
              have hb2 : ((0 : Int) != 0) = false := rfl
              obtain ⟨z, rfl⟩ : ∃ z : Nat, p = (z : Int) := ⟨p.toNat, by omega⟩
              have HG1 : Hid (isPr ps (z : Int) = true) := g1
              obtain ⟨b, o, bo, bc, rfl, -, hbl, hc0, hc1, hsy⟩ := Pds.prod HP.out g1
              simp only [Int.toNat_natCast] at hc0 hc1
              have hc0 : W2.cell? ⟨b, o + z * 2, none⟩ = _ := (HK2.out.bel.cell (p := ⟨b, o + z * 2, none⟩) hbl).trans hc0
              have hc1 : W2.cell? ⟨b, o + z * 2 + 1, none⟩ = _ := (HK2.out.bel.cell (p := ⟨b, o + z * 2 + 1, none⟩) hbl).trans hc1
              obtain ⟨hd0, HHD⟩ : ∃ hd0, Hid (headOf ps (z : Int) = hd0) := ⟨_, (rfl : headOf ps (z : Int) = headOf ps (z : Int))⟩
              rw [HHD.out] at hc0
              obtain ⟨N, HN⟩ : ∃ N, Hid (ps.length = N) := ⟨_, (rfl : ps.length = ps.length)⟩
              have HKG : Hid (Lk w0 na nb gb fb tt n (.slice (some ⟨b, o, none⟩) ps.length gc) (nn + 1) lv W2) := HK2.out
              clear HK2
              rw [HN.out] at hg2 hp1 hle
              obtain ⟨body, HBD⟩ : ∃ body, Hid (bodyOf ps (z : Int) = body) := ⟨_, (rfl : bodyOf ps (z : Int) = bodyOf ps (z : Int))⟩
              rw [HBD.out] at hc1 hsy HE2
              have HSY : Hid (Syms w0 (.slice bo body.length bc) body) := hsy
              obtain ⟨bl, HBL⟩ : ∃ bl, Hid (body.length = bl) := ⟨_, (rfl : body.length = body.length)⟩
              rw [HBL.out] at hc1
              have hz0 : (0 : Int) ≤ (z : Int) := by omega
              have hz : (z : Int) < (N : Int) := hle.2
              have hz2 : z < N := by omega
              have hpc : 0 ≤ (N : Int) := by omega
              have hp2 : decide (N ≤ z) = false := by simp; omega
              clear hle g1 hsy hpm
              have HPB : Hid ((W2.alloc (Obj.cells #[.int .i64 hd0, .slice bo bl bc] 67)).heap[W2.heap.size]? = some (.cells #[.int .i64 hd0, .slice bo bl bc] 67)) := heap_alloc_new _ _
              have HWA : Hid (Below W2.heap.size W2 (W2.alloc (Obj.cells #[.int .i64 hd0, .slice bo bl bc] 67))) := below_alloc _ _
              have e5 : (W2.alloc (Obj.cells #[.int .i64 hd0, .slice bo bl bc] 67)).cell? ⟨w.heap.size + 1, 1, none⟩ = some (.int .i64 s1) := tcell_blk (tbox_next HG2.out.2 HWA.out) 1
              have e6 : (W2.alloc (Obj.cells #[.int .i64 hd0, .slice bo bl bc] 67)).cell? ⟨w.heap.size, 2, none⟩ = some (.slice ao kids.length cap) := tcell_blk (tbox_next HG2.out.1 HWA.out) 2
              by_cases g3 : hd0 = s1 ∧ kids.length = bl
              · obtain ⟨rfl, g4⟩ := g3
                have hb5 : (hd0 != hd0) = false := by simp
                have hb6 : ((bl : Int) != (kids.length : Int)) = false := by rw [g4]; simp
                have HKL : Hid (kids.length = bl) := g4
                clear g4
                have HE4 : Hid (thr ps (.mk (z : Int) 0 kids) (s0, hd0) dd nn ws = thrL ps kids body (dd + 1) (nn + 1) ws) := by
                  show _ = _
                  rw [HE2.out, if_pos (by simp [may, isOf, h4, HG1.out, HHD.out, HBD.out, HKL.out, HBL.out]), if_neg h4]
                clear h4 HBAD HE2
                have HK3 : Hid (Lk w0 na nb gb fb tt n (.slice (some ⟨b, o, none⟩) ps.length gc) (nn + 1) lv (W2.alloc (Obj.cells #[.int .i64 hd0, .slice bo bl bc] 67))) := HKG.out.next HWA.out
                have HF3 : Hid (Fy Z3 w (W2.alloc (Obj.cells #[.int .i64 hd0, .slice bo bl bc] 67))) := HF2.out.trans (Fy.of HWA.out)
                have HG3 : Hid ((W2.alloc (Obj.cells #[.int .i64 hd0, .slice bo bl bc] 67)).heap[w.heap.size]? = some (.cells #[.int .i64 (z : Int), .int .i64 0, .slice ao kids.length cap] 27)) := tbox_next HG2.out.1 HWA.out
                obtain ⟨pb, HPQ⟩ : ∃ pb, Hid (W2.heap.size = pb) := ⟨_, (rfl : W2.heap.size = W2.heap.size)⟩
                have x0 : (W2.alloc (Obj.cells #[.int .i64 hd0, .slice bo bl bc] 67)).cell? ⟨W2.heap.size, 0, none⟩ = some (.int .i64 hd0) := tcell_blk HPB.out 0
                have x1 : (W2.alloc (Obj.cells #[.int .i64 hd0, .slice bo bl bc] 67)).cell? ⟨W2.heap.size, 1, none⟩ = some (.slice bo bl bc) := tcell_blk HPB.out 1
                go_upto_region 16 with fail
                clear e0 e1 e2 e3 e4 e5 e6 c3 c4 f4 hc0 hc1 hg2 HKG HF2 HG2 HWA h1' h2' x0 x1
                rw [HPQ.out] at HPB ⊢
                clear HPQ
                generalize (W2.alloc (Obj.cells #[.int .i64 hd0, .slice bo bl bc] 67)) = W4 at HK3 HF3 HG3 HPB ⊢
                have H0 : Hid ((thrL ps (kids.take 0) body (dd + 1) (nn + 1) ws) = (0, nn + 1, ws)) := by show _ = _; rw [List.take_zero, thrL]
                go_wp2_with fail
                go_loopw [12, 13] (fun y z13 wr => ∃ i : Nat, i ≤ bl ∧ y = .int .i64 (i : Int) ∧ Hid ((thrL ps (kids.take i) body (dd + 1) (nn + 1) ws).1 = 0 ∧ (thrL ps (kids.take i) body (dd + 1) (nn + 1) ws).2.1 ≤ 1000 ∧ (thrL ps (kids.take i) body (dd + 1) (nn + 1) ws).2.2.length ≤ (thrL ps (kids.take i) body (dd + 1) (nn + 1) ws).2.1 ∧ Lk w0 na nb gb fb tt n (.slice (some ⟨b, o, none⟩) ps.length gc) (thrL ps (kids.take i) body (dd + 1) (nn + 1) ws).2.1 (thrL ps (kids.take i) body (dd + 1) (nn + 1) ws).2.2.length wr ∧ Fy Z3 w wr ∧ wr.heap[w.heap.size]? = some (.cells #[.int .i64 (z : Int), .int .i64 0, .slice ao kids.length cap] 27) ∧ wr.heap[pb]? = some (.cells #[.int .i64 hd0, .slice bo bl bc] 67))) (fun y _ _ => bl - (intOf y).toNat)
                case atStart =>
                  refine ⟨0, by omega, rfl, ?_⟩
                  rw [H0.out]
                  exact ⟨rfl, HN1.out.1, by show ws.length ≤ nn + 1; rw [HLV.out]; omega, by show Lk _ _ _ _ _ _ _ _ (nn + 1) ws.length _; rw [HLV.out]; exact HK3.out, HF3.out, HG3.out, HPB.out⟩
                case round =>
                  obtain ⟨i, hi, rfl, HI⟩ := hrel
                  clear HK3 HF3 HG3 HPB H0
                  have p1 : wr.cell? ⟨pb, 1, none⟩ = some (.slice bo bl bc) := tcell_blk HI.out.2.2.2.2.2.2 1
                  by_cases hlt : i < bl
                  · have hib : i < body.length := by rw [HBL.out]; exact hlt
                    have hik : i < kids.length := by rw [HKL.out]; exact hlt
                    obtain ⟨b2, o2, p', k', a', n', c', rfl, KD⟩ := HX.out.kid i hik
                    obtain ⟨bo2, bc2, hse, -, hsc⟩ := HSY.out
                    simp only [Value.slice.injEq] at hse
                    obtain ⟨rfl, -, rfl⟩ := hse
                    obtain ⟨b3, o3, rfl, hb3, hsc⟩ := hsc.resolve_left (by intro e; subst e; simp at hib)
                    obtain ⟨g0, g1⟩ := hsc i hib
                    obtain ⟨n1, HNN⟩ : ∃ n1, Hid ((thrL ps (kids.take i) body (dd + 1) (nn + 1) ws).2.1 = n1) := ⟨_, (rfl : (thrL ps (kids.take i) body (dd + 1) (nn + 1) ws).2.1 = (thrL ps (kids.take i) body (dd + 1) (nn + 1) ws).2.1)⟩
                    obtain ⟨ws1, HW1⟩ : ∃ ws1, Hid ((thrL ps (kids.take i) body (dd + 1) (nn + 1) ws).2.2 = ws1) := ⟨_, (rfl : (thrL ps (kids.take i) body (dd + 1) (nn + 1) ws).2.2 = (thrL ps (kids.take i) body (dd + 1) (nn + 1) ws).2.2)⟩
                    obtain ⟨x0, x1, HXX⟩ : ∃ x0 x1, Hid (body[i] = (x0, x1)) := ⟨_, _, (rfl : body[i] = (body[i].1, body[i].2))⟩
                    rw [HXX.out] at g0 g1
                    obtain ⟨r, HRR⟩ : ∃ r, Hid (thr ps kids[i] (x0, x1) (dd + 1) n1 ws1 = r) := ⟨_, (rfl : thr ps kids[i] (x0, x1) (dd + 1) n1 ws1 = thr ps kids[i] (x0, x1) (dd + 1) n1 ws1)⟩
                    have HT : Hid ((thrL ps (kids.take (i + 1)) body (dd + 1) (nn + 1) ws) = r) := by
                      show _ = _
                      have hl : (kids.take i).length = i := by rw [List.length_take]; omega
                      have hg : body.getD i (0, 0) = (x0, x1) := by rw [List.getD_eq_getElem?_getD, List.getElem?_eq_getElem hib]; exact HXX.out
                      rw [List.take_succ_eq_append_getElem hik, thrL_snoc, if_pos HI.out.1, hl, hg, HNN.out, HW1.out, HRR.out]
                    have HI2 := HI.out
                    rw [HNN.out, HW1.out] at HI2
                    obtain ⟨-, hi1, hi2, hi3, hi4, hi5, hi6⟩ := HI2
                    have hbw := hi3.bel
                    have HKP : Hid (∀ X : Kp (Sb wr), Lk w0 na nb gb fb tt n (.slice (some ⟨b, o, none⟩) ps.length gc) n1 ws1.length X.W ∧ X.W.heap[w.heap.size]? = some (.cells #[.int .i64 (z : Int), .int .i64 0, .slice (some ⟨b2, o2, none⟩) kids.length cap] 27) ∧ X.W.heap[pb]? = some (.cells #[.int .i64 hd0, .slice (some ⟨b3, o3, none⟩) bl bc] 67) ∧ Fy Z3 w X.W) := fun X => ⟨hi3.next X.h, tbox_next hi5 X.h, tbox_next hi6 X.h, hi4.trans (Fy.of X.h)⟩
                    have HCL : Hid (∀ X : Kp (Sb wr), Calls Try.prog 31 #[.agg #[.int .i64 p', .int .i64 k', .slice a' n' c'], .agg #[.int .i64 x0, .int .i64 x1], .int .i64 ((dd : Int) + 1), .pointer (some ⟨na, 0, none⟩), .pointer (some ⟨nb, 0, none⟩), .pointer (some ⟨gb, 0, none⟩), .pointer (some ⟨fb, 0, none⟩)] X.W fun e w' => e = .returned (.int .i64 (r.1 : Int)) ∧ LkP w0 na nb gb fb tt n (.slice (some ⟨b, o, none⟩) ps.length gc) r X.W w') := fun X => by
                      have := HIH.out kids[i] (HKS.out _ (List.getElem_mem hik)) (.agg #[.int .i64 p', .int .i64 k', .slice a' n' c']) x0 x1 (dd + 1) n1 ws1 X.W KD.tx (by have := HN1.out; omega) hi1 hi2 (HKP.out X).1
                      rw [HRR.out] at this
                      rw [show (dd : Int) + 1 = ((dd + 1 : Nat) : Int) by omega]
                      exact this
                    have hk1 : (i : Int) < (bl : Int) := by omega
                    have hk2 : (i : Int) < (kids.length : Int) := by omega
                    have hk0 : (0 : Int) ≤ (i : Int) := by omega
                    have HER : Hid (r.1 = 0 → r.2.1 ≤ 1000 ∧ r.2.2.length ≤ r.2.1) := fun e => by
                      obtain ⟨r0, r1, r2⟩ := r
                      simp only at e; subst e
                      exact thr_bound hi2 HRR.out
                    clear hi1 hi2 hi3 hi4 hi5 hi6 HI
                    go_upto_region 19 with fail
                    clear p1
                    have hne : Nonempty (Kp (Sb wr)) := ⟨⟨_, Sb.drew wr⟩⟩
                    have p0 : ∀ X : Kp (Sb wr), X.W.cell? ⟨fb, 0, none⟩ = some (.func (Fn.func 31) #[] #[.pointer (some ⟨na, 0, none⟩), .pointer (some ⟨nb, 0, none⟩), .pointer (some ⟨gb, 0, none⟩), .pointer (some ⟨fb, 0, none⟩)]) := fun X => tcell_blk (HKP.out X).1.f 0
                    have p2 : ∀ X : Kp (Sb wr), X.W.cell? ⟨w.heap.size, 2, none⟩ = some (.slice (some ⟨b2, o2, none⟩) kids.length cap) := fun X => tcell_blk (HKP.out X).2.1 2
                    have p3 : ∀ X : Kp (Sb wr), X.W.cell? ⟨pb, 1, none⟩ = some (.slice (some ⟨b3, o3, none⟩) bl bc) := fun X => tcell_blk (HKP.out X).2.2.1 1
                    have q0 : ∀ X : Kp (Sb wr), X.W.cell? ⟨b2, o2 + i * 3, none⟩ = some (.int .i64 p') := fun X => ((HKP.out X).1.bel.cell (p := ⟨b2, o2 + i * 3, none⟩) KD.lt).trans KD.c0
                    have q1 : ∀ X : Kp (Sb wr), X.W.cell? ⟨b2, o2 + i * 3 + 1, none⟩ = some (.int .i64 k') := fun X => ((HKP.out X).1.bel.cell (p := ⟨b2, o2 + i * 3 + 1, none⟩) KD.lt).trans KD.c1
                    have q2 : ∀ X : Kp (Sb wr), X.W.cell? ⟨b2, o2 + i * 3 + 2, none⟩ = some (.slice a' n' c') := fun X => ((HKP.out X).1.bel.cell (p := ⟨b2, o2 + i * 3 + 2, none⟩) KD.lt).trans KD.c2
                    have q3 : ∀ X : Kp (Sb wr), X.W.cell? ⟨b3, o3 + i * 2, none⟩ = some (.int .i64 x0) := fun X => ((HKP.out X).1.bel.cell (p := ⟨b3, o3 + i * 2, none⟩) hb3).trans g0
                    have q4 : ∀ X : Kp (Sb wr), X.W.cell? ⟨b3, o3 + i * 2 + 1, none⟩ = some (.int .i64 x1) := fun X => ((HKP.out X).1.bel.cell (p := ⟨b3, o3 + i * 2 + 1, none⟩) hb3).trans g1
                    clear KD g0 g1 hsc hbw
                    refine wp_region_chain (S := Sb wr) [_, _, _, _, _, _, _, _, _, _, _, _, _] [_, _] mixed (by kernel_rfl) (Sb.drew wr) ?_
                    simp only [List.cons_append, List.nil_append]
                    repeat (go_big_quiet_step (fail))
                    refine wpQuiet_nil ?_
                    intro X
                    by_cases he : r.1 = 0
                    · go_wp2_with fail
                      refine (HCL.out X).mono ?_
                      rintro _ W5 ⟨rfl, hth⟩
                      rw [he]
                      have HR5 : Hid (LkP w0 na nb gb fb tt n (.slice (some ⟨b, o, none⟩) ps.length gc) r X.W W5) := hth
                      clear hth p0 p2 p3 q0 q1 q2 q3 q4 hne
                      go_wp2_with fail
                      go_roundw
                      case rel =>
                        refine ⟨i + 1, by omega, by go_num, ?_⟩
                        refine ⟨by rw [HT.out]; exact he, by rw [HT.out]; exact (HER.out he).1, by rw [HT.out]; exact (HER.out he).2, by rw [HT.out]; exact HR5.out.1, (HKP.out X).2.2.2.trans HR5.out.2, HR5.out.2.2 _ _ _ _ (HKP.out X).2.1 (by unfold Z3; omega), HR5.out.2.2 _ _ _ _ (HKP.out X).2.2.1 (by unfold Z3; omega)⟩
                      case measure => simp [intOf]; omega
                    · have hz1 : ((r.1 : Int) != 0) = true := by simp; omega
                      have HFF : Hid (thrL ps kids body (dd + 1) (nn + 1) ws = r) := by
                        show _ = _
                        have := thrL_stop ps (kids.take (i + 1)) (kids.drop (i + 1)) (dd + 1) body (nn + 1) ws (by rw [HT.out]; exact he)
                        rw [List.take_append_drop, HT.out] at this
                        exact this
                      go_wp2_with fail
                      refine (HCL.out X).mono ?_
                      rintro _ W5 ⟨rfl, hth⟩
                      have HR5 : Hid (LkP w0 na nb gb fb tt n (.slice (some ⟨b, o, none⟩) ps.length gc) r X.W W5) := hth
                      clear hth p0 p2 p3 q0 q1 q2 q3 q4 hne
                      go_wp2_with fail
                      go_ret
                      rw [HE4.out, HFF.out]
                      exact ⟨rfl, HR5.out.1, (HKP.out X).2.2.2.trans HR5.out.2⟩
                  · have hk1 : ¬ (i : Int) < (bl : Int) := by omega
                    go_wp2_with fail
                    go_ret
                    have h4 := HI.out
                    have e : kids.take i = kids := List.take_of_length_le (by rw [HKL.out]; omega)
                    rw [e] at h4
                    rw [HE4.out]
                    exact ⟨by rw [h4.1]; rfl, h4.2.2.2.1, h4.2.2.2.2.1⟩
              · have HM : Hid (may ps (z : Int) 0 kids.length (s0, s1) lv = false) := by
                  show _ = _
                  simp only [may, isOf, if_neg h4, HHD.out, HBD.out, HBL.out]
                  simp
                  intro _ e1
                  exact fun e2 => g3 ⟨e1, e2⟩
                have HFIN : Hid (LkP w0 na nb gb fb tt n (.slice (some ⟨b, o, none⟩) ps.length gc) (thr ps (.mk (z : Int) 0 kids) (s0, s1) dd nn ws) w (W2.alloc (Obj.cells #[.int .i64 hd0, .slice bo bl bc] 67))) := ⟨(HBAD.out HM.out).2.1.next HWA.out, (HBAD.out HM.out).2.2.trans (Fy.of HWA.out)⟩
                by_cases g5 : hd0 = s1
                · subst g5
                  have hb5 : (hd0 != hd0) = false := by simp
                  have hb6 : ((bl : Int) != (kids.length : Int)) = true := by simp; intro e; exact g3 ⟨rfl, by omega⟩
                  clear g3 h4
                  go_wp2_with fail
                  go_ret
                  exact ⟨by rw [← (HBAD.out HM.out).1]; rfl, HFIN.out⟩
                · have hb5 : (hd0 != s1) = true := by simp; exact g5
                  clear g3 h4 g5
                  go_wp2_with fail
                  go_ret
                  exact ⟨by rw [← (HBAD.out HM.out).1]; rfl, HFIN.out⟩
            · have hb2 : (k != 0) = true := by simp; exact g2
              have HM : Hid (may ps p k kids.length (s0, s1) lv = false) := by show _ = _; simp [may, h4, g2]
              clear g2 h4
              go_wp2_with fail
              go_ret
              have := HBAD.out HM.out
              exact ⟨by rw [← this.1]; rfl, this.2⟩
          · have HM : Hid (may ps p k kids.length (s0, s1) lv = false) := by show _ = _; simp [may, isOf, h4, g1]
            by_cases g5 : p < 0
            · have hp0 : decide (p < 0) = true := by simp; exact g5
              clear g1 h4
              go_wp2_with fail
              go_ret
              have := HBAD.out HM.out
              exact ⟨by rw [← this.1]; rfl, this.2⟩
            · have hp0 : decide (p < 0) = false := by simp; omega
              have hp1 : decide ((ps.length : Int) ≤ p) = true := by
                simp
                unfold isPr at g1
                simp at g1
                omega
              clear g1 h4 g5
              go_wp2_with fail
              go_ret
              have := HBAD.out HM.out
              exact ⟨by rw [← this.1]; rfl, this.2⟩
end Go.Proofs.Ytldfiofgknmcgaa
