/-
  The contract of pushkeep.made: the automaton of rules, or none. The automaton of one letter; what a Tag is of the automaton of rules.
-/
import Derived.Test.YtlmlkpdppkgenaaWMake
import Derived.Test.YtlmlkpdppkgenaaPmLaw0
import Derived.Test.YtlmlkpdppkgenaaWDf
import Derived.Test.YtlmlkpdppkgenaaMxL
namespace Go.Proofs.Ytlmlkpdppkgenaa
open Go.RowKit
open Cls Po Rex Dm

/-- The Posn of rules. -/
def posX (xs : List Rex.E) : P := Pm.rulesX xs 0 Pm.p00
/-- What made leaves. -/
def MadeP (ts : List T) (xs : List Rex.E) (w : World) (e : Ending) (w' : World) : Prop :=
  Below w.heap.size w w' ∧ ((e = .returned (.tuple #[.agg #[.slice none 0 0, .slice none 0 0], .bool false]) ∧ (mkAns ts xs ≠ 0 ∨ ∃ k, Dm.End (posX xs) k ∧ 200 < (G (posX xs) k).length)) ∨
    (mkAns ts xs = 0 ∧ ∃ k rb rc tb tc, All (posX xs) k ∧ k ≤ 200 ∧ e = .returned (.tuple #[.agg #[.slice (some ⟨rb, 0, none⟩) k rc, .slice (some ⟨tb, 0, none⟩) k tc], .bool true]) ∧ Df.Rw w' (.slice (some ⟨rb, 0, none⟩) k rc) k (rowF (posX xs) (G (posX xs) k)) ∧ Df.Ts w' (.slice (some ⟨tb, 0, none⟩) k tc) k (tagF (posX xs) (G (posX xs) k))))
theorem rw_ne {W : World} {b k c g : Nat} {R : Nat → Nat → Int} (h : Df.Rw W (.slice (some ⟨b, 0, none⟩) k c) k R) (hk : 0 < k) {f : Nat → Value} (hf : ∃ a n c, f 0 = .slice a n c) (hr : W.rowIs g 30 2 f) : b ≠ g := by
  rintro rfl
  obtain ⟨ao, cp, he, -, -, h | ⟨b2, o, h1, h2, h3⟩⟩ := h
  · omega
  · cases he
    cases h1
    have e := h3 0 hk 0 (by omega)
    have e2 := hr.cell (i := 0) (by omega)
    obtain ⟨a, n, c, hf⟩ := hf
    rw [hf] at e2
    simp only [Nat.zero_mul, Nat.add_zero] at e
    rw [e] at e2; cases e2
theorem ts_ne {W : World} {b k c g : Nat} {R : Nat → Int} (h : Df.Ts W (.slice (some ⟨b, 0, none⟩) k c) k R) (hk : 0 < k) {f : Nat → Value} (hf : ∃ a n c, f 0 = .slice a n c) (hr : W.rowIs g 30 2 f) : b ≠ g := by
  rintro rfl
  obtain ⟨ao, cp, he, -, -, h | ⟨b2, o, h1, h2, h3⟩⟩ := h
  · omega
  · cases he
    cases h1
    have e := h3 0 hk
    have e2 := hr.cell (i := 0) (by omega)
    obtain ⟨a, n, c, hf⟩ := hf
    rw [hf] at e2
    simp only [Nat.add_zero] at e
    rw [e] at e2; cases e2
theorem rw_same {W W' : World} {b k c : Nat} {R : Nat → Nat → Int} (h : Df.Rw W (.slice (some ⟨b, 0, none⟩) k c) k R) (hs : W.heap.size ≤ W'.heap.size) (e : W'.heap[b]? = W.heap[b]?) : Df.Rw W' (.slice (some ⟨b, 0, none⟩) k c) k R := by
  obtain ⟨ao, cp, he, h0, h1, h2⟩ := h
  refine ⟨ao, cp, he, h0, h1, h2.imp id ?_⟩
  rintro ⟨b9, o9, rfl, hb9, hc9⟩
  cases he
  exact ⟨b, 0, rfl, Nat.lt_of_lt_of_le hb9 hs, fun i hi j hj => (cell_as e _).trans (hc9 i hi j hj)⟩
theorem ts_same {W W' : World} {b k c : Nat} {R : Nat → Int} (h : Df.Ts W (.slice (some ⟨b, 0, none⟩) k c) k R) (hs : W.heap.size ≤ W'.heap.size) (e : W'.heap[b]? = W.heap[b]?) : Df.Ts W' (.slice (some ⟨b, 0, none⟩) k c) k R := by
  obtain ⟨ao, cp, he, h0, h1, h2⟩ := h
  refine ⟨ao, cp, he, h0, h1, h2.imp id ?_⟩
  rintro ⟨b9, o9, rfl, hb9, hc9⟩
  cases he
  exact ⟨b, 0, rfl, Nat.lt_of_lt_of_le hb9 hs, fun i hi => (cell_as e _).trans (hc9 i hi)⟩

set_option maxHeartbeats 8000000 in
set_option maxRecDepth 20000 in
theorem made_any (v : Value) (ts : List T) (xs : List Rex.E) (w : World) (ht : Rxs w w.heap.size v ts) (hx : mkErr ts = 0 → Pm.Rts ts xs) :
    Calls Try.prog 13 #[v] w fun e w' => MadeP ts xs w e w' := by
  have HTS : Hid (Rxs w w.heap.size v ts) := ht
  obtain ⟨ao, cap, vals, rfl, hm, -, -⟩ := ht
  have hb0 := (Below.refl w.heap.size w).alloc (Nat.le_refl _) (Obj.cells #[.slice none 0 0, .slice none 0 0] 30)
  have hr0 := row_new2 w
  obtain ⟨w0, HW0⟩ : ∃ z, Hid (w.alloc (Obj.cells #[.slice none 0 0, .slice none 0 0] 30) = z) := ⟨_, (rfl : _ = _)⟩
  rw [HW0.out] at hb0 hr0
  have HB0 : Hid (Below w.heap.size w w0 ∧ w0.rowIs w.heap.size 30 2 (fun _ => .slice none 0 0)) := ⟨hb0, hr0⟩
  have HTS0 : Hid (Rxs w0 w0.heap.size (.slice ao ts.length cap) ts) := (HTS.out.next hb0).wide hb0.size
  have HL0 : Hid (w.heap.size < w0.heap.size) := hr0.lt
  clear hb0 hr0 HTS
  obtain ⟨tl, HTL⟩ : ∃ z, Hid (ts.length = z) := ⟨_, (rfl : _ = _)⟩
  by_cases h0 : mkAns ts xs = 0
  · have HRT : Hid (Pm.Rts ts xs) := hx (mkAns_fine h0).1
    have HLN : Hid (1 ≤ ts.length ∧ ts.length ≤ 20 ∧ Pm.errL ts = 0) := mkErr_len (mkAns_fine h0).1
    obtain ⟨P0, HP0⟩ : ∃ P0, Hid (posX xs = P0) := ⟨_, (rfl : _ = _)⟩
    have HRI : Hid (Pm.RI xs xs.length P0) := by rw [← HP0.out]; exact Pm.ri_all xs
    have HOK : Hid (Po.ok P0 = true ∧ P0.cls.length ≤ 200) := ⟨Pm.ri_ok HRI.out (by rw [HRT.out.len]; exact HLN.out.1) (by rw [HRT.out.len]; exact HLN.out.2.1), by rw [← HP0.out]; exact (mkAns_fine h0).2⟩
    have HCK : Hid (chk P0 = 0) := Po.chk_fine HOK.out.1 (by have := HOK.out.2; omega)
    have hcm := PMake_fine _ ts xs w0 HTS0.out HRT.out h0
    rw [show Pm.rulesX xs 0 Pm.p00 = P0 from HP0.out] at hcm
    have HAN : Hid (mkAns ts xs = 0) := h0
    clear h0 hx
    unfold MadeP
    rw [HP0.out]
    rw [HTL.out] at hcm hm ⊢
    go_enter Try.func13, Try.ntmps13
    go_upto_region 1 with fail
    rw [HW0.out]
    clear HW0
    go_wp2_with fail
    refine hcm.mono ?_
    rintro _ w2 ⟨a, m, d, V, rfl, hpf⟩
    have hb2 := (Below.refl w2.heap.size w2).alloc (Nat.le_refl _) (Obj.cells #[.slice (a 0) (m 0) (d 0), .slice (a 1) (m 1) (d 1), .slice (a 2) (m 2) (d 2), .slice (a 3) (m 3) (d 3), .slice (a 4) (m 4) (d 4), .slice (a 5) (m 5) (d 5)] 27)
    have HPN : Hid (Pn (w2.alloc (Obj.cells #[.slice (a 0) (m 0) (d 0), .slice (a 1) (m 1) (d 1), .slice (a 2) (m 2) (d 2), .slice (a 3) (m 3) (d 3), .slice (a 4) (m 4) (d 4), .slice (a 5) (m 5) (d 5)] 27)) (.slice (a 0) (m 0) (d 0)) (.slice (a 1) (m 1) (d 1)) (.slice (a 2) (m 2) (d 2)) (.slice (a 3) (m 3) (d 3)) (.slice (a 4) (m 4) (d 4)) (.slice (a 5) (m 5) (d 5)) P0) := hpf.pn.below hb2
    have hbw := HB0.out.1.trans ((hpf.bl.trans (hb2.mono hpf.bl.size)).mono HB0.out.1.size)
    have HB2 : Hid (Below w.heap.size w (w2.alloc (Obj.cells #[.slice (a 0) (m 0) (d 0), .slice (a 1) (m 1) (d 1), .slice (a 2) (m 2) (d 2), .slice (a 3) (m 3) (d 3), .slice (a 4) (m 4) (d 4), .slice (a 5) (m 5) (d 5)] 27)) ∧ (w2.alloc (Obj.cells #[.slice (a 0) (m 0) (d 0), .slice (a 1) (m 1) (d 1), .slice (a 2) (m 2) (d 2), .slice (a 3) (m 3) (d 3), .slice (a 4) (m 4) (d 4), .slice (a 5) (m 5) (d 5)] 27)).rowIs w.heap.size 30 2 (fun _ => .slice none 0 0)) := ⟨hbw, HB0.out.2.of_block ((hb2.block _ (Nat.lt_of_lt_of_le HL0.out hpf.bl.size)).trans (hpf.bl.block _ HL0.out))⟩
    have hdm := DMake_ok _ _ _ _ _ _ P0 _ HPN.out HCK.out
    clear hcm hpf hb2 hbw HB0
    go_wp2_with fail
    obtain ⟨w2b, HW2⟩ : ∃ z, Hid (w2.alloc (Obj.cells #[.slice (a 0) (m 0) (d 0), .slice (a 1) (m 1) (d 1), .slice (a 2) (m 2) (d 2), .slice (a 3) (m 3) (d 3), .slice (a 4) (m 4) (d 4), .slice (a 5) (m 5) (d 5)] 27) = z) := ⟨_, (rfl : _ = _)⟩
    rw [HW2.out] at hdm HB2
    rw [HW2.out]
    refine hdm.mono ?_
    rintro _ w3 ⟨k, hend, harm, hb3⟩
    have HB3 : Hid (Below w.heap.size w w3 ∧ w3.rowIs w.heap.size 30 2 (fun _ => .slice none 0 0)) := ⟨HB2.out.1.trans (hb3.mono HB2.out.1.size), HB2.out.2.of_block (hb3.block _ HB2.out.2.lt)⟩
    clear hdm hb3 HB2 HPN HW2
    rcases harm with ⟨hgt, rfl⟩ | ⟨hgk, hk2, rb, rc, tb, tc, rfl, hrw, hts⟩
    · have hb4 := (Below.refl w3.heap.size w3).alloc (Nat.le_refl _) (Obj.cells #[.slice none 0 0, .slice none 0 0] 30)
      have hrs := HB3.out.2.of_block (hb4.block _ HB3.out.2.lt)
      have B4 := HB3.out.1.trans (hb4.mono HB3.out.1.size)
      obtain ⟨w4, HW4⟩ : ∃ z, Hid (w3.alloc (Obj.cells #[.slice none 0 0, .slice none 0 0] 30) = z) := ⟨_, (rfl : _ = _)⟩
      have yr := row_new2 w3
      rw [HW4.out] at hrs B4 yr
      have z0 := hrs.cell (i := 0) (by omega)
      have z1 := hrs.cell (i := 1) (by omega)
      have z2 := hrs.frozen 0
      have z3 := hrs.frozen 1
      have y0 := yr.cell (i := 0) (by omega)
      have y1 := yr.cell (i := 1) (by omega)
      have HE : Hid (Dm.End P0 k ∧ 200 < (G P0 k).length) := ⟨hend, hgt⟩
      clear hend hgt hb4 yr HB3
      go_upto_region 5 with fail
      rw [HW4.out]
      go_wp2_with fail
      have hrow : ((w4.setCell ⟨w.heap.size, 0, none⟩ (.slice none 0 0)).setCell ⟨w.heap.size, 1, none⟩ (.slice none 0 0)).rowIs w.heap.size 30 2 (fun _ => .slice none 0 0) := ((hrs.set 0 _).set 1 _).congr fun i hi => by
        have : i = 0 ∨ i = 1 := by omega
        rcases this with rfl | rfl <;> simp
      have hc0 := hrow.cell (i := 0) (by omega)
      have hc1 := hrow.cell (i := 1) (by omega)
      exact bodyPost_ret (v := .tuple #[.agg #[.slice none 0 0, .slice none 0 0], .bool false]) (by simp [results, Try.results13, go_sem, hc0, hc1]) rfl ⟨(B4.setCell (Nat.le_refl _) _).setCell (Nat.le_refl _) _, Or.inl ⟨rfl, Or.inr ⟨k, HE.out⟩⟩⟩
    · have hkp : 0 < k := hend.1.pos
      have hb4 := (Below.refl w3.heap.size w3).alloc (Nat.le_refl _) (Obj.cells #[.slice (some ⟨rb, 0, none⟩) k rc, .slice (some ⟨tb, 0, none⟩) k tc] 30)
      have hrs := HB3.out.2.of_block (hb4.block _ HB3.out.2.lt)
      have B4 := HB3.out.1.trans (hb4.mono HB3.out.1.size)
      have n1 := rw_ne (f := fun _ => .slice none 0 0) hrw hkp ⟨none, 0, 0, rfl⟩ HB3.out.2
      have n2 := ts_ne (f := fun _ => .slice none 0 0) hts hkp ⟨none, 0, 0, rfl⟩ HB3.out.2
      have hrw4 := hrw.below hb4 (Nat.le_refl _)
      have hts4 := hts.below hb4 (Nat.le_refl _)
      obtain ⟨w4, HW4⟩ : ∃ z, Hid (w3.alloc (Obj.cells #[.slice (some ⟨rb, 0, none⟩) k rc, .slice (some ⟨tb, 0, none⟩) k tc] 30) = z) := ⟨_, (rfl : _ = _)⟩
      have y0 : w4.cell? ⟨w3.heap.size, 0, none⟩ = some (.slice (some ⟨rb, 0, none⟩) k rc) := by rw [← HW4.out]; simp
      have y1 : w4.cell? ⟨w3.heap.size, 1, none⟩ = some (.slice (some ⟨tb, 0, none⟩) k tc) := by rw [← HW4.out]; simp
      rw [HW4.out] at hrs B4 hrw4 hts4
      have z0 := hrs.cell (i := 0) (by omega)
      have z1 := hrs.cell (i := 1) (by omega)
      have z2 := hrs.frozen 0
      have z3 := hrs.frozen 1
      have HE : Hid (All P0 k ∧ k ≤ 200 ∧ rb ≠ w.heap.size ∧ tb ≠ w.heap.size) := ⟨⟨hend.1, hgk, HOK.out.1, HOK.out.2⟩, hk2, n1, n2⟩
      have HRW : Hid (Df.Rw w4 (.slice (some ⟨rb, 0, none⟩) k rc) k (rowF P0 (G P0 k))) := hrw4
      have HTG : Hid (Df.Ts w4 (.slice (some ⟨tb, 0, none⟩) k tc) k (tagF P0 (G P0 k))) := hts4
      clear hend hgk hb4 HB3 n1 n2 hrw4 hts4 hrw hts hkp hk2
      go_upto_region 5 with fail
      rw [HW4.out]
      go_wp2_with fail
      have hrow : ((w4.setCell ⟨w.heap.size, 0, none⟩ (.slice (some ⟨rb, 0, none⟩) k rc)).setCell ⟨w.heap.size, 1, none⟩ (.slice (some ⟨tb, 0, none⟩) k tc)).rowIs w.heap.size 30 2 (dv rb rc k tb tc k) := ((hrs.set 0 _).set 1 _).congr fun i hi => by
        unfold dv
        have : i = 0 ∨ i = 1 := by omega
        rcases this with rfl | rfl <;> simp
      have hc0 := hrow.cell (i := 0) (by omega)
      have hc1 := hrow.cell (i := 1) (by omega)
      simp only [dv] at hc0 hc1
      have hot : ∀ q, q ≠ w.heap.size → ((w4.setCell ⟨w.heap.size, 0, none⟩ (.slice (some ⟨rb, 0, none⟩) k rc)).setCell ⟨w.heap.size, 1, none⟩ (.slice (some ⟨tb, 0, none⟩) k tc)).heap[q]? = w4.heap[q]? := fun q hq => by rw [Below.heap_setCell _ _ _ _ hq, Below.heap_setCell _ _ _ _ hq]
      exact bodyPost_ret (v := .tuple #[.agg #[.slice (some ⟨rb, 0, none⟩) k rc, .slice (some ⟨tb, 0, none⟩) k tc], .bool true]) (by simp [results, Try.results13, go_sem, hc0, hc1]) rfl ⟨(B4.setCell (Nat.le_refl _) _).setCell (Nat.le_refl _) _, Or.inr ⟨HAN.out, k, rb, rc, tb, tc, HE.out.1, HE.out.2.1, rfl, rw_same HRW.out (by simp [World.setCell]) (hot _ HE.out.2.2.1), ts_same HTG.out (by simp [World.setCell]) (hot _ HE.out.2.2.2)⟩⟩
  · obtain ⟨r, HR⟩ : ∃ r, Hid (mkAns ts xs = r) := ⟨_, (rfl : _ = _)⟩
    have hcm := PMake_err _ ts xs w0 HTS0.out hx h0
    rw [HR.out] at hcm
    have HNE : Hid (mkAns ts xs ≠ 0) := h0
    have b0 : (r != 0) = true := by rw [← HR.out]; simpa using h0
    have b1 : (r == 0) = false := by rw [← HR.out]; simpa using h0
    clear h0 hx
    rw [HTL.out] at hcm hm ⊢
    go_enter Try.func13, Try.ntmps13
    go_upto_region 1 with fail
    rw [HW0.out]
    clear HW0
    go_wp2_with fail
    refine hcm.mono ?_
    rintro _ w2 ⟨rfl, hb2⟩
    have hb3 := (Below.refl w2.heap.size w2).alloc (Nat.le_refl _) (Obj.cells #[.slice none 0 0, .slice none 0 0, .slice none 0 0, .slice none 0 0, .slice none 0 0, .slice none 0 0] 27)
    have B3 : Below w.heap.size w (w2.alloc (Obj.cells #[.slice none 0 0, .slice none 0 0, .slice none 0 0, .slice none 0 0, .slice none 0 0, .slice none 0 0] 27)) := HB0.out.1.trans ((hb2.trans (hb3.mono hb2.size)).mono HB0.out.1.size)
    have hrs : (w2.alloc (Obj.cells #[.slice none 0 0, .slice none 0 0, .slice none 0 0, .slice none 0 0, .slice none 0 0, .slice none 0 0] 27)).rowIs w.heap.size 30 2 (fun _ => .slice none 0 0) := HB0.out.2.of_block ((hb3.block _ (Nat.lt_of_lt_of_le HL0.out hb2.size)).trans (hb2.block _ HL0.out))
    obtain ⟨w3, HW3⟩ : ∃ z, Hid (w2.alloc (Obj.cells #[.slice none 0 0, .slice none 0 0, .slice none 0 0, .slice none 0 0, .slice none 0 0, .slice none 0 0] 27) = z) := ⟨_, (rfl : _ = _)⟩
    rw [HW3.out] at B3 hrs
    have z0 := hrs.cell (i := 0) (by omega)
    have z1 := hrs.cell (i := 1) (by omega)
    have z2 := hrs.frozen 0
    have z3 := hrs.frozen 1
    clear hcm hb2 hb3 HB0
    go_upto_region 2 with fail
    rw [HW3.out]
    go_wp2_with fail
    have hrow : ((w3.setCell ⟨w.heap.size, 0, none⟩ (.slice none 0 0)).setCell ⟨w.heap.size, 1, none⟩ (.slice none 0 0)).rowIs w.heap.size 30 2 (fun _ => .slice none 0 0) := ((hrs.set 0 _).set 1 _).congr fun i hi => by
      have : i = 0 ∨ i = 1 := by omega
      rcases this with rfl | rfl <;> simp
    have hc0 := hrow.cell (i := 0) (by omega)
    have hc1 := hrow.cell (i := 1) (by omega)
    exact bodyPost_ret (v := .tuple #[.agg #[.slice none 0 0, .slice none 0 0], .bool false]) (by simp [results, Try.results13, go_sem, hc0, hc1]) rfl ⟨(B3.setCell (Nat.le_refl _) _).setCell (Nat.le_refl _) _, Or.inl ⟨rfl, Or.inl HNE.out⟩⟩
end Go.Proofs.Ytlmlkpdppkgenaa

namespace Go.Proofs.Ytlmlkpdppkgenaa
open Go.RowKit
open Cls Po Rex Dm

theorem all_chk {p : P} {k : Nat} (h : All p k) (hk : k ≤ 200) : Df.Dfa.chk k k (rowF p (G p k)) (tagF p (G p k)) = 0 := by
  unfold Df.Dfa.chk
  have := h.far.pos
  rw [if_neg (by omega), if_neg (by omega), if_pos ⟨h.rows, h.tags⟩]
end Go.Proofs.Ytlmlkpdppkgenaa
