/-
  The contract of places.Make.
-/
import Derived.Test.YtlmlkpdppkgenaaPmMake0
namespace Go.Proofs.Ytlmlkpdppkgenaa
open Go.RowKit
open Cls Po Rex

theorem six {w : World} {g : Nat} {x y z u s r : Value} {t : TypeId} (h : w.heap[g]? = some (.cells #[x, y, z, u, s, r] t)) (a b c d e f : Value) : ((((((w.setCell ⟨g, 0, none⟩ a).setCell ⟨g, 1, none⟩ b).setCell ⟨g, 2, none⟩ c).setCell ⟨g, 3, none⟩ d).setCell ⟨g, 4, none⟩ e).setCell ⟨g, 5, none⟩ f).heap[g]? = some (.cells #[a, b, c, d, e, f] t) := by
  simp [World.setCell, Array.getElem?_modify, h]
theorem six_other (w : World) (g : Nat) (a b c d e f : Value) (k : Nat) (hk : k ≠ g) : ((((((w.setCell ⟨g, 0, none⟩ a).setCell ⟨g, 1, none⟩ b).setCell ⟨g, 2, none⟩ c).setCell ⟨g, 3, none⟩ d).setCell ⟨g, 4, none⟩ e).setCell ⟨g, 5, none⟩ f).heap[k]? = w.heap[k]? := by
  rw [Below.heap_setCell _ _ _ _ hk, Below.heap_setCell _ _ _ _ hk, Below.heap_setCell _ _ _ _ hk, Below.heap_setCell _ _ _ _ hk, Below.heap_setCell _ _ _ _ hk, Below.heap_setCell _ _ _ _ hk]
theorem six_size (w : World) (g : Nat) (a b c d e f : Value) : ((((((w.setCell ⟨g, 0, none⟩ a).setCell ⟨g, 1, none⟩ b).setCell ⟨g, 2, none⟩ c).setCell ⟨g, 3, none⟩ d).setCell ⟨g, 4, none⟩ e).setCell ⟨g, 5, none⟩ f).heap.size = w.heap.size := by simp [World.setCell]
/-- A box of one's own is written. -/
theorem below_six {w0 w : World} {g : Nat} (h : Below g w0 w) (a b c d e f : Value) : Below g w0 ((((((w.setCell ⟨g, 0, none⟩ a).setCell ⟨g, 1, none⟩ b).setCell ⟨g, 2, none⟩ c).setCell ⟨g, 3, none⟩ d).setCell ⟨g, 4, none⟩ e).setCell ⟨g, 5, none⟩ f) :=
  (((((h.setCell (Nat.le_refl _) a).setCell (Nat.le_refl _) b).setCell (Nat.le_refl _) c).setCell (Nat.le_refl _) d).setCell (Nat.le_refl _) e).setCell (Nat.le_refl _) f
theorem cells6 {w : World} {g : Nat} {a b c d e f : Value} {t : TypeId} (h : w.heap[g]? = some (.cells #[a, b, c, d, e, f] t)) : (w.cell? ⟨g, 0, none⟩ = some a ∧ w.cell? ⟨g, 1, none⟩ = some b ∧ w.cell? ⟨g, 2, none⟩ = some c ∧ w.cell? ⟨g, 3, none⟩ = some d ∧ w.cell? ⟨g, 4, none⟩ = some e ∧ w.cell? ⟨g, 5, none⟩ = some f) ∧ ∀ i, w.frozen? ⟨g, i, none⟩ = false := by simp [World.cell?, World.frozen?, h]
/-- What is wrong with rules ahead of all making. -/
def mkErr (ts : List T) : Nat := if ts.length = 0 ∨ 20 < ts.length then 1 else Pm.errL ts
set_option maxHeartbeats 8000000 in
set_option maxRecDepth 20000 in
theorem PMake_bad (v : Value) (ts : List T) (w : World) (ht : Rxs w w.heap.size v ts) (hk : mkErr ts ≠ 0) :
    Calls Try.prog 37 #[v] w fun e w' => e = .returned (.tuple #[.agg #[.slice none 0 0, .slice none 0 0, .slice none 0 0, .slice none 0 0, .slice none 0 0, .slice none 0 0], .int .i64 (mkErr ts : Int)]) ∧ Below w.heap.size w w' := by
  have HTS : Hid (Rxs w w.heap.size v ts) := ht
  obtain ⟨ao, cap, vals, rfl, hm, -, -⟩ := ht
  obtain ⟨r, HR⟩ : ∃ r, Hid (mkErr ts = r) := ⟨_, (rfl : mkErr ts = mkErr ts)⟩
  rw [HR.out] at hk ⊢
  have HB0 : Hid (Below w.heap.size w (w.alloc (Obj.cells #[.slice none 0 0, .slice none 0 0, .slice none 0 0, .slice none 0 0, .slice none 0 0, .slice none 0 0] 27))) := below_alloc1 w _
  have HG0 : Hid ((w.alloc (Obj.cells #[.slice none 0 0, .slice none 0 0, .slice none 0 0, .slice none 0 0, .slice none 0 0, .slice none 0 0] 27)).heap[w.heap.size]? = some (.cells #[.slice none 0 0, .slice none 0 0, .slice none 0 0, .slice none 0 0, .slice none 0 0, .slice none 0 0] 27)) := new_at _ _ rfl
  by_cases h0 : ts.length = 0
  · have b0 : ((ts.length : Int) == 0) = true := by rw [h0]; rfl
    obtain rfl : r = 1 := by rw [← HR.out]; unfold mkErr; rw [if_pos (Or.inl h0)]
    obtain ⟨⟨z0, z1, z2, z3, z4, z5⟩, zf⟩ := cells6 HG0.out
    clear hk h0
    go_enter Try.func37, Try.ntmps37
    go_wp2_with fail
    refine bodyPost_ret (v := .tuple #[.agg #[.slice none 0 0, .slice none 0 0, .slice none 0 0, .slice none 0 0, .slice none 0 0, .slice none 0 0], .int .i64 1]) (by simp [results, Try.results37, go_sem, z0, z1, z2, z3, z4, z5]) rfl ⟨rfl, HB0.out⟩
  · have b0 : ((ts.length : Int) == 0) = false := by simp; intro e; exact h0 (by rw [e]; rfl)
    by_cases h2 : 20 < ts.length
    · have b1 : decide ((20 : Int) < (ts.length : Int)) = true := by simp; omega
      obtain rfl : r = 1 := by rw [← HR.out]; unfold mkErr; rw [if_pos (Or.inr h2)]
      obtain ⟨⟨z0, z1, z2, z3, z4, z5⟩, zf⟩ := cells6 HG0.out
      clear hk h0
      go_enter Try.func37, Try.ntmps37
      go_wp2_with fail
      refine bodyPost_ret (v := .tuple #[.agg #[.slice none 0 0, .slice none 0 0, .slice none 0 0, .slice none 0 0, .slice none 0 0, .slice none 0 0], .int .i64 1]) (by simp [results, Try.results37, go_sem, z0, z1, z2, z3, z4, z5]) rfl ⟨rfl, HB0.out⟩
    · have b1 : decide ((20 : Int) < (ts.length : Int)) = false := by simp; omega
      have HRE : Hid (Pm.errL ts = r) := by show _ = _; rw [← HR.out]; unfold mkErr; rw [if_neg (by omega)]
      clear h0 HR
      go_enter Try.func37, Try.ntmps37
      go_wp2_with fail
      clear b0 b1
      go_loopw [21] (fun i wr => ∃ q : Nat, q ≤ ts.length ∧ i = .int .i64 (q : Int) ∧ Hid (Pm.errL ts = Pm.errL (ts.drop q)) ∧ Hid (Below w.heap.size w wr ∧ wr.heap[w.heap.size]? = some (.cells #[.slice none 0 0, .slice none 0 0, .slice none 0 0, .slice none 0 0, .slice none 0 0, .slice none 0 0] 27))) (fun i _ => ts.length - (intOf i).toNat)
      case atStart => exact ⟨0, by omega, rfl, (rfl : _ = _), ⟨HB0.out, HG0.out⟩⟩
      case round =>
        obtain ⟨q, hq, rfl, HE, HBG⟩ := hrel
        have HBW : Hid (Below w.heap.size w wr) := HBG.out.1
        by_cases hlt : q < ts.length
        · have hrt : Pm.errL (ts.drop q) = if rerr ts[q] = 0 then Pm.errL (ts.drop (q + 1)) else rerr ts[q] := Pm.errL_at hlt
          obtain ⟨b, o, cap2, k, c, a, n6, p6, hve, hbB, hrx, x0, x1, x2, x3, x4, x5⟩ := HTS.out.at hlt
          cases hve
          replace x0 := (HBW.out.cell (p := ⟨b, o + q * 6, none⟩) hbB).trans x0
          replace x1 := (HBW.out.cell (p := ⟨b, o + q * 6 + 1, none⟩) hbB).trans x1
          replace x2 := (HBW.out.cell (p := ⟨b, o + q * 6 + 2, none⟩) hbB).trans x2
          replace x3 := (HBW.out.cell (p := ⟨b, o + q * 6 + 3, none⟩) hbB).trans x3
          replace x4 := (HBW.out.cell (p := ⟨b, o + q * 6 + 4, none⟩) hbB).trans x4
          replace x5 := (HBW.out.cell (p := ⟨b, o + q * 6 + 5, none⟩) hbB).trans x5
          have hba := below_alloc1 wr (Obj.cells #[.int .i64 k, .int .u64 (c.1.toNat : Int), .int .u64 (c.2.1.toNat : Int), .int .u64 (c.2.2.1.toNat : Int), .int .u64 (c.2.2.2.toNat : Int), .slice a n6 p6] 44)
          have hcl := RxCheck_any ts[q] _ (wr.alloc (Obj.cells #[.int .i64 k, .int .u64 (c.1.toNat : Int), .int .u64 (c.2.1.toNat : Int), .int .u64 (c.2.2.1.toNat : Int), .int .u64 (c.2.2.2.toNat : Int), .slice a n6 p6] 44)).heap.size _ (((hrx.next HBW.out).next (hba.mono HBW.out.size)).wide (Nat.le_trans HBW.out.size hba.size)) (Nat.le_refl _)
          obtain ⟨rr, HRR⟩ : ∃ rr, Hid (rerr ts[q] = rr) := ⟨_, (rfl : rerr ts[q] = rerr ts[q])⟩
          rw [HRR.out] at hcl hrt
          obtain ⟨wb, HWB⟩ : ∃ wb, Hid (wr.alloc (Obj.cells #[.int .i64 k, .int .u64 (c.1.toNat : Int), .int .u64 (c.2.1.toNat : Int), .int .u64 (c.2.2.1.toNat : Int), .int .u64 (c.2.2.2.toNat : Int), .slice a n6 p6] 44) = wb) := ⟨_, (rfl : _ = _)⟩
          rw [HWB.out] at hba hcl
          have HBB : Hid (Below w.heap.size w wb ∧ wb.heap[w.heap.size]? = some (.cells #[.slice none 0 0, .slice none 0 0, .slice none 0 0, .slice none 0 0, .slice none 0 0, .slice none 0 0] 27)) := ⟨HBW.out.trans (hba.mono HBW.out.size), (hba.block _ ((Array.getElem?_eq_some_iff.1 HBG.out.2).1)).trans HBG.out.2⟩
          have hq0 : (0 : Int) ≤ (q : Int) := by omega
          have hq1 : (q : Int) < (ts.length : Int) := by omega
          clear hrx hba HBG HBW HRR
          by_cases hr0 : rr = 0
          · subst hr0
            rw [if_pos rfl] at hrt
            have HE2 : Hid (Pm.errL ts = Pm.errL (ts.drop (q + 1))) := HE.out.trans hrt
            clear hrt HE
            go_wp2_with fail
            rw [HWB.out]
            clear x0 x1 x2 x3 x4 x5
            refine hcl.mono ?_
            rintro _ w2 ⟨rfl, hb2⟩
            have HB2 : Hid (Below w.heap.size w w2 ∧ w2.heap[w.heap.size]? = some (.cells #[.slice none 0 0, .slice none 0 0, .slice none 0 0, .slice none 0 0, .slice none 0 0, .slice none 0 0] 27)) := ⟨HBB.out.1.trans (hb2.mono HBB.out.1.size), (hb2.block _ ((Array.getElem?_eq_some_iff.1 HBB.out.2).1)).trans HBB.out.2⟩
            clear hb2 hcl HBB HWB
            go_wp2_with fail
            go_roundw
            case rel => exact ⟨q + 1, by omega, by go_num, HE2, HB2⟩
            case measure => simp [intOf]; omega
          · rw [if_neg hr0] at hrt
            obtain rfl : r = rr := by rw [← HRE.out, HE.out, hrt]
            have b9 : ((r : Int) != 0) = true := by simp; omega
            clear hrt HE hr0
            go_wp2_with fail
            rw [HWB.out]
            clear x0 x1 x2 x3 x4 x5
            refine hcl.mono ?_
            rintro _ w2 ⟨rfl, hb2⟩
            have HB2 : Hid (Below w.heap.size w w2 ∧ w2.heap[w.heap.size]? = some (.cells #[.slice none 0 0, .slice none 0 0, .slice none 0 0, .slice none 0 0, .slice none 0 0, .slice none 0 0] 27)) := ⟨HBB.out.1.trans (hb2.mono HBB.out.1.size), (hb2.block _ ((Array.getElem?_eq_some_iff.1 HBB.out.2).1)).trans HBB.out.2⟩
            clear hb2 hcl HBB HWB
            obtain ⟨⟨z0, z1, z2, z3, z4, z5⟩, zf⟩ := cells6 HB2.out.2
            have hs6 := six HB2.out.2 (.slice none 0 0) (.slice none 0 0) (.slice none 0 0) (.slice none 0 0) (.slice none 0 0) (.slice none 0 0)
            have hb6 := below_six HB2.out.1 (.slice none 0 0) (.slice none 0 0) (.slice none 0 0) (.slice none 0 0) (.slice none 0 0) (.slice none 0 0)
            obtain ⟨w9, HW9⟩ : ∃ w9, Hid ((((((((w2).setCell ⟨w.heap.size, 0, none⟩ (.slice none 0 0)).setCell ⟨w.heap.size, 1, none⟩ (.slice none 0 0)).setCell ⟨w.heap.size, 2, none⟩ (.slice none 0 0)).setCell ⟨w.heap.size, 3, none⟩ (.slice none 0 0)).setCell ⟨w.heap.size, 4, none⟩ (.slice none 0 0)).setCell ⟨w.heap.size, 5, none⟩ (.slice none 0 0)) = w9) := ⟨_, (rfl : _ = _)⟩
            rw [HW9.out] at hs6 hb6
            go_wp2_with fail
            rw [HW9.out]
            obtain ⟨⟨y0, y1, y2, y3, y4, y5⟩, -⟩ := cells6 hs6
            refine bodyPost_ret (v := .tuple #[.agg #[.slice none 0 0, .slice none 0 0, .slice none 0 0, .slice none 0 0, .slice none 0 0, .slice none 0 0], .int .i64 (r : Int)]) (by simp [results, Try.results37, go_sem, y0, y1, y2, y3, y4, y5]) rfl ⟨rfl, hb6⟩
        · exfalso
          apply hk
          rw [← HRE.out, HE.out, List.drop_of_length_le (by omega)]; rfl
/-- What Make leaves where all is right. -/
def MO (w : World) (P0 : P) (v V : Nat → Value) (w' : World) : Prop := Below w.heap.size w w' ∧ ∃ base gp, w.heap.size < gp ∧ Pm base gp v V P0 w'
def MkPost (w : World) (PF : P) (e : Ending) (w' : World) : Prop := (200 < PF.cls.length → e = .returned (.tuple #[.agg #[.slice none 0 0, .slice none 0 0, .slice none 0 0, .slice none 0 0, .slice none 0 0, .slice none 0 0], .int .i64 2]) ∧ Below w.heap.size w w') ∧ (PF.cls.length ≤ 200 → ∃ v V, e = .returned (.tuple #[.agg #[v 0, v 1, v 2, v 3, v 4, v 5], .int .i64 0]) ∧ MO w PF v V w')
set_option maxHeartbeats 8000000 in
set_option maxRecDepth 20000 in
theorem PMake_ok (vv : Value) (ts : List T) (xs : List Rex.E) (w : World) (ht : Rxs w w.heap.size vv ts) (hk : mkErr ts = 0) (hx : Pm.Rts ts xs) :
    Calls Try.prog 37 #[vv] w fun e w' => MkPost w (Pm.rulesX xs 0 Pm.p00) e w' := by
  have HTS : Hid (Rxs w w.heap.size vv ts) := ht
  have HXS : Hid (Pm.Rts ts xs) := hx
  obtain ⟨ao, cap, vals, rfl, hm, -, -⟩ := ht
  have h1 : ¬ (ts.length = 0 ∨ 20 < ts.length) := fun h => by unfold mkErr at hk; rw [if_pos h] at hk; omega
  have HERR : Hid (Pm.errL ts = 0) := by show _ = _; unfold mkErr at hk; rw [if_neg h1] at hk; exact hk
  have HLN : Hid (ts.length ≤ 20) := by show _ ≤ _; omega
  have HB0 : Hid (Below w.heap.size w (w.alloc (Obj.cells #[.slice none 0 0, .slice none 0 0, .slice none 0 0, .slice none 0 0, .slice none 0 0, .slice none 0 0] 27))) := below_alloc1 w _
  have HG0 : Hid ((w.alloc (Obj.cells #[.slice none 0 0, .slice none 0 0, .slice none 0 0, .slice none 0 0, .slice none 0 0, .slice none 0 0] 27)).heap[w.heap.size]? = some (.cells #[.slice none 0 0, .slice none 0 0, .slice none 0 0, .slice none 0 0, .slice none 0 0, .slice none 0 0] 27)) := new_at _ _ rfl
  have b0 : ((ts.length : Int) == 0) = false := by simp; intro e; exact h1 (Or.inl (by rw [e]; rfl))
  have b1 : decide ((20 : Int) < (ts.length : Int)) = false := by simp; omega
  obtain ⟨PF, HPF⟩ : ∃ PF, Hid (Pm.rulesX xs 0 Pm.p00 = PF) := ⟨_, (rfl : _ = _)⟩
  rw [HPF.out]
  clear hx hk h1
  go_enter Try.func37, Try.ntmps37
  go_wp2_with fail
  clear b0 b1
  go_loopw [21] (fun i wr => ∃ q : Nat, q ≤ ts.length ∧ i = .int .i64 (q : Int) ∧ Hid (Below w.heap.size w wr ∧ wr.heap[w.heap.size]? = some (.cells #[.slice none 0 0, .slice none 0 0, .slice none 0 0, .slice none 0 0, .slice none 0 0, .slice none 0 0] 27))) (fun i _ => ts.length - (intOf i).toNat)
  case atStart => exact ⟨0, by omega, rfl, ⟨HB0.out, HG0.out⟩⟩
  case round =>
    obtain ⟨q, hq, rfl, HBG⟩ := hrel
    have HBW : Hid (Below w.heap.size w wr) := HBG.out.1
    by_cases hlt : q < ts.length
    · have hrt : rerr ts[q] = 0 := Pm.errL_all HERR.out _ (List.getElem_mem hlt)
      obtain ⟨b, o, cap2, k, c, a, n6, p6, hve, hbB, hrx, x0, x1, x2, x3, x4, x5⟩ := HTS.out.at hlt
      cases hve
      replace x0 := (HBW.out.cell (p := ⟨b, o + q * 6, none⟩) hbB).trans x0
      replace x1 := (HBW.out.cell (p := ⟨b, o + q * 6 + 1, none⟩) hbB).trans x1
      replace x2 := (HBW.out.cell (p := ⟨b, o + q * 6 + 2, none⟩) hbB).trans x2
      replace x3 := (HBW.out.cell (p := ⟨b, o + q * 6 + 3, none⟩) hbB).trans x3
      replace x4 := (HBW.out.cell (p := ⟨b, o + q * 6 + 4, none⟩) hbB).trans x4
      replace x5 := (HBW.out.cell (p := ⟨b, o + q * 6 + 5, none⟩) hbB).trans x5
      have hba := below_alloc1 wr (Obj.cells #[.int .i64 k, .int .u64 (c.1.toNat : Int), .int .u64 (c.2.1.toNat : Int), .int .u64 (c.2.2.1.toNat : Int), .int .u64 (c.2.2.2.toNat : Int), .slice a n6 p6] 44)
      have hcl := RxCheck_any ts[q] _ (wr.alloc (Obj.cells #[.int .i64 k, .int .u64 (c.1.toNat : Int), .int .u64 (c.2.1.toNat : Int), .int .u64 (c.2.2.1.toNat : Int), .int .u64 (c.2.2.2.toNat : Int), .slice a n6 p6] 44)).heap.size _ (((hrx.next HBW.out).next (hba.mono HBW.out.size)).wide (Nat.le_trans HBW.out.size hba.size)) (Nat.le_refl _)
      obtain ⟨rr, HRR⟩ : ∃ rr, Hid (rerr ts[q] = rr) := ⟨_, (rfl : rerr ts[q] = rerr ts[q])⟩
      rw [HRR.out] at hcl hrt
      obtain ⟨wb, HWB⟩ : ∃ wb, Hid (wr.alloc (Obj.cells #[.int .i64 k, .int .u64 (c.1.toNat : Int), .int .u64 (c.2.1.toNat : Int), .int .u64 (c.2.2.1.toNat : Int), .int .u64 (c.2.2.2.toNat : Int), .slice a n6 p6] 44) = wb) := ⟨_, (rfl : _ = _)⟩
      rw [HWB.out] at hba hcl
      have HBB : Hid (Below w.heap.size w wb ∧ wb.heap[w.heap.size]? = some (.cells #[.slice none 0 0, .slice none 0 0, .slice none 0 0, .slice none 0 0, .slice none 0 0, .slice none 0 0] 27)) := ⟨HBW.out.trans (hba.mono HBW.out.size), (hba.block _ ((Array.getElem?_eq_some_iff.1 HBG.out.2).1)).trans HBG.out.2⟩
      have hq0 : (0 : Int) ≤ (q : Int) := by omega
      have hq1 : (q : Int) < (ts.length : Int) := by omega
      clear hrx hba HBG HBW HRR
      subst hrt
      go_wp2_with fail
      rw [HWB.out]
      clear x0 x1 x2 x3 x4 x5
      refine hcl.mono ?_
      rintro _ w2 ⟨rfl, hb2⟩
      have HB2 : Hid (Below w.heap.size w w2 ∧ w2.heap[w.heap.size]? = some (.cells #[.slice none 0 0, .slice none 0 0, .slice none 0 0, .slice none 0 0, .slice none 0 0, .slice none 0 0] 27)) := ⟨HBB.out.1.trans (hb2.mono HBB.out.1.size), (hb2.block _ ((Array.getElem?_eq_some_iff.1 HBB.out.2).1)).trans HBB.out.2⟩
      clear hb2 hcl HBB HWB
      go_wp2_with fail
      go_roundw
      case rel => exact ⟨q + 1, by omega, by go_num, HB2⟩
      case measure => simp [intOf]; omega
    · have hqn : ¬ (q : Int) < (ts.length : Int) := by omega
      have hb1 := below_alloc1 wr (Obj.cells #[.slice none 0 0, .slice none 0 0, .slice none 0 0, .slice none 0 0, .slice none 0 0, .slice none 0 0] 27)
      have hpz := pm_zero (wr.alloc (Obj.cells #[.slice none 0 0, .slice none 0 0, .slice none 0 0, .slice none 0 0, .slice none 0 0, .slice none 0 0] 27)) wr.heap.size (new_at _ _ rfl) (by simp)
      obtain ⟨gp, HGP⟩ : ∃ gp, Hid (wr.heap.size = gp) := ⟨_, (rfl : wr.heap.size = wr.heap.size)⟩
      obtain ⟨wg, HWG⟩ : ∃ wg, Hid (wr.alloc (Obj.cells #[.slice none 0 0, .slice none 0 0, .slice none 0 0, .slice none 0 0, .slice none 0 0, .slice none 0 0] 27) = wg) := ⟨_, (rfl : _ = _)⟩
      rw [HWG.out] at hb1 hpz
      rw [HGP.out] at hpz
      have HB1 : Hid (Below w.heap.size w wg ∧ wg.heap[w.heap.size]? = some (.cells #[.slice none 0 0, .slice none 0 0, .slice none 0 0, .slice none 0 0, .slice none 0 0, .slice none 0 0] 27)) := ⟨HBW.out.trans (hb1.mono HBW.out.size), (hb1.block _ ((Array.getElem?_eq_some_iff.1 HBG.out.2).1)).trans HBG.out.2⟩
      have HPZ : Hid (Pm (gp + 1) gp (fun _ => .slice none 0 0) (fun _ => .slice none 0 0) Pm.p00 wg) := hpz
      have HGE : Hid (w.heap.size < gp) := by rw [← HGP.out]; exact (Array.getElem?_eq_some_iff.1 HBG.out.2).1
      clear hb1 hpz HBG HBW hlt
      go_upto_region 11 with (fail)
      rw [HWG.out, HGP.out]
      clear HWG HGP hqn
      go_wp2_with fail
      go_loopw [34] (fun i wr => ∃ j : Nat, j ≤ ts.length ∧ i = .int .i64 (j : Int) ∧ Hid (∃ v V, St (gp + 1) gp (fun _ => .slice none 0 0) (fun _ => .slice none 0 0) 0 wg (Pm.rulesX (xs.take j) 0 Pm.p00) v V wr)) (fun i _ => ts.length - (intOf i).toNat)
      case atStart => exact ⟨0, by omega, rfl, _, _, St.refl HPZ.out⟩
      case round =>
        obtain ⟨j, hj, rfl, HJ⟩ := hrel
        obtain ⟨v, V, hst⟩ := HJ.out
        have HST : Hid (St (gp + 1) gp (fun _ => .slice none 0 0) (fun _ => .slice none 0 0) 0 wg (Pm.rulesX (xs.take j) 0 Pm.p00) v V wr) := hst
        have HKB : Hid (Below w.heap.size w wr) := HB1.out.1.trans ((hst.below HPZ.out (Nat.le_of_lt HGE.out)))
        have hown0 : ¬ Own gp (fun _ => .slice none 0 0) (fun _ => .slice none 0 0) 0 w.heap.size := fun ho => by
          rcases ho with e | ⟨f, _, e⟩ | ⟨i, hi, _⟩
          · have := HGE.out; omega
          · simp [Value.ownBlock] at e
          · omega
        have hgk := box_kept hst HB1.out.2 hown0
        have HGK : Hid (wr.heap[w.heap.size]? = some (.cells #[.slice none 0 0, .slice none 0 0, .slice none 0 0, .slice none 0 0, .slice none 0 0, .slice none 0 0] 27) ∧ ¬ Own gp v V (Pm.rulesX (xs.take j) 0 Pm.p00).follow.length w.heap.size) := hgk
        clear hst HJ hown0 hgk
        by_cases hlt : j < ts.length
        · obtain ⟨b, o, cap2, k, c, a, n6, p6, hve, hbB, hrx, x0, x1, x2, x3, x4, x5⟩ := HTS.out.at hlt
          cases hve
          replace x0 := (HKB.out.cell (p := ⟨b, o + j * 6, none⟩) hbB).trans x0
          replace x1 := (HKB.out.cell (p := ⟨b, o + j * 6 + 1, none⟩) hbB).trans x1
          replace x2 := (HKB.out.cell (p := ⟨b, o + j * 6 + 2, none⟩) hbB).trans x2
          replace x3 := (HKB.out.cell (p := ⟨b, o + j * 6 + 3, none⟩) hbB).trans x3
          replace x4 := (HKB.out.cell (p := ⟨b, o + j * 6 + 4, none⟩) hbB).trans x4
          replace x5 := (HKB.out.cell (p := ⟨b, o + j * 6 + 5, none⟩) hbB).trans x5
          have hxl : j < xs.length := by rw [HXS.out.len]; exact hlt
          have HTK : Hid (Pm.rulesX (xs.take (j + 1)) 0 Pm.p00 = Pm.ruleX (Pm.rulesX (xs.take j) 0 Pm.p00) (j : Int) xs[j]) := Pm.rulesX_take xs j hxl _
          have hrd := Pm.rdr_take HXS.out.few (by rw [HXS.out.len]; exact HLN.out) j (by omega)
          rw [Pm.tot_drop hxl] at hrd
          have hba := below_alloc1 wr (Obj.cells #[.int .i64 k, .int .u64 (c.1.toNat : Int), .int .u64 (c.2.1.toNat : Int), .int .u64 (c.2.2.1.toNat : Int), .int .u64 (c.2.2.2.toNat : Int), .slice a n6 p6] 44)
          have hs1 := HST.out.next hba
          have hcl := layRule_any (HXS.out.is j hlt hxl) (gp + 1) gp w.heap.size v V _ (j : Int) _ _ hs1.pm ((hrx.next HKB.out).next (hba.mono HKB.out.size)) (Nat.le_of_lt HGE.out) (hrd.less (by omega))
          obtain ⟨wb, HWB⟩ : ∃ wb, Hid (wr.alloc (Obj.cells #[.int .i64 k, .int .u64 (c.1.toNat : Int), .int .u64 (c.2.1.toNat : Int), .int .u64 (c.2.2.1.toNat : Int), .int .u64 (c.2.2.2.toNat : Int), .slice a n6 p6] 44) = wb) := ⟨_, (rfl : _ = _)⟩
          rw [HWB.out] at hs1 hcl
          have HS1 : Hid (St (gp + 1) gp (fun _ => .slice none 0 0) (fun _ => .slice none 0 0) 0 wg (Pm.rulesX (xs.take j) 0 Pm.p00) v V wb) := hs1
          have hj0 : (0 : Int) ≤ (j : Int) := by omega
          have hj1 : (j : Int) < (ts.length : Int) := by omega
          clear hrx hba hs1 hrd HKB HGK HST
          go_wp2_with fail
          rw [HWB.out]
          clear x0 x1 x2 x3 x4 x5
          refine hcl.mono ?_
          rintro _ w2 ⟨rfl, v2, V2, hst2⟩
          have HJ2 : Hid (∃ v V, St (gp + 1) gp (fun _ => .slice none 0 0) (fun _ => .slice none 0 0) 0 wg (Pm.rulesX (xs.take (j + 1)) 0 Pm.p00) v V w2) := ⟨v2, V2, by rw [HTK.out]; exact HS1.out.trans hst2⟩
          clear hst2 hcl HS1 HWB
          go_wp2_with fail
          go_roundw
          case rel => exact ⟨j + 1, by omega, by go_num, HJ2⟩
          case measure => simp [intOf]; omega
        · have hte : xs.take j = xs := List.take_of_length_le (by rw [HXS.out.len]; omega)
          rw [hte, HPF.out] at HST HGK
          obtain ⟨a0, m0, d0, e0⟩ := own_form (HST.out.pm.own 0 (by omega))
          obtain ⟨a1, m1, d1, e1⟩ := own_form (HST.out.pm.own 1 (by omega))
          obtain ⟨a2, m2, d2, e2⟩ := own_form (HST.out.pm.own 2 (by omega))
          obtain ⟨a3, m3, d3, e3⟩ := own_form (HST.out.pm.own 3 (by omega))
          obtain ⟨a4, m4, d4, e4⟩ := own_form (HST.out.pm.own 4 (by omega))
          obtain ⟨a5, m5, d5, e5⟩ := own_form (HST.out.pm.own 5 (by omega))
          have HM0 : Hid (m0 = PF.cls.length) := by
            have h := HST.out.pm.own 0 (by omega)
            rw [e0] at h
            rcases h.2 with ⟨he, h0⟩ | ⟨g, cap, cur, he, -⟩
            · cases he; exact h0.symm
            · cases he; rfl
          have k0 := HST.out.pm.box.cell (i := 0) (by omega)
          have k1 := HST.out.pm.box.cell (i := 1) (by omega)
          have k2 := HST.out.pm.box.cell (i := 2) (by omega)
          have k3 := HST.out.pm.box.cell (i := 3) (by omega)
          have k4 := HST.out.pm.box.cell (i := 4) (by omega)
          have k5 := HST.out.pm.box.cell (i := 5) (by omega)
          rw [e0] at k0
          rw [e1] at k1
          rw [e2] at k2
          rw [e3] at k3
          rw [e4] at k4
          rw [e5] at k5
          obtain ⟨⟨z0, z1, z2, z3, z4, z5⟩, zf⟩ := cells6 HGK.out.1
          have hjn : ¬ (j : Int) < (ts.length : Int) := by omega
          have HEE : Hid (v 0 = .slice a0 m0 d0 ∧ v 1 = .slice a1 m1 d1 ∧ v 2 = .slice a2 m2 d2 ∧ v 3 = .slice a3 m3 d3 ∧ v 4 = .slice a4 m4 d4 ∧ v 5 = .slice a5 m5 d5) := ⟨e0, e1, e2, e3, e4, e5⟩
          clear e0 e1 e2 e3 e4 e5 hte hlt
          by_cases h200 : 200 < PF.cls.length
          · have b2 : decide ((200 : Int) < (m0 : Int)) = true := by rw [HM0.out]; simp; omega
            have HH : Hid (200 < PF.cls.length) := h200
            have hs6 := six HGK.out.1 (.slice none 0 0) (.slice none 0 0) (.slice none 0 0) (.slice none 0 0) (.slice none 0 0) (.slice none 0 0)
            have hb6 := below_six HKB.out (.slice none 0 0) (.slice none 0 0) (.slice none 0 0) (.slice none 0 0) (.slice none 0 0) (.slice none 0 0)
            obtain ⟨w9, HW9⟩ : ∃ w9, Hid ((((((((wr).setCell ⟨w.heap.size, 0, none⟩ (.slice none 0 0)).setCell ⟨w.heap.size, 1, none⟩ (.slice none 0 0)).setCell ⟨w.heap.size, 2, none⟩ (.slice none 0 0)).setCell ⟨w.heap.size, 3, none⟩ (.slice none 0 0)).setCell ⟨w.heap.size, 4, none⟩ (.slice none 0 0)).setCell ⟨w.heap.size, 5, none⟩ (.slice none 0 0)) = w9) := ⟨_, (rfl : _ = _)⟩
            rw [HW9.out] at hs6 hb6
            clear h200
            go_wp2_with fail
            rw [HW9.out]
            obtain ⟨⟨y0, y1, y2, y3, y4, y5⟩, -⟩ := cells6 hs6
            refine bodyPost_ret (v := .tuple #[.agg #[.slice none 0 0, .slice none 0 0, .slice none 0 0, .slice none 0 0, .slice none 0 0, .slice none 0 0], .int .i64 2]) (by simp [results, Try.results37, go_sem, y0, y1, y2, y3, y4, y5]) rfl ⟨fun _ => ⟨rfl, hb6⟩, fun h => by have := HH.out; omega⟩
          · have b2 : decide ((200 : Int) < (m0 : Int)) = false := by rw [HM0.out]; simp; omega
            have HH : Hid (¬ 200 < PF.cls.length) := h200
            have hs6 := six HGK.out.1 (.slice a0 m0 d0) (.slice a1 m1 d1) (.slice a2 m2 d2) (.slice a3 m3 d3) (.slice a4 m4 d4) (.slice a5 m5 d5)
            have hb6 := below_six HKB.out (.slice a0 m0 d0) (.slice a1 m1 d1) (.slice a2 m2 d2) (.slice a3 m3 d3) (.slice a4 m4 d4) (.slice a5 m5 d5)
            have hpk : Pm (gp + 1) gp v V PF (((((((((wr).setCell ⟨w.heap.size, 0, none⟩ (.slice a0 m0 d0)).setCell ⟨w.heap.size, 1, none⟩ (.slice a1 m1 d1)).setCell ⟨w.heap.size, 2, none⟩ (.slice a2 m2 d2)).setCell ⟨w.heap.size, 3, none⟩ (.slice a3 m3 d3)).setCell ⟨w.heap.size, 4, none⟩ (.slice a4 m4 d4)).setCell ⟨w.heap.size, 5, none⟩ (.slice a5 m5 d5)))) := HST.out.pm.keep (by rw [six_size]; exact Nat.le_refl _) (fun q hq => six_other _ _ _ _ _ _ _ _ q (fun e => HGK.out.2 (e ▸ hq)))
            obtain ⟨w9, HW9⟩ : ∃ w9, Hid (((((((((wr).setCell ⟨w.heap.size, 0, none⟩ (.slice a0 m0 d0)).setCell ⟨w.heap.size, 1, none⟩ (.slice a1 m1 d1)).setCell ⟨w.heap.size, 2, none⟩ (.slice a2 m2 d2)).setCell ⟨w.heap.size, 3, none⟩ (.slice a3 m3 d3)).setCell ⟨w.heap.size, 4, none⟩ (.slice a4 m4 d4)).setCell ⟨w.heap.size, 5, none⟩ (.slice a5 m5 d5))) = w9) := ⟨_, (rfl : _ = _)⟩
            rw [HW9.out] at hs6 hb6 hpk
            have HFIN : Hid (MO w PF v V w9) := ⟨hb6, gp + 1, gp, HGE.out, hpk⟩
            clear h200 hpk
            go_wp2_with fail
            rw [HW9.out]
            obtain ⟨⟨y0, y1, y2, y3, y4, y5⟩, -⟩ := cells6 hs6
            refine bodyPost_ret (v := .tuple #[.agg #[.slice a0 m0 d0, .slice a1 m1 d1, .slice a2 m2 d2, .slice a3 m3 d3, .slice a4 m4 d4, .slice a5 m5 d5], .int .i64 0]) (by simp [results, Try.results37, go_sem, y0, y1, y2, y3, y4, y5]) rfl ⟨fun h => by have := HH.out; omega, fun _ => ⟨v, V, by rw [HEE.out.1, HEE.out.2.1, HEE.out.2.2.1, HEE.out.2.2.2.1, HEE.out.2.2.2.2.1, HEE.out.2.2.2.2.2], HFIN.out⟩⟩
end Go.Proofs.Ytlmlkpdppkgenaa
