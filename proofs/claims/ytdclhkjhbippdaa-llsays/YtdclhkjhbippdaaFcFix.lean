/-
  The contract of pushref.fix, whatever closure is handed to it.
-/
import Derived.Test.YtdclhkjhbippdaaFcRef1
namespace Go.Proofs.Ytdclhkjhbippdaa
open Go.RowKit
open Cg

def FG (I : (Nat → Bool) → World → Prop) (X : Nat → Prop) (n : Nat) (wb : World) (wr : World) (m : Nat) : Prop := ∃ s, I s wr ∧ Fm X wb wr ∧ m = muB n s
set_option maxHeartbeats 6400000 in
set_option maxRecDepth 20000 in
theorem fix_any (N : Nat) (caps : Array Value) (he : Enters Try.prog N) (I : (Nat → Bool) → World → Prop) (H : (Nat → Bool) → Pd → Bool) (t : Int) (n b : Nat) (pv : Value) (ps : List Pd) (hg : Rg t n ps) (W0 w : World) (hp : Pds W0 pv ps) (hw : Below W0.heap.size W0 w) (hb0 : W0.heap.size ≤ b)
    (hI : ∀ s W W', I s W → Below W.heap.size W W' → I s W')
    (hrow : ∀ s W, I s W → Rb W b n s)
    (hput : ∀ s W q (hq : q < ps.length) m, I s W → ps[q].1.toNat = m → s m = false → H s ps[q] = true → I (upd s m true) (W.setCell ⟨b, m, none⟩ (.bool true)))
    (hst : ∀ s W q (hq : q < ps.length) u, I s W → Below W0.heap.size W0 W → Syms W0 u ps[q].2 → Calls Try.prog N (#[.agg #[.int .i64 ps[q].1, u]] ++ caps) W fun e W' => e = .returned (.bool (H s ps[q])) ∧ Below W.heap.size W W')
    (s0 : Nat → Bool) (h0 : I s0 w) :
    Calls Try.prog 25 #[.agg #[.int .i64 t, .int .i64 (n : Int), pv], (.slice (some ⟨b, 0, none⟩) n n), .func (.func N) #[] caps] w fun e w' => e = .returned (.slice (some ⟨b, 0, none⟩) n n) ∧ Fm (fun k => k = b) w w' ∧ ∃ s', I s' w' ∧ ∀ p ∈ ps, s' p.1.toNat = true ∨ H s' p = false := by
  obtain ⟨ao, c, rfl, hm, hcs⟩ := hp
  obtain ⟨wb, HWB⟩ : ∃ wb, Hid (w.alloc (Obj.cells #[.int .i64 t, .int .i64 (n : Int), .slice ao ps.length c] 24) = wb) := ⟨_, (rfl : _ = _)⟩
  have g0 := cell_new w #[.int .i64 t, .int .i64 (n : Int), .slice ao ps.length c] 24
  have hbb := below_alloc w (Obj.cells #[.int .i64 t, .int .i64 (n : Int), .slice ao ps.length c] 24)
  rw [HWB.out] at g0 hbb
  have y2 : wb.cell? ⟨w.heap.size, 2, none⟩ = some (.slice ao ps.length c) := g0 2
  have HI0 : Hid (I s0 wb) := hI _ _ _ h0 hbb
  have HSZ : Hid (w.heap.size < wb.heap.size) := by show _ < _; rw [← HWB.out]; simp
  have HFX : Hid (∀ w', Fm (fun k => k = b) wb w' → Fm (fun k => k = b) w w') := fun w' h => (Fm.of hbb).trans h (fun _ _ e => e)
  have HNX : Hid (∀ w', Fm (fun k => k = b) wb w' → Below W0.heap.size W0 w') := fun w' h => (hw.trans (hbb.mono hw.size)).trans (h.below (Nat.le_trans hw.size hbb.size) fun k hk => by omega)
  have HXG : Hid (¬ w.heap.size = b) := fun e => by have := (hrow _ _ h0).lt; omega
  have HRG : Hid (Rg t n ps) := hg
  have HI : Hid (∀ s W W', I s W → Below W.heap.size W W' → I s W') := hI
  have HRO : Hid (∀ s W, I s W → Rb W b n s) := hrow
  have HPU : Hid (∀ s W q (hq : q < ps.length) m, I s W → ps[q].1.toNat = m → s m = false → H s ps[q] = true → I (upd s m true) (W.setCell ⟨b, m, none⟩ (.bool true))) := hput
  have HST : Hid (∀ s W q (hq : q < ps.length) u, I s W → Below W0.heap.size W0 W → Syms W0 u ps[q].2 → Calls Try.prog N (#[.agg #[.int .i64 ps[q].1, u]] ++ caps) W fun e W' => e = .returned (.bool (H s ps[q])) ∧ Below W.heap.size W W') := hst
  have HCS : Hid (ps = [] ∨ _) := hcs
  clear hst hI hcs g0 hbb hw h0 hrow hput hg hb0
  go_enter Try.func25, Try.ntmps25
  go_wp2_with fail
  rw [HWB.out]
  clear HWB
  obtain ⟨g, HG⟩ : ∃ g, Hid (w.heap.size = g) := ⟨_, (rfl : w.heap.size = w.heap.size)⟩
  rw [HG.out] at y2 HSZ HXG ⊢
  go_loopw [7] (fun _ wr => ∃ m, FG I (fun k => k = b) n wb wr m) (fun _ wr => leastOf (FG I (fun k => k = b) n wb wr))
  case atStart => exact ⟨_, s0, HI0.out, Fm.refl _ _, rfl⟩
  case round =>
    obtain ⟨s, hi, hf, HM⟩ := leastOf_holds hrel
    obtain ⟨mm, HMN⟩ : ∃ mm, Hid (leastOf (FG I (fun k => k = b) n wb wr) = mm) := ⟨_, (rfl : leastOf (FG I (fun k => k = b) n wb wr) = leastOf (FG I (fun k => k = b) n wb wr))⟩
    have HMM : Hid (mm = muB n s) := by show _ = _; rw [← HMN.out]; exact HM
    have HS0 : Hid (SI I (fun k => k = b) (muB n) (fun p s => s p.1.toNat = true ∨ H s p = false) ps wb s 0 false wr) := ⟨s, hi, hf, fun e => (by cases e), fun _ => ⟨rfl, fun j _ h => absurd h (Nat.not_lt_zero _)⟩⟩
    clear hf hi HM hrel HI0
    obtain ⟨W1, rfl⟩ : ∃ W1, W1 = wr := ⟨_, rfl⟩
    go_wp2_with fail
    go_loopw [7, 8] (fun v i wr => ∃ (q : Nat) (r : Bool), q ≤ ps.length ∧ i = .int .i64 (q : Int) ∧ v = .bool r ∧ Hid (SI I (fun k => k = b) (muB n) (fun p s => s p.1.toNat = true ∨ H s p = false) ps wb s q r wr)) (fun _ i _ => ps.length - (intOf i).toNat)
    case atStart => exact ⟨0, false, by omega, rfl, rfl, HS0⟩
    case round =>
      obtain ⟨q, r, hq, rfl, rfl, HS⟩ := hrel
      clear HS0
      obtain ⟨s1, hi, hf, hbt, hbf⟩ := HS.out
      have k2 : wr.cell? ⟨g, 2, none⟩ = some (.slice ao ps.length c) := (hf.cell (p := ⟨g, 2, none⟩) HSZ.out HXG.out).trans y2
      by_cases hlt : q < ps.length
      · have hbw := HNX.out _ hf
        obtain ⟨b2, o, rfl, hb, hcc⟩ := HCS.out.resolve_left (by intro e; subst e; simp at hlt)
        obtain ⟨c0, u, c1, hsy⟩ := hcc q hlt
        obtain ⟨m, e1, e2, hmn⟩ := HRG.out.hd q hlt
        replace c0 : wr.cell? ⟨b2, o + q * 2, none⟩ = _ := (hbw.cell (p := ⟨b2, o + q * 2, none⟩) hb).trans c0
        replace c1 : wr.cell? ⟨b2, o + q * 2 + 1, none⟩ = _ := (hbw.cell (p := ⟨b2, o + q * 2 + 1, none⟩) hb).trans c1
        have hcall := HST.out s1 wr q hlt u hi hbw hsy
        have HNO : Hid ((s1 m = true ∨ H s1 ps[q] = false) → SI I (fun k => k = b) (muB n) (fun p s => s p.1.toNat = true ∨ H s p = false) ps wb s (q + 1) r wr) := fun h1 =>
          ⟨s1, hi, hf, hbt, fun e => ⟨(hbf e).1, fun j hj h3 => by
            by_cases ej : j = q
            · subst ej; rw [← (hbf e).1, e2]; exact h1
            · exact (hbf e).2 j hj (by omega)⟩⟩
        have HHI : Hid (I s1 wr ∧ Fm (fun k => k = b) wb wr ∧ (r = true → muB n s1 < muB n s) ∧ (r = false → s1 = s)) := ⟨hi, hf, hbt, fun e => (hbf e).1⟩
        have HPQ : Hid (∀ W', Below wr.heap.size wr W' → s1 m = false → H s1 ps[q] = true → SI I (fun k => k = b) (muB n) (fun p s => s p.1.toNat = true ∨ H s p = false) ps wb s (q + 1) true (W'.setCell ⟨b, m, none⟩ (.bool true))) := fun W' h1 h2 h3 => by
          refine ⟨upd s1 m true, HPU.out s1 W' q hlt m (HI.out _ _ _ hi h1) e2 h2 h3, (hf.trans (Fm.of (X := fun k => k = b) h1) fun _ _ e => e).trans (Fm.set (X := fun k => k = b) (b := b) (i := m) _ rfl) (fun _ _ e => e), fun _ => ?_, fun e => (by cases e)⟩
          have := muB_put hmn h2
          cases r with
          | true => have := hbt rfl; omega
          | false => rw [← (hbf rfl).1]; exact this
        have HNQ : Hid (∀ W', Below wr.heap.size wr W' → H s1 ps[q] = false → SI I (fun k => k = b) (muB n) (fun p s => s p.1.toNat = true ∨ H s p = false) ps wb s (q + 1) r W') := fun W' h1 h2 => by
          obtain ⟨s', k1, k2, k3, k4⟩ := HNO.out (Or.inr h2)
          exact ⟨s', HI.out _ _ _ k1 h1, k2.trans (Fm.of (X := fun k => k = b) h1) fun _ _ e => e, k3, k4⟩
        have hrw := HRO.out _ _ hi
        have y4 := hrw.cell hmn
        have hmn2 : (m : Int) < (n : Int) := by omega
        obtain ⟨uo, uk, uc, rfl⟩ : ∃ uo uk uc, u = .slice uo uk uc := by obtain ⟨uo, uc, e, _⟩ := hsy; exact ⟨_, _, _, e⟩
        rw [e1] at c0 hcall
        have HRW : Hid (∀ W', Below wr.heap.size wr W' → Rb W' b n s1) := fun W' h1 => hrw.next h1
        have HK3 : Hid (∀ W' : World, Below wr.heap.size wr W' → W'.cell? ⟨g, 2, none⟩ = some (.slice (some ⟨b2, o, none⟩) ps.length c) ∧ W'.cell? ⟨b2, o + q * 2, none⟩ = some (.int .i64 (m : Int))) := fun W' h1 => ⟨(h1.cell (p := ⟨g, 2, none⟩) (Nat.lt_of_lt_of_le HSZ.out hf.size)).trans k2, (h1.cell (p := ⟨b2, o + q * 2, none⟩) (Nat.lt_of_lt_of_le hb hbw.size)).trans c0⟩
        have hk1 : (q : Int) < (ps.length : Int) := by omega
        generalize H s1 ps[q] = hh at hcall HNO HPQ HNQ
        clear hcc hsy hbw hf hi hbt hbf HS HCS HPU HST e1 e2 hrw
        obtain ⟨im, HIM⟩ : ∃ im, Hid (s1 m = im) := ⟨_, (rfl : s1 m = s1 m)⟩
        rw [HIM.out] at y4
        cases im with
        | true =>
          have HN2 : Hid (SI I (fun k => k = b) (muB n) (fun p s => s p.1.toNat = true ∨ H s p = false) ps wb s (q + 1) r wr) := HNO.out (Or.inl HIM.out)
          clear hcall
          go_wp2_with fail
          go_roundw
          case rel => exact ⟨q + 1, r, by omega, by go_num, rfl, HN2⟩
          case measure => simp [intOf]; omega
        | false =>
          go_wp2_with fail
          rw [he, Oper.upon_enter]
          refine hcall.mono ?_
          rintro _ w1 ⟨rfl, hb1⟩
          cases hh with
          | false =>
            have HN2 : Hid (SI I (fun k => k = b) (muB n) (fun p s => s p.1.toNat = true ∨ H s p = false) ps wb s (q + 1) r w1) := HNQ.out w1 hb1 rfl
            clear hcall hb1
            go_wp2_with fail
            go_roundw
            case rel => exact ⟨q + 1, r, by omega, by go_num, rfl, HN2⟩
            case measure => simp [intOf]; omega
          | true =>
            have HN2 : Hid (SI I (fun k => k = b) (muB n) (fun p s => s p.1.toNat = true ∨ H s p = false) ps wb s (q + 1) true (w1.setCell ⟨b, m, none⟩ (.bool true))) := HPQ.out w1 hb1 HIM.out rfl
            have z1 := (HK3.out w1 hb1).1
            have z2 := (HK3.out w1 hb1).2
            have hr1 := HRW.out w1 hb1
            have z3 := hr1.cell hmn
            have z4 := World.rowIs.frozen hr1 m
            clear hcall hb1 hr1 k2 c0 c1 y4
            go_wp2_with fail
            go_roundw
            case rel => exact ⟨q + 1, true, by omega, by go_num, rfl, HN2⟩
            case measure => simp [intOf]; omega
      · have HQ : Hid (q = ps.length) := by show _ = _; omega
        clear hi hf hbt hbf
        cases r with
        | true =>
          have HGG : Hid (∃ m, FG I (fun k => k = b) n wb wr m ∧ m < mm) := by
            obtain ⟨s1, hi, hf, hbt, hbf⟩ := HS.out
            exact ⟨_, ⟨s1, hi, hf, rfl⟩, by rw [HMM.out]; exact hbt rfl⟩
          clear HS
          go_wp2_with fail
          go_roundw
          case rel => obtain ⟨m, h1, h2⟩ := HGG.out; exact ⟨m, h1⟩
          case measure => obtain ⟨m, h1, h2⟩ := HGG.out; exact Nat.lt_of_le_of_lt (leastOf_le h1) (Nat.lt_of_lt_of_eq h2 HMN.out.symm)
        | false =>
          have HFIN : Hid (Fm (fun k => k = b) w wr ∧ ∃ s', I s' wr ∧ ∀ p ∈ ps, s' p.1.toNat = true ∨ H s' p = false) := by
            obtain ⟨s1, hi, hf, hbt, hbf⟩ := HS.out
            obtain ⟨rfl, h5⟩ := hbf rfl
            refine ⟨HFX.out _ hf, s1, hi, fun p hp => ?_⟩
            obtain ⟨j, hj, rfl⟩ := List.getElem_of_mem hp
            exact h5 j hj (by rw [HQ.out]; exact hj)
          clear HS
          go_wp2_with fail
          go_ret
          exact ⟨by simp, HFIN.out⟩
end Go.Proofs.Ytdclhkjhbippdaa
