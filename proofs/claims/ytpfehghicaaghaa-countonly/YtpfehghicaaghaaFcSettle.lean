/-
  The contract of facts.settle, whatever closure is handed to it.
-/
import Derived.Test.YtpfehghicaaghaaFcWalk1
import Derived.Shelf.Abstract
namespace Go.Proofs.Ytpfehghicaaghaa
open Go.RowKit
open Cg

def SG {σ : Type} (I : σ → World → Prop) (X : Nat → Prop) (μ : σ → Nat) (Cl : Pd → σ → Prop) (ps : List Pd) (wb : World) (mv : Value) (wr : World) (m : Nat) : Prop :=
  ∃ (b : Bool) (s : σ), mv = .bool b ∧ I s wr ∧ Fm X wb wr ∧ (b = false → ∀ p ∈ ps, Cl p s) ∧ m = 2 * μ s + (if b = true then 1 else 0)
/-- What a round leaves. -/
def SI {σ : Type} (I : σ → World → Prop) (X : Nat → Prop) (μ : σ → Nat) (Cl : Pd → σ → Prop) (ps : List Pd) (wb : World) (s : σ) (q : Nat) (b : Bool) (wr : World) : Prop :=
  ∃ s' : σ, I s' wr ∧ Fm X wb wr ∧ (b = true → μ s' < μ s) ∧ (b = false → s' = s ∧ ∀ j (hj : j < ps.length), j < q → Cl ps[j] s)
set_option maxHeartbeats 3200000 in
set_option maxRecDepth 20000 in
theorem settle_any {σ : Type} (N : Nat) (caps : Array Value) (he : Enters Try.prog N) (I : σ → World → Prop) (X : Nat → Prop) (μ : σ → Nat) (Cl : Pd → σ → Prop) (t n : Int) (pv : Value) (ps : List Pd) (W0 w : World) (hp : Pds W0 pv ps) (hw : Below W0.heap.size W0 w) (hX : ∀ k, X k → W0.heap.size ≤ k ∧ k < w.heap.size)
    (hI : ∀ s W W', I s W → Below W.heap.size W W' → I s W')
    (hst : ∀ s W q (hq : q < ps.length) u, I s W → Below W0.heap.size W0 W → Syms W0 u ps[q].2 → Calls Try.prog N (#[.agg #[.int .i64 ps[q].1, u]] ++ caps) W fun e W' => ∃ b, e = .returned (.bool b) ∧ ∃ s', I s' W' ∧ Fm X W W' ∧ (b = true → μ s' < μ s) ∧ (b = false → s' = s ∧ Cl ps[q] s))
    (s0 : σ) (h0 : I s0 w) :
    Calls Try.prog 102 #[.agg #[.int .i64 t, .int .i64 n, pv], .func (.func N) #[] caps] w fun e w' => e = .returned (.tuple #[]) ∧ Fm X w w' ∧ ∃ s', I s' w' ∧ ∀ p ∈ ps, Cl p s' := by
  obtain ⟨ao, c, rfl, hm, hcs⟩ := hp
  obtain ⟨wb, HWB⟩ : ∃ wb, Hid (w.alloc (Obj.cells #[.int .i64 t, .int .i64 n, .slice ao ps.length c] 24) = wb) := ⟨_, (rfl : _ = _)⟩
  have g0 := cell_new w #[.int .i64 t, .int .i64 n, .slice ao ps.length c] 24
  have hb0 := below_alloc w (Obj.cells #[.int .i64 t, .int .i64 n, .slice ao ps.length c] 24)
  rw [HWB.out] at g0 hb0
  have y2 : wb.cell? ⟨w.heap.size, 2, none⟩ = some (.slice ao ps.length c) := g0 2
  have HI0 : Hid (I s0 wb) := hI _ _ _ h0 hb0
  have HSZ : Hid (w.heap.size < wb.heap.size) := by show _ < _; rw [← HWB.out]; simp
  have HFX : Hid (∀ w', Fm X wb w' → Fm X w w') := fun w' h => (Fm.of hb0).trans h (fun _ _ e => e)
  have HNX : Hid (∀ w', Fm X wb w' → Below W0.heap.size W0 w') := fun w' h => (hw.trans (hb0.mono hw.size)).trans (h.below (Nat.le_trans hw.size hb0.size) fun k hk => (hX k hk).1)
  have HXG : Hid (¬ X w.heap.size) := fun e => by have := (hX _ e).2; omega
  have HST : Hid (∀ s W q (hq : q < ps.length) u, I s W → Below W0.heap.size W0 W → Syms W0 u ps[q].2 → Calls Try.prog N (#[.agg #[.int .i64 ps[q].1, u]] ++ caps) W fun e W' => ∃ b, e = .returned (.bool b) ∧ ∃ s', I s' W' ∧ Fm X W W' ∧ (b = true → μ s' < μ s) ∧ (b = false → s' = s ∧ Cl ps[q] s)) := hst
  have HI : Hid (∀ s W W', I s W → Below W.heap.size W W' → I s W') := hI
  have HCS : Hid (ps = [] ∨ _) := hcs
  clear hst hI hcs g0 hb0 hX hw h0
  go_enter Try.func102, Try.ntmps102
  go_wp2_with fail
  rw [HWB.out]
  clear HWB
  obtain ⟨g, HG⟩ : ∃ g, Hid (w.heap.size = g) := ⟨_, (rfl : w.heap.size = w.heap.size)⟩
  rw [HG.out] at y2 HSZ HXG ⊢
  go_loopw [4] (fun v wr => ∃ m, SG I X μ Cl ps wb v wr m) (fun v wr => leastOf (SG I X μ Cl ps wb v wr))
  case atStart => exact ⟨_, true, s0, rfl, HI0.out, Fm.refl _ _, fun e => (by cases e), rfl⟩
  case round =>
    obtain ⟨b, s, rfl, hi, hf, hc, HM⟩ := leastOf_holds hrel
    cases b with
    | false =>
      have HFIN : Hid (Fm X w wr ∧ ∃ s', I s' wr ∧ ∀ p ∈ ps, Cl p s') := ⟨HFX.out _ hf, s, hi, hc rfl⟩
      clear hf hi hc HM hrel
      go_wp2_with fail
      refine bodyPost_end (v := .tuple #[]) (by simp [results, Try.results102, go_sem]) rfl ⟨rfl, HFIN.out⟩
    | true =>
      have HMM : Hid (leastOf (SG I X μ Cl ps wb (.bool true) wr) = 2 * μ s + 1) := HM
      have k2 : wr.cell? ⟨g, 2, none⟩ = some (.slice ao ps.length c) := (hf.cell (p := ⟨g, 2, none⟩) HSZ.out HXG.out).trans y2
      have HS0 : Hid (SI I X μ Cl ps wb s 0 false wr) := ⟨s, hi, hf, fun e => (by cases e), fun _ => ⟨rfl, fun j _ h => absurd h (Nat.not_lt_zero _)⟩⟩
      obtain ⟨mm, HMN⟩ : ∃ mm, Hid (leastOf (SG I X μ Cl ps wb (.bool true) wr) = mm) := ⟨_, (rfl : leastOf (SG I X μ Cl ps wb (.bool true) wr) = leastOf (SG I X μ Cl ps wb (.bool true) wr))⟩
      rw [HMN.out] at HMM
      clear hf hi hc HM hrel HI0
      obtain ⟨W1, rfl⟩ : ∃ W1, W1 = wr := ⟨_, rfl⟩
      go_wp2_with fail
      go_loopw [4, 11] (fun v i wr => ∃ (q : Nat) (b : Bool), q ≤ ps.length ∧ i = .int .i64 (q : Int) ∧ v = .bool b ∧ Hid (SI I X μ Cl ps wb s q b wr)) (fun _ i _ => ps.length - (intOf i).toNat)
      case atStart => exact ⟨0, false, by omega, rfl, rfl, HS0⟩
      case round =>
        obtain ⟨q, b, hq, rfl, rfl, HS⟩ := hrel
        clear HS0
        by_cases hlt : q < ps.length
        · obtain ⟨s1, hi, hf, hbt, hbf⟩ := HS.out
          have hbw := HNX.out _ hf
          obtain ⟨b2, o, rfl, hb, hcc⟩ := HCS.out.resolve_left (by intro e; subst e; simp at hlt)
          obtain ⟨c0, u, c1, hsy⟩ := hcc q hlt
          replace c0 : wr.cell? ⟨b2, o + q * 2, none⟩ = _ := (hbw.cell (p := ⟨b2, o + q * 2, none⟩) hb).trans c0
          replace c1 : wr.cell? ⟨b2, o + q * 2 + 1, none⟩ = _ := (hbw.cell (p := ⟨b2, o + q * 2 + 1, none⟩) hb).trans c1
          have hbA := below_alloc wr (Obj.cells #[.int .i64 ps[q].1, u] 88)
          have hcall := HST.out s1 _ q hlt u (HI.out _ _ _ hi hbA) (hbw.trans (hbA.mono hbw.size)) hsy
          have HFA : Hid (Fm X wb (wr.alloc (Obj.cells #[.int .i64 ps[q].1, u] 88))) := hf.trans (Fm.of (X := X) hbA) fun _ _ e => e
          have HBT : Hid (b = true → μ s1 < μ s) := hbt
          have HBF : Hid (b = false → s1 = s ∧ ∀ j (hj : j < ps.length), j < q → Cl ps[j] s) := hbf
          have HCL : Hid (Cl ps[q] s1 → b = false → ∀ j (hj : j < ps.length), j < q + 1 → Cl ps[j] s) := fun h1 h2 j hj h3 => by
            by_cases e : j = q
            · subst e; rw [← (hbf h2).1]; exact h1
            · exact (hbf h2).2 j hj (by omega)
          obtain ⟨uo, uk, uc, rfl⟩ : ∃ uo uk uc, u = .slice uo uk uc := by obtain ⟨uo, uc, e, _⟩ := hsy; exact ⟨_, _, _, e⟩
          generalize ps[q].1 = x at c0 hcall HFA
          have hk1 : (q : Int) < (ps.length : Int) := by omega
          clear hcc hsy hbA hbw hf hi hbt hbf HS HCS
          go_wp2_with fail
          rw [he, Oper.upon_enter]
          refine hcall.mono ?_
          rintro _ w1 ⟨b', rfl, s', h1, h2, h3, h4⟩
          have HN1 : Hid (b' = true → SI I X μ Cl ps wb s (q + 1) true w1) := fun e => by
            refine ⟨s', h1, HFA.out.trans h2 (fun _ _ e => e), fun _ => ?_, fun e => (by cases e)⟩
            have := h3 e
            cases b with
            | true => have := HBT.out rfl; omega
            | false => rw [← (HBF.out rfl).1]; exact this
          have HN2 : Hid (b' = false → SI I X μ Cl ps wb s (q + 1) b w1) := fun e => by
            obtain ⟨rfl, h5⟩ := h4 e
            exact ⟨s', h1, HFA.out.trans h2 (fun _ _ e => e), HBT.out, fun e2 => ⟨(HBF.out e2).1, HCL.out h5 e2⟩⟩
          clear h1 h2 h3 h4 hcall c0 c1
          cases b' with
          | true =>
            go_wp2_with fail
            go_roundw
            case rel => exact ⟨q + 1, true, by omega, by go_num, rfl, HN1.out (by trivial)⟩
            case measure => simp [intOf]; omega
          | false =>
            go_wp2_with fail
            go_roundw
            case rel => exact ⟨q + 1, b, by omega, by go_num, rfl, HN2.out (by trivial)⟩
            case measure => simp [intOf]; omega
        · have hG : ∃ m, SG I X μ Cl ps wb (.bool b) wr m ∧ m < mm := by
            obtain ⟨s1, hi, hf, hbt, hbf⟩ := HS.out
            cases b with
            | true => exact ⟨_, ⟨true, s1, rfl, hi, hf, fun e => (by cases e), rfl⟩, by have := hbt rfl; rw [HMM.out]; simp; omega⟩
            | false =>
              obtain ⟨rfl, h5⟩ := hbf rfl
              refine ⟨_, ⟨false, s1, rfl, hi, hf, fun _ p hp => ?_, rfl⟩, by rw [HMM.out]; simp⟩
              obtain ⟨j, hj, rfl⟩ := List.getElem_of_mem hp
              exact h5 j hj (by omega)
          have HGG : Hid (∃ m, SG I X μ Cl ps wb (.bool b) wr m ∧ m < mm) := hG
          clear hG HS
          go_wp2_with fail
          go_roundw
          case rel => obtain ⟨m, h1, h2⟩ := HGG.out; exact ⟨m, h1⟩
          case measure => obtain ⟨m, h1, h2⟩ := HGG.out; exact Nat.lt_of_le_of_lt (leastOf_le h1) (Nat.lt_of_lt_of_eq h2 HMN.out.symm)
end Go.Proofs.Ytpfehghicaaghaa
