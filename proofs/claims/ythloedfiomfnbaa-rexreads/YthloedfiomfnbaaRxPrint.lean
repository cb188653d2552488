/-
  The contracts of rex.written for every right tree, and of rex.Print.
-/
import Derived.Test.YthloedfiomfnbaaWrCat
import Derived.Test.YthloedfiomfnbaaWrAlt
namespace Go.Proofs.Ythloedfiomfnbaa
open Go.RowKit
open Cls Rex Txt

theorem written_all : ∀ x : E, x.nodes ≤ 100 → WC x
  | .none, _ => written_none
  | .emp, _ => written_emp
  | .byte c, _ => written_byte c
  | .star a, h => written_star a (written_all a (by simp only [E.nodes] at h; omega)) h
  | .cat a b, h => written_cat a b (written_all a (by simp only [E.nodes] at h; omega)) (written_all b (by simp only [E.nodes] at h; omega)) h
  | .alt a b, h => written_alt a b (written_all a (by simp only [E.nodes] at h; omega)) (written_all b (by simp only [E.nodes] at h; omega)) h
theorem err_right {t : T} (h : err t = 0) : ∃ x, Is t x ∧ x.nodes ≤ 100 := by
  obtain ⟨x, h1, h2, h3, -⟩ := chk_right (t := t) (d := 1) (n := 0) (n' := (chk t 1 0).2) (Prod.ext h rfl)
  exact ⟨x, h1, by omega⟩

set_option maxHeartbeats 2000000 in
set_option maxRecDepth 20000 in
/-- Print: the error, or the text of that tree. -/
theorem print_any (t : T) (v : Value) (B : Nat) (w : World) (hx : Rx w B v t) (hBw : B ≤ w.heap.size) (L : List UInt8) (hL : err t = 0 → ∀ x, Is t x → text x = L) (hN : err t ≠ 0 → L = []) :
    Calls Try.prog 9 #[v] w fun e w' => e = .returned (.tuple #[.string (S L), .int .i64 (err t : Int)]) ∧ Below w.heap.size w w' := by
  have HX0 : Hid (Rx w B v t) := hx
  have HL : Hid (err t = 0 → ∀ x, Is t x → text x = L) := hL
  have HN : Hid (err t ≠ 0 → L = []) := hN
  clear hx hL hN
  obtain ⟨k0, c0, ao0, p0, kids0, vals0, rfl, -⟩ := HX0.out.shape
  obtain ⟨n0, HN0⟩ : ∃ n, Hid (kids0.length = n) := ⟨_, (rfl : kids0.length = kids0.length)⟩
  rw [HN0.out] at HX0 ⊢
  have HZ1 : Hid ((w.alloc (.cells #[.int .i64 k0, .int .u64 (c0.1.toNat : Int), .int .u64 (c0.2.1.toNat : Int), .int .u64 (c0.2.2.1.toNat : Int), .int .u64 (c0.2.2.2.toNat : Int), .slice ao0 n0 p0] 27)).heap[w.heap.size]? = some (.cells #[.int .i64 k0, .int .u64 (c0.1.toNat : Int), .int .u64 (c0.2.1.toNat : Int), .int .u64 (c0.2.2.1.toNat : Int), .int .u64 (c0.2.2.2.toNat : Int), .slice ao0 n0 p0] 27)) := block_new w _
  have HB1 : Hid (Below w.heap.size w (w.alloc (.cells #[.int .i64 k0, .int .u64 (c0.1.toNat : Int), .int .u64 (c0.2.1.toNat : Int), .int .u64 (c0.2.2.1.toNat : Int), .int .u64 (c0.2.2.2.toNat : Int), .slice ao0 n0 p0] 27))) := (Below.refl _ _).alloc (Nat.le_refl _) _
  obtain ⟨w1, HW1⟩ : ∃ w1, Hid (w.alloc (.cells #[.int .i64 k0, .int .u64 (c0.1.toNat : Int), .int .u64 (c0.2.1.toNat : Int), .int .u64 (c0.2.2.1.toNat : Int), .int .u64 (c0.2.2.2.toNat : Int), .slice ao0 n0 p0] 27) = w1) := ⟨_, (rfl : w.alloc (.cells #[.int .i64 k0, .int .u64 (c0.1.toNat : Int), .int .u64 (c0.2.1.toNat : Int), .int .u64 (c0.2.2.1.toNat : Int), .int .u64 (c0.2.2.2.toNat : Int), .slice ao0 n0 p0] 27) = w.alloc (.cells #[.int .i64 k0, .int .u64 (c0.1.toNat : Int), .int .u64 (c0.2.1.toNat : Int), .int .u64 (c0.2.2.1.toNat : Int), .int .u64 (c0.2.2.2.toNat : Int), .slice ao0 n0 p0] 27))⟩
  rw [HW1.out] at HZ1 HB1
  go_enter Try.func9, Try.ntmps9
  go_wp2_with fail
  rw [HW1.out]
  have hc := Check_any t _ w1.heap.size w1 ((HX0.out.next (HB1.out.mono hBw)).wide (Nat.le_trans hBw HB1.out.size)) (Nat.le_refl _)
  obtain ⟨m, HM⟩ : ∃ m, Hid (err t = m) := ⟨_, (rfl : err t = err t)⟩
  rw [HM.out] at hc
  refine hc.mono ?_
  rintro _ w2 ⟨rfl, hb2⟩
  have HZ2 : Hid (w2.heap[w.heap.size]? = some (.cells #[.int .i64 k0, .int .u64 (c0.1.toNat : Int), .int .u64 (c0.2.1.toNat : Int), .int .u64 (c0.2.2.1.toNat : Int), .int .u64 (c0.2.2.2.toNat : Int), .slice ao0 n0 p0] 27)) := (hb2.block _ (by rcases Nat.lt_or_ge w.heap.size w1.heap.size with h' | h'; exact h'; have := HZ1.out; simp [Array.getElem?_eq_none h'] at this)).trans HZ1.out
  have HB2 : Hid (Below w.heap.size w w2) := HB1.out.trans (hb2.mono HB1.out.size)
  clear hb2 HZ1 HB1
  clear hc
  by_cases h0 : m = 0
  · subst h0
    obtain ⟨x, hi, hn⟩ := err_right HM.out
    have HT : Hid (text x = L) := HL.out HM.out x hi
    have y0 : w2.cell? ⟨w.heap.size, 0, none⟩ = some (.int .i64 k0) := by simp [World.cell?, HZ2.out]
    have y1 : w2.cell? ⟨w.heap.size, 1, none⟩ = some (.int .u64 (c0.1.toNat : Int)) := by simp [World.cell?, HZ2.out]
    have y2 : w2.cell? ⟨w.heap.size, 2, none⟩ = some (.int .u64 (c0.2.1.toNat : Int)) := by simp [World.cell?, HZ2.out]
    have y3 : w2.cell? ⟨w.heap.size, 3, none⟩ = some (.int .u64 (c0.2.2.1.toNat : Int)) := by simp [World.cell?, HZ2.out]
    have y4 : w2.cell? ⟨w.heap.size, 4, none⟩ = some (.int .u64 (c0.2.2.2.toNat : Int)) := by simp [World.cell?, HZ2.out]
    have y5 : w2.cell? ⟨w.heap.size, 5, none⟩ = some (.slice ao0 n0 p0) := by simp [World.cell?, HZ2.out]
    have hcall := written_all x hn t _ B w2 hi (HX0.out.next (HB2.out.mono hBw)) (Nat.le_trans hBw HB2.out.size)
    rw [HT.out] at hcall
    clear hi hn
    go_wp2_with fail
    clear y0 y1 y2 y3 y4 y5
    refine hcall.mono ?_
    rintro _ w3 ⟨rfl, hb3⟩
    have HB3 : Hid (Below w.heap.size w w3) := HB2.out.trans (hb3.mono HB2.out.size)
    clear hb3 hcall
    go_wp2_with fail
    go_ret2
    exact ⟨by rw [HM.out]; rfl, HB3.out⟩
  · have HE : Hid (L = []) := HN.out (by rw [HM.out]; exact h0)
    have hb0 : ((m : Int) != 0) = true := by simp; omega
    go_wp2_with fail
    go_ret2
    exact ⟨by rw [HM.out, HE.out]; rfl, HB2.out⟩
end Go.Proofs.Ythloedfiomfnbaa
