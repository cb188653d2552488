/-
  The contract of pushkeep.is: does it match, and is there an error?
-/
import Derived.Test.YtdnagboonjcehaaGrow
namespace Go.Proofs.Ytdnagboonjcehaa
open Go.RowKit
open Cls Rex

theorem is_unique {t : T} {x : E} (h : Is t x) : ∀ {y : E}, Is t y → x = y := by
  induction h with
  | none => intro y h; cases h; rfl
  | emp => intro y h; cases h; rfl
  | byte _ => intro y h; cases h; rfl
  | cat _ _ i1 i2 => intro y h; cases h with | cat h1 h2 => rw [i1 h1, i2 h2]
  | alt _ _ i1 i2 => intro y h; cases h with | alt h1 h2 => rw [i1 h1, i2 h2]
  | star _ i => intro y h; cases h with | star h1 => rw [i h1]
/-- The text is one of the tree's. -/
def Mt (t : T) (s : ByteArray) : Prop := ∃ x, Is t x ∧ M x s.data.toList
/-- There is an error. -/
def bad (t : T) (s : ByteArray) : Bool := decide (err t ≠ 0) || decide (200 < s.size)
theorem Matches_any (t : T) (v : Value) (B : Nat) (s : ByteArray) (w : World) (hx : Rx w B v t) (hBw : B ≤ w.heap.size) :
    Calls Try.prog 8 #[v, .string s] w fun e' w' => ∃ (b : Bool) (ec : Nat), e' = .returned (.tuple #[.bool b, .int .i64 (ec : Int)]) ∧ (decide (ec ≠ 0) = bad t s) ∧ (b = true ↔ bad t s = false ∧ Mt t s) ∧ Below w.heap.size w w' := by
  by_cases he : err t = 0
  · by_cases hs : 200 < s.size
    · have hbad : bad t s = true := by simp [bad, hs]
      exact (Matches_long t v B s w hx hBw he hs).mono fun _ _ ⟨h1, h2⟩ => ⟨false, 2, h1, by simp [hbad], by simp [hbad], h2⟩
    · have hbad : bad t s = false := by simp [bad, he]; omega
      obtain ⟨x, hi, _, hn, _⟩ := chk_right (n' := (chk t 1 0).2) (Prod.ext he rfl)
      have hn' : x.nodes ≤ 100 := by omega
      refine (Matches_right t x v B s w hx hBw he hi hn' (by omega)).mono fun _ _ ⟨b, h1, h2, h3⟩ => ⟨b, 0, h1, by simp [hbad], ?_, h3⟩
      rw [h2]
      constructor
      · intro h; exact ⟨hbad, x, hi, h⟩
      · rintro ⟨_, y, hy, h⟩; rw [is_unique hi hy]; exact h
  · have hbad : bad t s = true := by simp [bad, he]
    exact (Matches_wrong t v B s w hx hBw (err t) rfl he).mono fun _ _ ⟨h1, h2⟩ => ⟨false, err t, h1, by simp [hbad, he], by simp [hbad], h2⟩
set_option maxHeartbeats 4000000 in
set_option maxRecDepth 20000 in
theorem is_any (t : T) (v : Value) (B : Nat) (s : ByteArray) (w : World) (hx : Rx w B v t) (hBw : B ≤ w.heap.size) :
    Calls Try.prog 11 #[v, .string s] w fun e' w' => ∃ b : Bool, e' = .returned (.tuple #[.bool b, .bool (bad t s)]) ∧ (b = true ↔ bad t s = false ∧ Mt t s) ∧ Below w.heap.size w w' := by
  obtain ⟨k, c, ao, cap, kids, vals, rfl, _⟩ := hx.shape
  obtain ⟨n, HN⟩ : ∃ n, Hid (kids.length = n) := ⟨_, (rfl : kids.length = kids.length)⟩
  rw [HN.out] at hx ⊢
  have hb1 := box_keep w (.cells #[.int .i64 k, .int .u64 (c.1.toNat : Int), .int .u64 (c.2.1.toNat : Int), .int .u64 (c.2.2.1.toNat : Int), .int .u64 (c.2.2.2.toNat : Int), .slice ao n cap] 27)
  have HM : Hid (Calls Try.prog 8 #[.agg #[.int .i64 k, .int .u64 (c.1.toNat : Int), .int .u64 (c.2.1.toNat : Int), .int .u64 (c.2.2.1.toNat : Int), .int .u64 (c.2.2.2.toNat : Int), .slice ao n cap], .string s] (w.alloc (.cells #[.int .i64 k, .int .u64 (c.1.toNat : Int), .int .u64 (c.2.1.toNat : Int), .int .u64 (c.2.2.1.toNat : Int), .int .u64 (c.2.2.2.toNat : Int), .slice ao n cap] 27)) fun e' w' => ∃ (b : Bool) (ec : Nat), e' = .returned (.tuple #[.bool b, .int .i64 (ec : Int)]) ∧ (decide (ec ≠ 0) = bad t s) ∧ (b = true ↔ bad t s = false ∧ Mt t s) ∧ Below (w.alloc (.cells #[.int .i64 k, .int .u64 (c.1.toNat : Int), .int .u64 (c.2.1.toNat : Int), .int .u64 (c.2.2.1.toNat : Int), .int .u64 (c.2.2.2.toNat : Int), .slice ao n cap] 27)).heap.size (w.alloc (.cells #[.int .i64 k, .int .u64 (c.1.toNat : Int), .int .u64 (c.2.1.toNat : Int), .int .u64 (c.2.2.1.toNat : Int), .int .u64 (c.2.2.2.toNat : Int), .slice ao n cap] 27)) w') :=
    Matches_any t _ B s _ (hx.next (hb1.mono hBw)) (Nat.le_trans hBw hb1.size)
  clear hx
  go_enter Try.func11, Try.ntmps11
  go_wp2_with fail
  refine HM.out.mono ?_
  rintro e1 w2 ⟨b, ec, rfl, hec, hb, hb2⟩
  have HE : Hid (decide (ec ≠ 0) = bad t s) := hec
  have HBB : Hid ((b = true ↔ bad t s = false ∧ Mt t s) ∧ Below w.heap.size w w2) := ⟨hb, hb1.trans (hb2.mono hb1.size)⟩
  clear hec hb hb2
  go_wp2_with fail
  go_ret2
  refine ⟨b, ?_, HBB.out.1, HBB.out.2⟩
  rw [← HE.out]
  by_cases h : ec = 0 <;> simp [h]
end Go.Proofs.Ytdnagboonjcehaa
