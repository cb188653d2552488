/-
  What tells the states of a smallest automaton apart. No law is walked here.
-/
import Derived.Test.YtlgcggfenljdnaaFrFrom
namespace Go.Proofs.Ytlgcggfenljdnaa
open Go.RowKit
open Dfa

/-- The rows of an automaton that begins at another state. -/
def frR (N s : Nat) (F : Nat → Nat → Int) : Nat → Nat → Int := fun i j => if i < N ∧ j < 256 then swv s (F (swp s i) j) else 0
def frT (s : Nat) (U : Nat → Int) : Nat → Int := fun i => U (swp s i)
theorem swp_lt {s N i : Nat} (hs : s < N) (hi : i < N) : swp s i < N := by unfold swp; split <;> (try split) <;> omega
theorem swp_swp (s i : Nat) : swp s (swp s i) = i := by
  unfold swp
  by_cases e : i = 0
  · subst e; simp
  · rw [if_neg e]
    by_cases e2 : i = s
    · rw [if_pos e2, if_pos rfl, e2]
    · rw [if_neg e2, if_neg e, if_neg e2]
theorem swv_nat (s q : Nat) : swv s (q : Int) = (swp s q : Nat) := by
  unfold swv swp
  by_cases e : q = 0
  · subst e
    rw [if_pos rfl]
    split <;> simp_all
  · rw [if_neg e]
    by_cases e2 : q = s
    · rw [if_pos (by omega), if_pos e2]; rfl
    · rw [if_neg (by omega), if_neg (by omega), if_neg e2]
theorem swv_neg (s : Nat) {p : Int} (h : p < 0) : swv s p = p := by unfold swv; rw [if_neg (by omega), if_neg (by omega)]
variable {N s : Nat} {F : Nat → Nat → Int} {U : Nat → Int}
theorem frStep (hs : s < N) {p : Int} (hp : At N p) (b : UInt8) : Dfa.step (frR N s F) (swv s p) b = swv s (Dfa.step F p b) := by
  by_cases h : p < 0
  · rw [swv_neg s h]; unfold Dfa.step; rw [if_pos h, if_pos h, swv_neg s h]
  · obtain ⟨q, rfl⟩ : ∃ q : Nat, p = (q : Int) := ⟨p.toNat, by omega⟩
    have hq : q < N := by have := hp.2; omega
    rw [swv_nat]
    unfold Dfa.step
    rw [if_neg (by omega), if_neg (by omega)]
    show (if swp s q < N ∧ b.toNat < 256 then swv s (F (swp s (swp s q)) b.toNat) else 0) = _
    rw [if_pos ⟨swp_lt hs hq, b.toNat_lt⟩, swp_swp]
    rfl
theorem frTg (hr : rowsOk N F = true) (hs : s < N) (l : List UInt8) : ∀ p, At N p → tg (frR N s F) (frT s U) (swv s p) l = tg F U p l := by
  induction l with
  | nil =>
    intro p hp
    show tagOf (frT s U) (swv s p) = tagOf U p
    by_cases h : p < 0
    · rw [swv_neg s h]; unfold tagOf; rw [if_pos h, if_pos h]
    · obtain ⟨q, rfl⟩ : ∃ q : Nat, p = (q : Int) := ⟨p.toNat, by omega⟩
      rw [swv_nat, tagOf_nat, tagOf_nat]
      show U (swp s (swp s q)) = U q
      rw [swp_swp]
  | cons b l ih =>
    intro p hp
    rw [tg_cons, tg_cons, frStep hs hp]
    exact ih _ (at_step hr hp b)
theorem frTg0 (hr : rowsOk N F = true) (hs : s < N) (l : List UInt8) : tg (frR N s F) (frT s U) 0 l = tg F U (s : Int) l := by
  have := frTg (U := U) hr hs l (s : Int) ⟨by omega, by omega⟩
  rwa [show swv s (s : Int) = 0 by unfold swv; rw [if_pos rfl]] at this
theorem frChk (hc : chk N N F U = 0) (hs : s < N) : chk N N (frR N s F) (frT s U) = 0 := by
  obtain ⟨h0, h1, -, h2, h3⟩ := chk_zero hc
  have hr : rowsOk N (frR N s F) = true := all_true fun i hi => all_true fun j hj => by
    show numOk N (if i < N ∧ j < 256 then swv s (F (swp s i) j) else 0) = true
    rw [if_pos ⟨hi, hj⟩]
    have := row_at h2 (swp_lt hs hi) hj
    have h4 := this.1
    have h5 := this.2
    simp only [numOk, Bool.and_eq_true, decide_eq_true_eq]
    unfold swv
    split
    · omega
    · split <;> omega
  have ht : tagsOk N (frT s U) = true := all_true fun i hi => all_at h3 _ (swp_lt hs hi)
  unfold chk
  rw [if_neg (by omega), if_neg (by omega), if_pos ⟨hr, ht⟩]
theorem tg_dead (l : List UInt8) : ∀ p : Int, p = 0 → tg (fun _ _ => 0) (fun _ => -1) p l = -1 := by
  induction l with
  | nil => intro p hp; subst hp; rfl
  | cons b l ih => intro p hp; subst hp; rw [tg_cons]; exact ih _ rfl
theorem chk_dead : chk 1 1 (fun _ _ => 0) (fun _ => -1) = 0 := by
  have h1 : rowsOk 1 (fun _ _ => 0) = true := all_true fun i hi => all_true fun j hj => by simp [numOk]
  have h2 : tagsOk 1 (fun _ => -1) = true := all_true fun i hi => by simp [tagOk]
  unfold chk
  rw [if_neg (by omega), if_neg (by omega), if_pos ⟨h1, h2⟩]
theorem ts_dead (w : World) : Ts (w.alloc (Obj.cells #[.int .i64 (-1)] 3)) (.slice (some ⟨w.heap.size, 0, none⟩) 1 1) 1 (fun _ => -1) := by
  refine ⟨_, _, rfl, by omega, fun _ => by dsimp only; omega, Or.inr ⟨_, 0, rfl, by simp, fun i hi => ?_⟩⟩
  obtain rfl : i = 0 := by omega
  simp
/-- Told of tags from the beginning. -/
theorem told_iff {RA RB : Nat → Nat → Int} {TA TB : Nat → Int} {l : List UInt8} {is : Bool} (h : Told RA RB TA TB l is) : is = true ↔ ¬ ∀ v, tg RA TA 0 v = tg RB TB 0 v := by
  rcases h with ⟨rfl, hd, -⟩ | ⟨rfl, -, hd⟩
  · exact ⟨fun _ x => hd (x l), fun _ => rfl⟩
  · exact ⟨fun x => by simp at x, fun x => absurd (fun v => Classical.byContradiction fun y => hd v y) x⟩
variable {n : Nat} {R : Nat → Nat → Int} {T K : Nat → Int} {met : List Nat}
theorem at_state (hr : rowsOk n R = true) (h : Mi n R T N F U K met) {a : Nat} (ha : a < N) (l : List UInt8) : tg F U (a : Int) l = tg R T ((met.getD a 0 : Nat) : Int) l :=
  h.sim hr l (at_met h ha) (Or.inr ⟨a, by rw [h.len]; exact ha, rfl, (kof_nat (K := K) _).symm⟩)
/-- States of a smallest one are told apart just if they are two. -/
theorem least_two (hr : rowsOk n R = true) (h : Mi n R T N F U K met) (hc : chk N N F U = 0) {a b : Nat} (ha : a < N) (hb : b < N) {l : List UInt8} {is : Bool} (ht : Told (frR N a F) (frR N b F) (frT a U) (frT b U) l is) : is = !decide ((a : Int) = (b : Int)) := by
  obtain ⟨-, -, -, h2, -⟩ := chk_zero hc
  have e := told_iff ht
  have k : (∀ v, tg (frR N a F) (frT a U) 0 v = tg (frR N b F) (frT b U) 0 v) ↔ a = b := by
    constructor
    · intro x
      have y : ∀ v, tg R T ((met.getD a 0 : Nat) : Int) v = tg R T ((met.getD b 0 : Nat) : Int) v := fun v => by
        rw [← at_state hr h ha, ← at_state hr h hb, ← frTg0 h2 ha, ← frTg0 h2 hb]; exact x v
      have z := (h.kinds _ _ (at_met h ha) (at_met h hb)).2 y
      rw [kof_nat, kof_nat] at z
      exact h.mt.one a b (by rw [h.len]; exact ha) (by rw [h.len]; exact hb) z
    · intro x; subst x; intro v; rfl
  rw [k] at e
  by_cases q : a = b
  · subst q
    cases is
    · simp
    · exact absurd rfl (e.1 rfl)
  · have : is = true := e.2 q
    rw [this]; simp; omega
/-- Each state but the first has a text with a tag. -/
theorem least_live (hr : rowsOk n R = true) (h : Mi n R T N F U K met) (hc : chk N N F U = 0) {a : Nat} (ha : a < N) {l : List UInt8} {is : Bool} (ht : Told (frR N a F) (fun _ _ => 0) (frT a U) (fun _ => -1) l is) : is = false → a = 0 := by
  obtain ⟨-, -, -, h2, -⟩ := chk_zero hc
  intro hi
  have e := told_iff ht
  rcases Nat.eq_zero_or_pos a with q | q
  · exact q
  · exfalso
    have x : ∀ v, tg (frR N a F) (frT a U) 0 v = tg (fun _ _ => 0) (fun _ => -1) 0 v := Classical.byContradiction fun y => by
      have := e.2 y; rw [hi] at this; simp at this
    have y : ∀ v, tg R T ((met.getD a 0 : Nat) : Int) v = tg R T (-1) v := fun v => by
      rw [tg_none, ← at_state hr h ha, ← frTg0 h2 ha, x v]; exact tg_dead v 0 rfl
    have z := (h.kinds _ _ (at_met h ha) ⟨by omega, by omega⟩).2 y
    rw [kof_nat, show kof K (-1) = -1 by simp [kof]] at z
    exact h.mt.live a q (by rw [h.len]; exact ha) z
end Go.Proofs.Ytlgcggfenljdnaa
