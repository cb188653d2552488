/-
  The contract of the document's own answer pushref.RexText, by the tree's kinds.
-/
import Derived.Test.YthloedfiomfnbaaRefIn
namespace Go.Proofs.Ythloedfiomfnbaa
open Go.RowKit Go.Proofs
open Cls Rex Txt

/-- All bytes but one. -/
theorem dot_iff (c : Cl) : (count c = 255 ∧ mem c 10 = false) ↔ c = dot := by
  constructor
  · rintro ⟨h1, h2⟩
    have h3 : count (neg c) = 1 := by have := count_neg c; omega
    have hl : ((List.range 256).filter (mem (neg c))).length = 1 := by rw [← List.countP_eq_length_filter]; exact h3
    obtain ⟨b, hb⟩ := List.length_eq_one_iff.1 hl
    have hm : ∀ x, x < 256 → (mem (neg c) x = true ↔ x = b) := fun x hx => by
      have : x ∈ (List.range 256).filter (mem (neg c)) ↔ x = b := by rw [hb]; simp
      rw [← this]; simp [hx]
    have h10 : 10 = b := (hm 10 (by omega)).1 (by rw [mem_neg, h2]; rfl)
    subst h10
    apply ext_mem
    intro x hx
    unfold dot
    rw [mem_neg, mem_range _ _ _ hx]
    have := hm x hx
    rw [mem_neg] at this
    by_cases e : x = 10
    · subst e; rw [h2]; simp
    · cases e2 : mem c x with
      | true => simp; omega
      | false => rw [e2] at this; exact absurd (this.1 rfl) e
  · intro h
    subst h
    constructor
    · have h1 : count (range 10 10) = 1 := by decide +kernel
      have := count_neg (range 10 10)
      show count (neg (range 10 10)) = 255
      omega
    · unfold dot; rw [mem_neg, mem_range _ _ _ (by omega)]; simp
theorem wher_neg (c : Cl) : wher (fun x => !mem c x) = neg c := by
  apply ext_mem
  intro x hx
  rw [mem_wher _ _ hx, mem_neg]
set_option maxHeartbeats 2000000 in
set_option maxRecDepth 20000 in
theorem rtext_none : RT .none := by
  intro t v B w hi hx hB
  cases hi
  obtain ⟨k, c, ao, cap, kids, vals, rfl, ht, -⟩ := hx.shape
  simp only [T.mk.injEq] at ht
  obtain ⟨rfl, -, rfl⟩ := ht
  clear hx
  simp only [List.length_nil]
  have hmf : ∀ (fn : Fn) (first cap : Array Value) (w : World), (Instr.makeFunc fn first cap).run Try.prog w = .ok (.func fn first cap) w := fun _ _ _ _ => rfl
  have he18 := enters_of Try.func18 (by kernel_rfl) rfl
  go_enter Try.func8, Try.ntmps8
  go_wp2_with fail
  go_ret
  exact ⟨rfl, (Below.refl _ _).alloc (Nat.le_refl _) _⟩
set_option maxHeartbeats 2000000 in
set_option maxRecDepth 20000 in
theorem rtext_emp : RT .emp := by
  intro t v B w hi hx hB
  cases hi
  obtain ⟨k, c, ao, cap, kids, vals, rfl, ht, -⟩ := hx.shape
  simp only [T.mk.injEq] at ht
  obtain ⟨rfl, -, rfl⟩ := ht
  clear hx
  simp only [List.length_nil]
  have hmf : ∀ (fn : Fn) (first cap : Array Value) (w : World), (Instr.makeFunc fn first cap).run Try.prog w = .ok (.func fn first cap) w := fun _ _ _ _ => rfl
  have he18 := enters_of Try.func18 (by kernel_rfl) rfl
  go_enter Try.func8, Try.ntmps8
  go_wp2_with fail
  go_ret
  exact ⟨rfl, (Below.refl _ _).alloc (Nat.le_refl _) _⟩
end Go.Proofs.Ythloedfiomfnbaa
