/-
  The mathematics of columns, numbered by the least byte that has them; columns as keys of a map. No function is walked here.
-/
import Derived.Test.YtlgcggfenljdnaaPkAdd
import Derived.Maps.OwnSet
import Derived.Maps.Own
import Derived.DeepKeys4
namespace Go.Proofs.Ytlgcggfenljdnaa
open Go.RowKit
open Go.Maps
open Dfa

/-- Have two bytes one column? -/
def eqc (n : Nat) (R : Nat → Nat → Int) (x y : Nat) : Bool := (List.range n).all fun i => R i x == R i y
theorem eqc_iff {n : Nat} {R : Nat → Nat → Int} {x y : Nat} : eqc n R x y = true ↔ ∀ i, i < n → R i x = R i y := by
  simp [eqc]
/-- The number of a byte's column among these, or how many these are. -/
def idx (n : Nat) (R : Nat → Nat → Int) (fs : List Nat) (y : Nat) : Nat := fs.findIdx fun f => eqc n R f y
/-- The least bytes of the columns of the bytes below b. -/
def fsts (n : Nat) (R : Nat → Nat → Int) : Nat → List Nat
  | 0 => []
  | b + 1 => if idx n R (fsts n R b) b = (fsts n R b).length then fsts n R b ++ [b] else fsts n R b
theorem idx_le (n : Nat) (R : Nat → Nat → Int) (fs : List Nat) (y : Nat) : idx n R fs y ≤ fs.length := List.findIdx_le_length
theorem fsts_length (n : Nat) (R : Nat → Nat → Int) : ∀ b, (fsts n R b).length ≤ b
  | 0 => Nat.le_refl _
  | b + 1 => by
    have := fsts_length n R b
    unfold fsts
    split
    · simp; omega
    · omega
theorem fsts_lt (n : Nat) (R : Nat → Nat → Int) : ∀ b, ∀ f ∈ fsts n R b, f < b
  | 0, f, h => by simp [fsts] at h
  | b + 1, f, h => by
    have ih := fsts_lt n R b f
    unfold fsts at h
    split at h
    · simp at h
      rcases h with h | h
      · have := ih h; omega
      · omega
    · have := ih h; omega
theorem idx_some {n : Nat} {R : Nat → Nat → Int} {fs : List Nat} {y : Nat} (h : idx n R fs y < fs.length) : eqc n R fs[idx n R fs y] y = true := List.findIdx_getElem (w := h)
theorem idx_lt {n : Nat} {R : Nat → Nat → Int} {fs : List Nat} {y : Nat} : idx n R fs y < fs.length ↔ ∃ f ∈ fs, eqc n R f y = true := List.findIdx_lt_length
theorem eqc_trans {n : Nat} {R : Nat → Nat → Int} {x y z : Nat} (h : eqc n R x y = true) : eqc n R x z = eqc n R y z := by
  have h1 := eqc_iff.1 h
  rw [Bool.eq_iff_iff, eqc_iff, eqc_iff]
  exact ⟨fun k i hi => by rw [← h1 i hi]; exact k i hi, fun k i hi => by rw [h1 i hi]; exact k i hi⟩
theorem eqc_symm {n : Nat} {R : Nat → Nat → Int} {x y : Nat} : eqc n R x y = eqc n R y x := by
  rw [Bool.eq_iff_iff, eqc_iff, eqc_iff]
  exact ⟨fun k i hi => (k i hi).symm, fun k i hi => (k i hi).symm⟩
theorem idx_congr {n : Nat} {R : Nat → Nat → Int} {fs : List Nat} {x y : Nat} (h : eqc n R x y = true) : idx n R fs x = idx n R fs y := by
  unfold idx
  congr 1
  funext f
  rw [eqc_symm, eqc_trans h, eqc_symm]
theorem idx_snoc {n : Nat} {R : Nat → Nat → Int} {fs : List Nat} {b y : Nat} : idx n R (fs ++ [b]) y = if idx n R fs y < fs.length then idx n R fs y else if eqc n R b y then fs.length else fs.length + 1 := by
  unfold idx
  rw [List.findIdx_append]
  split
  · rfl
  · rw [List.findIdx_cons]
    cases eqc n R b y <;> simp <;> omega
/-- Two columns are the same just if their cells are. -/
theorem cl_eq {n : Nat} {R : Nat → Nat → Int} (hn : n ≤ 200) {x y : Nat} : cl n R x = cl n R y ↔ eqc n R x y = true := by
  rw [eqc_iff]
  constructor
  · intro h i hi
    have h1 := cl_at n R x i (by omega)
    rw [h, cl_at n R y i (by omega)] at h1
    simp only [Option.some.injEq, Value.int.injEq, true_and, cf, hi, if_true] at h1
    exact h1.symm
  · intro h
    unfold cl
    apply List.map_congr_left
    intro s hs
    unfold cf
    split
    · rename_i hs2; rw [h s hs2]
    · rfl
theorem laidOut' : laidOutB Try.prog = true := by kernel_rfl
theorem law83 : Maps.Keyed Try.prog 83 := Maps.Keyed.of_law (deep_law_laid laidOut' (m := 2) (by omega) (of_decide_eq_true (by kernel_rfl)) (by kernel_rfl) (by rw [Try.underlying83]))
theorem key83_inj {n : Nat} {R : Nat → Nat → Int} (hn : n ≤ 200) {x y : Nat} {kl : Lit} (h1 : keyOf Try.prog 83 (.agg (cl n R x).toArray) = some kl) (h2 : keyOf Try.prog 83 (.agg (cl n R y).toArray) = some kl) : eqc n R x y = true := by
  have := law83.inj h1 h2
  simp only [Value.agg.injEq, Array.mk.injEq] at this
  exact (cl_eq hn).1 this
/-- The map tells the numbers of the columns. -/
structure MI (n : Nat) (R : Nat → Nat → Int) (D : DataW Unit) (fs : List Nat) : Prop where
  isMap : IsMap D
  size : Maps.size D = fs.length
  has : ∀ y kl, keyOf Try.prog 83 (.agg (cl n R y).toArray) = some kl → (Maps.has D kl = true ↔ idx n R fs y < fs.length)
  at_ : ∀ y kl, keyOf Try.prog 83 (.agg (cl n R y).toArray) = some kl → idx n R fs y < fs.length → D.atKey kl (.lit (.int .u8 0)) = .lit (.int .u8 (idx n R fs y : Int))
theorem MI.none (n : Nat) (R : Nat → Nat → Int) : MI n R (.map []) [] :=
  ⟨⟨[], rfl⟩, rfl, fun y kl _ => by simp [Maps.has_eq], fun y kl _ h => by simp at h⟩
theorem MI.put {n : Nat} {R : Nat → Nat → Int} (hn : n ≤ 200) {D : DataW Unit} {fs : List Nat} (h : MI n R D fs) (ht : Tidy D) {b : Nat} {kl : Lit} (hk : keyOf Try.prog 83 (.agg (cl n R b).toArray) = some kl) (hno : ¬ idx n R fs b < fs.length) : MI n R (D.put kl (.lit (.int .u8 (fs.length : Int)))) (fs ++ [b]) := by
  have hnh : Maps.has D kl = false := by
    cases e : Maps.has D kl with
    | false => rfl
    | true => exact absurd ((h.has b kl hk).1 e) hno
  have hbb : eqc n R b b = true := eqc_iff.2 fun _ _ => rfl
  have key : ∀ y ky, keyOf Try.prog 83 (.agg (cl n R y).toArray) = some ky → (ky = kl ↔ eqc n R b y = true) := fun y ky hy => by
    constructor
    · intro e; subst e; exact key83_inj hn hk hy
    · intro e
      have := (cl_eq hn).2 e
      rw [this, hy] at hk
      exact (Option.some.inj hk)
  refine ⟨?_, ?_, fun y ky hy => ?_, fun y ky hy hlt => ?_⟩
  · obtain ⟨es, rfl⟩ := h.isMap
    exact ⟨_, rfl⟩
  · rw [Maps.size_put ht, hnh, h.size]; simp
  · by_cases e : ky = kl
    · have heq := (key y ky hy).1 e
      subst e
      rw [Maps.has_put_same h.isMap (law83.key hk), idx_snoc, ← idx_congr heq, if_neg hno, heq]
      simp
    · have hne : eqc n R b y = false := by
        cases e2 : eqc n R b y with
        | false => rfl
        | true => exact absurd ((key y ky hy).2 e2) e
      rw [Maps.has_put_other e, h.has y ky hy, idx_snoc, hne]
      by_cases hl : idx n R fs y < fs.length
      · simp [hl]; omega
      · simp [hl]
  · by_cases e : ky = kl
    · have heq := (key y ky hy).1 e
      subst e
      rw [Maps.atKey_put_same h.isMap (law83.key hk), idx_snoc, ← idx_congr heq, if_neg hno, heq]
      simp
    · have hne : eqc n R b y = false := by
        cases e2 : eqc n R b y with
        | false => rfl
        | true => exact absurd ((key y ky hy).2 e2) e
      rw [idx_snoc, hne] at hlt
      by_cases hl : idx n R fs y < fs.length
      · rw [Maps.atKey_put_other e, h.at_ y ky hy hl, idx_snoc, if_pos hl]
      · simp [hl] at hlt
theorem mapM_some {α β : Type} (f : α → Option β) : ∀ l : List α, (∀ x ∈ l, ∃ y, f x = some y) → ∃ ys, l.mapM f = some ys
  | [], _ => ⟨[], rfl⟩
  | x :: l, h => by
    obtain ⟨y, hy⟩ := h x (by simp)
    obtain ⟨ys, hys⟩ := mapM_some f l (fun z hz => h z (by simp [hz]))
    exact ⟨y :: ys, by rw [List.mapM_cons, hy, hys]; rfl⟩
theorem cells83 : Try.prog.cellsOf 83 = 200 := by kernel_rfl
theorem key83 {n : Nat} {R : Nat → Nat → Int} (hR : ∀ i j, -32768 ≤ R i j ∧ R i j ≤ 32767) (y : Nat) : ∃ kl, keyOf Try.prog 83 (.agg (cl n R y).toArray) = some kl := by
  have hk : Try.prog.keyType 83 = true := by kernel_rfl
  obtain ⟨m, hm⟩ : ∃ m, Try.prog.types.size = m + 1 := ⟨Try.prog.types.size - 1, by have : 0 < Try.prog.types.size := of_decide_eq_true (by kernel_rfl); omega⟩
  have hl := cl_length n R y
  have hcf : ∀ s, -32768 ≤ cf n R y s ∧ cf n R y s ≤ 32767 := fun s => by unfold cf; split <;> simp [hR]
  have hat := cl_at n R y
  generalize cl n R y = l at hl hat
  unfold keyOf
  rw [Try.underlying83]
  simp only [hk, Bool.true_and]
  rw [if_pos (by simp [Value.formed, Try.underlying83, cells83, hl])]
  rw [hm]
  obtain ⟨ys, hys⟩ := mapM_some (fun i => Try.prog.keyLits (m + 1) 40 ((l.drop (i * Try.prog.cellsOf 40)).take (Try.prog.cellsOf 40))) (List.range 200) (fun i hi => by
    have hi' : i < 200 := by simpa using hi
    refine ⟨[.int .i16 (cf n R y i)], ?_⟩
    have e : (l.drop (i * Try.prog.cellsOf 40)).take (Try.prog.cellsOf 40) = [.int .i16 (cf n R y i)] := by
      rw [cells40, Nat.mul_one, List.drop_eq_getElem_cons (by omega)]
      have := hat i hi'
      rw [List.getElem?_eq_getElem (by omega)] at this
      simp [Option.some.inj this]
    rw [e]
    have hwf : (Lit.int .i16 (cf n R y i)).wf = true := by
      have := hcf i
      simp [Lit.wf, IntKind.min, IntKind.max, IntKind.signed, IntKind.bits]; omega
    simp [Program.keyLits, Try.underlying40, hwf])
  have e0 : Try.prog.keyLits (m + 1 + 1) 83 (Value.agg l.toArray).cells.toList = some ys.flatten := by
    unfold Program.keyLits
    simp only [Try.underlying83, Value.cells]
    rw [if_pos (by rw [cells83]; exact hl), hys]
    rfl
  rw [e0]
  exact ⟨_, rfl⟩
end Go.Proofs.Ytlgcggfenljdnaa
