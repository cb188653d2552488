/-
  The plain mathematics of classes of bytes: a class is four words of 64 bits; which bytes it has, two together, both, the others, how many, the bytes below a number, those for which something holds; no condition.
-/
namespace Go.Proofs.Ytlmlkpdppkgenaa.Cls

abbrev Wd := BitVec 64
abbrev Cl := Wd × Wd × Wd × Wd

/-- The word i. -/
def wd (c : Cl) (i : Nat) : Wd := if i = 0 then c.1 else if i = 1 then c.2.1 else if i = 2 then c.2.2.1 else c.2.2.2
/-- Is b in it? -/
def mem (c : Cl) (b : Nat) : Bool := (wd c (b / 64)).getLsbD (b % 64)
def join (c d : Cl) : Cl := (c.1 ||| d.1, c.2.1 ||| d.2.1, c.2.2.1 ||| d.2.2.1, c.2.2.2 ||| d.2.2.2)
def meet (c d : Cl) : Cl := (c.1 &&& d.1, c.2.1 &&& d.2.1, c.2.2.1 &&& d.2.2.1, c.2.2.2 &&& d.2.2.2)
def neg (c : Cl) : Cl := (~~~c.1, ~~~c.2.1, ~~~c.2.2.1, ~~~c.2.2.2)
def empty : Cl := (0#64, 0#64, 0#64, 0#64)
/-- The word i laid anew. -/
def upd (c : Cl) (i : Nat) (v : Wd) : Cl := (if i = 0 then v else c.1, if i = 1 then v else c.2.1, if i = 2 then v else c.2.2.1, if i = 3 then v else c.2.2.2)

theorem wd_join (c d : Cl) (i : Nat) : wd (join c d) i = wd c i ||| wd d i := by unfold wd join; repeat (first | rfl | split)
theorem wd_meet (c d : Cl) (i : Nat) : wd (meet c d) i = wd c i &&& wd d i := by unfold wd meet; repeat (first | rfl | split)
theorem wd_neg (c : Cl) (i : Nat) : wd (neg c) i = ~~~ wd c i := by unfold wd neg; repeat (first | rfl | split)
theorem wd_empty (i : Nat) : wd empty i = 0#64 := by unfold wd empty; repeat (first | rfl | split)
theorem wd_upd (c : Cl) (i j : Nat) (v : Wd) (hi : i < 4) (hj : j < 4) : wd (upd c i v) j = if j = i then v else wd c j := by
  have : i = 0 ∨ i = 1 ∨ i = 2 ∨ i = 3 := by omega
  have : j = 0 ∨ j = 1 ∨ j = 2 ∨ j = 3 := by omega
  rcases ‹i = 0 ∨ _› with rfl | rfl | rfl | rfl <;> rcases ‹j = 0 ∨ _› with rfl | rfl | rfl | rfl <;> rfl

theorem mem_join (c d : Cl) (b : Nat) : mem (join c d) b = (mem c b || mem d b) := by simp [mem, wd_join]
theorem mem_meet (c d : Cl) (b : Nat) : mem (meet c d) b = (mem c b && mem d b) := by simp [mem, wd_meet]
theorem mem_neg (c : Cl) (b : Nat) : mem (neg c) b = !mem c b := by
  have : b % 64 < 64 := Nat.mod_lt _ (by omega)
  simp [mem, wd_neg, this]
theorem mem_empty (b : Nat) : mem empty b = false := by simp [mem, wd_empty]

theorem ext_wd {c d : Cl} (h : ∀ i, i < 4 → wd c i = wd d i) : c = d := by
  have h0 := h 0 (by omega); have h1 := h 1 (by omega); have h2 := h 2 (by omega); have h3 := h 3 (by omega)
  obtain ⟨a, b, e, f⟩ := c
  obtain ⟨a', b', e', f'⟩ := d
  have h0 : a = a' := h0
  have h1 : b = b' := h1
  have h2 : e = e' := h2
  have h3 : f = f' := h3
  subst h0; subst h1; subst h2; subst h3; rfl
/-- Two classes that have the same bytes are one. -/
theorem ext_mem {c d : Cl} (h : ∀ b, b < 256 → mem c b = mem d b) : c = d := by
  refine ext_wd fun i hi => BitVec.eq_of_getLsbD_eq fun j hj => ?_
  have := h (64 * i + j) (by omega)
  unfold mem at this
  rwa [show (64 * i + j) / 64 = i by omega, show (64 * i + j) % 64 = j by omega] at this
theorem eq_empty_iff {c : Cl} : c = empty ↔ ∀ b, b < 256 → mem c b = false :=
  ⟨fun h b _ => by rw [h, mem_empty], fun h => ext_mem fun b hb => by rw [h b hb, mem_empty]⟩
/-! ### Sets: what ClassSets says -/
/-! ### The bytes below a number -/
/-- So many ones. -/
def ones (k : Nat) : Wd := BitVec.ofNat 64 (2 ^ (min k 64) - 1)
theorem ones_bit (k i : Nat) : (ones k).getLsbD i = (decide (i < 64) && decide (i < k)) := by
  unfold ones
  rw [BitVec.getLsbD_ofNat, Nat.testBit_two_pow_sub_one]
  by_cases h : i < 64
  · simp [h]; omega
  · simp [h]
def below (n : Nat) : Cl := (ones n, ones (n - 64), ones (n - 128), ones (n - 192))
theorem mem_below (n b : Nat) (hb : b < 256) : mem (below n) b = decide (b < n) := by
  unfold mem
  have hm : b % 64 < 64 := Nat.mod_lt _ (by omega)
  have : b / 64 = 0 ∨ b / 64 = 1 ∨ b / 64 = 2 ∨ b / 64 = 3 := by omega
  rcases this with h | h | h | h <;> rw [h]
  · show (ones n).getLsbD _ = _
    rw [ones_bit]; simp [hm]; omega
  · show (ones (n - 64)).getLsbD _ = _
    rw [ones_bit]; simp [hm]; omega
  · show (ones (n - 128)).getLsbD _ = _
    rw [ones_bit]; simp [hm]; omega
  · show (ones (n - 192)).getLsbD _ = _
    rw [ones_bit]; simp [hm]; omega
/-- Range. -/
def range (lo hi : Int) : Cl := meet (below (min hi 255 + 1).toNat) (neg (below lo.toNat))
theorem mem_range (lo hi : Int) (b : Nat) (hb : b < 256) : mem (range lo hi) b = (decide (lo ≤ b) && decide ((b : Int) ≤ hi)) := by
  unfold range
  rw [mem_meet, mem_neg, mem_below _ _ hb, mem_below _ _ hb]
  by_cases h1 : lo ≤ b <;> by_cases h2 : (b : Int) ≤ hi <;> simp [h1, h2] <;> omega
/-! ### The bytes for which something holds -/
/-- The bit of b set. -/
def setb (c : Cl) (b : Nat) : Cl := upd c (b / 64) (wd c (b / 64) ||| BitVec.ofNat 64 (2 ^ (b % 64)))
theorem mem_setb (c : Cl) (b x : Nat) (hb : b < 256) (hx : x < 256) : mem (setb c b) x = (mem c x || decide (x = b)) := by
  unfold mem setb
  rw [wd_upd _ _ _ _ (by omega) (by omega)]
  split
  · rename_i h
    rw [BitVec.getLsbD_or, BitVec.getLsbD_ofNat, Nat.testBit_two_pow, h]
    have : x % 64 < 64 := Nat.mod_lt _ (by omega)
    have e : (b % 64 = x % 64) ↔ x = b := by omega
    simp [this, e]
  · rename_i h
    have : x ≠ b := fun e => h (by rw [e])
    simp [this]
/-! ### The bit as a number -/
theorem mem_div (c : Cl) (b : Nat) : mem c b = decide ((wd c (b / 64)).toNat / 2 ^ (b % 64) % 2 = 1) := by
  unfold mem; rw [BitVec.getLsbD, Nat.testBit_eq_decide_div_mod_eq]
def bit (c : Cl) (b : Nat) : Nat := if mem c b then 1 else 0
theorem bit_eq (c : Cl) (b : Nat) : (wd c (b / 64)).toNat / 2 ^ (b % 64) % 2 = bit c b := by
  unfold bit; rw [mem_div]
  split
  · rename_i h; simpa using h
  · rename_i h; simp at h; omega

/-! ### How many, and which -/
def bytesTo (c : Cl) (k : Nat) : List UInt8 := ((List.range k).filter (mem c)).map Nat.toUInt8
def bytes (c : Cl) : List UInt8 := bytesTo c 256
end Go.Proofs.Ytlmlkpdppkgenaa.Cls
