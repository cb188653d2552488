/-
  The plain mathematics of CRC-32 as this seat's walks use it, over natural numbers: one step of the register, eight of them, a text's; that a step is linear over 'exclusive or', and that below 2^32 no register but 0 comes to 0.
-/
namespace Go.Proofs.Ytnheaafepejaoaa.Crc

/-- One step of the register: a bit falls out; if it was one, the polynomial is added. -/
def bstep (r : Nat) : Nat := if r % 2 = 1 then (r / 2) ^^^ 3988292384 else r / 2
/-- So many steps. -/
def itb : Nat → Nat → Nat
  | 0, r => r
  | n + 1, r => bstep (itb n r)
/-- One byte. -/
def upd (r : Nat) (c : UInt8) : Nat := itb 8 (r ^^^ c.toNat)
/-- A text. -/
def crc (r : Nat) (l : List UInt8) : Nat := l.foldl upd r
/-- The sum that goes on from a sum. -/
def more (n : Nat) (l : List UInt8) : Nat := 4294967295 ^^^ crc (4294967295 ^^^ n) l

theorem xor_lt32 {a b : Nat} (ha : a < 4294967296) (hb : b < 4294967296) : a ^^^ b < 4294967296 := Nat.xor_lt_two_pow (n := 32) ha hb
theorem u8_lt32 (c : UInt8) : c.toNat < 4294967296 := by have := c.toNat_lt; omega

theorem bstep_lt {r : Nat} (h : r < 4294967296) : bstep r < 4294967296 := by
  unfold bstep
  split
  · exact xor_lt32 (by omega) (by omega)
  · omega
theorem itb_lt {r : Nat} (h : r < 4294967296) : ∀ n, itb n r < 4294967296
  | 0 => h
  | n + 1 => bstep_lt (itb_lt h n)
theorem upd_lt {r : Nat} (h : r < 4294967296) (c : UInt8) : upd r c < 4294967296 := itb_lt (xor_lt32 h (u8_lt32 c)) 8
theorem crc_lt : ∀ {r : Nat} (_ : r < 4294967296) (l : List UInt8), crc r l < 4294967296
  | _, h, [] => h
  | _, h, c :: l => crc_lt (upd_lt h c) l
theorem more_lt {n : Nat} (h : n < 4294967296) (l : List UInt8) : more n l < 4294967296 := xor_lt32 (by omega) (crc_lt (xor_lt32 (by omega) h) l)

theorem crc_append (r : Nat) (a b : List UInt8) : crc r (a ++ b) = crc (crc r a) b := by simp [crc, List.foldl_append]
theorem crc_snoc (r : Nat) (a : List UInt8) (c : UInt8) : crc r (a ++ [c]) = upd (crc r a) c := by simp [crc, List.foldl_append]
theorem flip_flip (n : Nat) : 4294967295 ^^^ (4294967295 ^^^ n) = n := by rw [← Nat.xor_assoc, Nat.xor_self, Nat.zero_xor]
theorem more_append (n : Nat) (a b : List UInt8) : more (more n a) b = more n (a ++ b) := by
  unfold more; rw [flip_flip, crc_append]

/-- A step is linear. -/
theorem bstep_xor (a b : Nat) : bstep (a ^^^ b) = bstep a ^^^ bstep b := by
  have hm : (a ^^^ b) % 2 = (a % 2 + b % 2) % 2 := by
    have := @Nat.xor_mod_two_eq_one a b
    omega
  have hd : (a ^^^ b) / 2 = a / 2 ^^^ b / 2 := Nat.xor_div_two
  have sw : ∀ x y z : Nat, x ^^^ y ^^^ z = x ^^^ z ^^^ y := fun x y z => by rw [Nat.xor_assoc, Nat.xor_comm y z, ← Nat.xor_assoc]
  unfold bstep
  rw [hm, hd]
  rcases Nat.mod_two_eq_zero_or_one a with h1 | h1 <;> rcases Nat.mod_two_eq_zero_or_one b with h2 | h2 <;> rw [h1, h2]
  · simp
  · simp [Nat.xor_assoc]
  · simp [sw]
  · simp only [Nat.reduceAdd, Nat.reduceMod, Nat.zero_ne_one, if_false, if_true]
    rw [Nat.xor_assoc (a / 2), ← Nat.xor_assoc 3988292384, Nat.xor_comm 3988292384, Nat.xor_assoc (b / 2), Nat.xor_self, Nat.xor_zero]
theorem itb_xor (n a b : Nat) : itb n (a ^^^ b) = itb n a ^^^ itb n b := by
  induction n with
  | zero => rfl
  | succ n ih => show bstep (itb n (a ^^^ b)) = bstep (itb n a) ^^^ bstep (itb n b); rw [ih, bstep_xor]
theorem bstep_double (a : Nat) : bstep (a * 2) = a := by
  unfold bstep; rw [if_neg (by omega)]; omega
theorem itb_add (m n r : Nat) : itb (m + n) r = itb m (itb n r) := by
  induction m with
  | zero => simp [itb]
  | succ m ih => rw [show m + 1 + n = (m + n) + 1 by omega]; show bstep (itb (m + n) r) = bstep (itb m (itb n r)); rw [ih]
theorem itb_pow (n a : Nat) : itb n (a * 2 ^ n) = a := by
  induction n generalizing a with
  | zero => simp [itb]
  | succ n ih => show bstep (itb n (a * 2 ^ (n + 1))) = a; rw [Nat.pow_succ, Nat.mul_comm (2 ^ n) 2, ← Nat.mul_assoc, ih, bstep_double]
theorem bstep_ne {r : Nat} (h0 : r ≠ 0) (h : r < 4294967296) : bstep r ≠ 0 := by
  unfold bstep
  split
  · intro e
    have e2 : r / 2 = 3988292384 := by
      have := congrArg (· ^^^ 3988292384) e
      simpa [Nat.xor_assoc] using this
    omega
  · omega
theorem itb_ne {r : Nat} (h0 : r ≠ 0) (h : r < 4294967296) : ∀ n, itb n r ≠ 0
  | 0 => h0
  | n + 1 => bstep_ne (itb_ne h0 h n) (itb_lt h n)

/-- Eight steps of the register, a bit of the byte taken at each: what has come of it behind b of them. -/
theorem bit_by_bit (r : Nat) (c b : Nat) :
    itb (b + 1) (r ^^^ c) ^^^ (c / 2 ^ (b + 1)) =
      (if (itb b (r ^^^ c) ^^^ (c / 2 ^ b)) % 2 ^^^ (c / 2 ^ b) % 2 = 1 then (itb b (r ^^^ c) ^^^ (c / 2 ^ b)) / 2 ^^^ 3988292384 else (itb b (r ^^^ c) ^^^ (c / 2 ^ b)) / 2) := by
  generalize hx : itb b (r ^^^ c) = x
  generalize hd : c / 2 ^ b = d
  have h1 : itb (b + 1) (r ^^^ c) = bstep x := by show bstep (itb b (r ^^^ c)) = _; rw [hx]
  have h2 : c / 2 ^ (b + 1) = d / 2 := by rw [Nat.pow_succ, ← Nat.div_div_eq_div_mul, hd]
  rw [h1, h2]
  have hm : (x ^^^ d) % 2 ^^^ d % 2 = x % 2 := by
    have e := @Nat.xor_mod_two_pow x d 1
    simp only [Nat.pow_one] at e
    rw [e, Nat.xor_assoc, Nat.xor_self, Nat.xor_zero]
  rw [hm, Nat.xor_div_two]
  unfold bstep
  split
  · rw [Nat.xor_assoc, Nat.xor_comm 3988292384, ← Nat.xor_assoc]
  · rfl
theorem bits_begin (r c : Nat) : itb 0 (r ^^^ c) ^^^ (c / 2 ^ 0) = r := by
  show (r ^^^ c) ^^^ (c / 1) = r
  rw [Nat.div_one, Nat.xor_assoc, Nat.xor_self, Nat.xor_zero]
theorem bits_end (r : Nat) (c : UInt8) : itb 8 (r ^^^ c.toNat) ^^^ (c.toNat / 2 ^ 8) = upd r c := by
  have := c.toNat_lt
  rw [Nat.div_eq_of_lt this, Nat.xor_zero]; rfl

/-- Two texts of one length, bit by bit. -/
def mix (a b : List UInt8) : List UInt8 := List.zipWith (· ^^^ ·) a b
theorem upd_xor (r q : Nat) (c d : UInt8) : upd (r ^^^ q) (c ^^^ d) = upd r c ^^^ upd q d := by
  unfold upd
  rw [← itb_xor, UInt8.toNat_xor]
  congr 1
  rw [Nat.xor_assoc, Nat.xor_assoc, ← Nat.xor_assoc q, Nat.xor_comm q, Nat.xor_assoc c.toNat]
theorem crc_mix : ∀ (a b : List UInt8) (r q : Nat), a.length = b.length → crc (r ^^^ q) (mix a b) = crc r a ^^^ crc q b
  | [], [], _, _, _ => rfl
  | c :: a, d :: b, r, q, h => by
    show crc (upd (r ^^^ q) (c ^^^ d)) (mix a b) = crc (upd r c) a ^^^ crc (upd q d) b
    rw [upd_xor]; exact crc_mix a b _ _ (by simpa using h)
  | [], _ :: _, _, _, h => by simp at h
  | _ :: _, [], _, _, h => by simp at h
theorem mix_length (a b : List UInt8) (h : a.length = b.length) : (mix a b).length = b.length := by simp [mix, h]

/-- The sum of three texts' bits' sum. -/
theorem more_three (a b c : List UInt8) (h1 : a.length = b.length) (h2 : b.length = c.length) :
    more 0 (mix (mix a b) c) = more 0 a ^^^ more 0 b ^^^ more 0 c := by
  unfold more
  have e : (4294967295 ^^^ 0 : Nat) = (4294967295 ^^^ 4294967295) ^^^ 4294967295 := by decide
  have l : crc (4294967295 ^^^ 0) (mix (mix a b) c) = crc (4294967295 ^^^ 0) a ^^^ crc (4294967295 ^^^ 0) b ^^^ crc (4294967295 ^^^ 0) c := by
    conv => lhs; rw [e]
    rw [crc_mix _ _ _ _ (by rw [mix_length _ _ h1]; exact h2), crc_mix _ _ _ _ h1]; rfl
  rw [l]
  generalize crc (4294967295 ^^^ 0) a = x
  generalize crc (4294967295 ^^^ 0) b = y
  generalize crc (4294967295 ^^^ 0) c = z
  have s : (4294967295 ^^^ x) ^^^ (4294967295 ^^^ y) = x ^^^ y := by
    rw [Nat.xor_comm 4294967295 x, Nat.xor_assoc, flip_flip]
  rw [s, ← Nat.xor_assoc (x ^^^ y), Nat.xor_comm (x ^^^ y) 4294967295, Nat.xor_assoc 4294967295 (x ^^^ y) z]

/-- No bytes but 0 leave 0. -/
theorem crc_zeros : ∀ n, crc 0 (List.replicate n 0) = 0
  | 0 => rfl
  | n + 1 => by show crc (upd 0 0) (List.replicate n 0) = 0; rw [show upd 0 0 = 0 by decide]; exact crc_zeros n
theorem crc_zeros_ne : ∀ (n : Nat) {r : Nat}, r ≠ 0 → r < 4294967296 → crc r (List.replicate n 0) ≠ 0
  | 0, _, h, _ => h
  | n + 1, r, h, hl => by
    show crc (upd r 0) (List.replicate n 0) ≠ 0
    exact crc_zeros_ne n (by show itb 8 (r ^^^ 0) ≠ 0; rw [Nat.xor_zero]; exact itb_ne h hl 8) (upd_lt hl 0)

/-- Bytes of a number, the lowest first. -/
def le : Nat → Nat → List UInt8
  | 0, _ => []
  | n + 1, x => UInt8.ofNat x :: le n (x / 256)
theorem crc_le : ∀ (n x r : Nat), x < 256 ^ n → crc r (le n x) = itb (8 * n) (r ^^^ x)
  | 0, x, r, h => by
    have : x = 0 := by simp at h; exact h
    subst this; simp [le, crc, itb]
  | n + 1, x, r, h => by
    show crc (upd r (UInt8.ofNat x)) (le n (x / 256)) = _
    rw [crc_le n (x / 256) _ (by rw [Nat.pow_succ] at h; omega)]
    rw [show 8 * (n + 1) = 8 * n + 8 by omega, itb_add]
    congr 1
    have hx : x = x % 256 ^^^ (x / 256) * 2 ^ 8 := by
      have := Nat.two_pow_add_eq_or_of_lt (i := 8) (b := x % 256) (by omega) (x / 256)
      have e2 : x % 256 ^^^ (x / 256) * 2 ^ 8 = x % 256 ||| (x / 256) * 2 ^ 8 := by
        apply Nat.eq_of_testBit_eq
        intro i
        rw [Nat.testBit_xor, Nat.testBit_or]
        by_cases hi : i < 8
        · rw [Nat.mul_comm, Nat.testBit_two_pow_mul]; simp [show ¬ 8 ≤ i by omega]
        · have : (x % 256).testBit i = false := Nat.testBit_lt_two_pow (Nat.lt_of_lt_of_le (Nat.mod_lt _ (by omega)) (by rw [show 256 = 2 ^ 8 by rfl]; exact Nat.pow_le_pow_right (by omega) (by omega)))
          rw [this]; simp
      rw [e2, Nat.or_comm, Nat.mul_comm, ← this]
      omega
    conv => rhs; rw [hx]
    rw [← Nat.xor_assoc, itb_xor, itb_pow]
    unfold upd
    rw [show (UInt8.ofNat x).toNat = x % 256 by simp]

/-- Turned bits within 32 in a row: behind them the register is another one. -/
theorem burst_ne (g j : Nat) (h0 : g ≠ 0) (h : g < 4294967296) (hj : j < 8) : crc 0 (le 5 (g * 2 ^ j)) ≠ 0 := by
  have hb : g * 2 ^ j < 256 ^ 5 := by
    have h1 : 2 ^ j ≤ 2 ^ 7 := Nat.pow_le_pow_right (by omega) (by omega)
    have h2 : g * 2 ^ j ≤ g * 2 ^ 7 := Nat.mul_le_mul_left _ h1
    have : (256 : Nat) ^ 5 = 1099511627776 := by decide
    omega
  rw [crc_le 5 _ 0 hb, Nat.zero_xor, show 8 * 5 = (40 - j) + j by omega, itb_add, itb_pow]
  exact itb_ne h0 h _
theorem burst_text (g j m n : Nat) (h0 : g ≠ 0) (h : g < 4294967296) (hj : j < 8) : crc 0 (List.replicate m 0 ++ le 5 (g * 2 ^ j) ++ List.replicate n 0) ≠ 0 := by
  rw [crc_append, crc_append, crc_zeros]
  exact crc_zeros_ne n (burst_ne g j h0 h hj) (crc_lt (by omega) _)
/-- Bits turned within 32 in a row give another sum. -/
theorem turned_ne (s : List UInt8) (g j m n : Nat) (h0 : g ≠ 0) (h : g < 4294967296) (hj : j < 8) (hs : s.length = m + 5 + n) :
    more 0 s ≠ more 0 (mix s (List.replicate m 0 ++ le 5 (g * 2 ^ j) ++ List.replicate n 0)) := by
  intro e
  have hl : s.length = (List.replicate m (0 : UInt8) ++ le 5 (g * 2 ^ j) ++ List.replicate n 0).length := by
    simp [le, hs]; omega
  have hx := crc_mix s _ 4294967295 0 hl
  have e2 : crc 4294967295 s = crc 4294967295 (mix s (List.replicate m 0 ++ le 5 (g * 2 ^ j) ++ List.replicate n 0)) := by
    have := congrArg (4294967295 ^^^ ·) e
    simpa [more, flip_flip] using this
  rw [show (4294967295 ^^^ 0 : Nat) = 4294967295 by decide, ← e2] at hx
  apply burst_text g j m n h0 h hj
  have := congrArg (crc 4294967295 s ^^^ ·) hx
  simp only [Nat.xor_self, ← Nat.xor_assoc, Nat.zero_xor] at this
  exact this.symm
theorem known : more 0 [49, 50, 51, 52, 53, 54, 55, 56, 57] = 3421780262 := by decide +kernel
theorem known_a : more 0 [97] = 3904355907 := by decide +kernel
theorem known_b : more 0 [98] = 1908338681 := by decide +kernel
theorem known_empty : more 0 [] = 0 := by decide +kernel
end Go.Proofs.Ytnheaafepejaoaa.Crc
