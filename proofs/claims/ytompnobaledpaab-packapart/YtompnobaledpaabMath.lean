/-
  The plain mathematics of numbers and texts as bytes (no Go, no memory): what is written is read as it was, what is read is written as just those bytes, a beginning ends too early. Conditions: numbers below 2^64, texts of at most 4096 bytes, lists of at most 100 texts.
-/
namespace Pack

/-- A number as bytes: groups of seven bits, the lowest first. -/
def num (n : Nat) : List UInt8 := if h : n < 128 then [UInt8.ofNat n] else UInt8.ofNat (n % 128 + 128) :: num (n / 128)
/-- What groups of seven bits are together. -/
def val : List UInt8 → Nat
  | [] => 0
  | c :: l => c.toNat % 128 + 128 * val l
/-- How many bytes at the front say that another one follows. -/
def lead : List UInt8 → Nat
  | [] => 0
  | c :: l => if 128 ≤ c.toNat then lead l + 1 else 0
/-- The byte behind those. -/
def last (l : List UInt8) : Nat := (l.getD (lead l) 0).toNat
/-- Reading a number: the error, the number, how many bytes. -/
def re (l : List UInt8) : Nat := if 10 ≤ lead l then 4 else if lead l = l.length then 3 else if (last l = 0 ∧ 0 < lead l) ∨ (lead l = 9 ∧ 1 < last l) then 4 else 0
def rn (l : List UInt8) : Nat := if re l = 0 then val (l.take (lead l + 1)) else 0
def rk (l : List UInt8) : Nat := if re l = 0 then lead l + 1 else 0
/-- A text, and reading one: the error, the text, how many bytes. -/
def text (s : List UInt8) : List UInt8 := num s.length ++ s
def te (l : List UInt8) : Nat := if re l ≠ 0 then re l else if 4096 < rn l then 2 else if l.length < rk l + rn l then 3 else 0
def tt (l : List UInt8) : List UInt8 := if te l = 0 then (l.drop (rk l)).take (rn l) else []
def tk (l : List UInt8) : Nat := if te l = 0 then rk l + rn l else 0
/-- A list, and reading one. -/
def list (ls : List (List UInt8)) : List UInt8 := num ls.length ++ (ls.map text).flatten
def listE (ls : List (List UInt8)) : Nat := if 100 < ls.length ∨ ls.any (fun s => decide (4096 < s.length)) = true then 2 else 0
def rl : Nat → List UInt8 → Nat × List (List UInt8) × List UInt8
  | 0, l => (0, [], l)
  | c + 1, l => if te l = 0 then ((rl c (l.drop (tk l))).1, tt l :: (rl c (l.drop (tk l))).2.1, (rl c (l.drop (tk l))).2.2) else (te l, [], l)
def le (l : List UInt8) : Nat :=
  if re l ≠ 0 then re l else if 100 < rn l then 2 else if (rl (rn l) (l.drop (rk l))).1 ≠ 0 then (rl (rn l) (l.drop (rk l))).1 else if (rl (rn l) (l.drop (rk l))).2.2 ≠ [] then 4 else 0
def ll (l : List UInt8) : List (List UInt8) := if le l = 0 then (rl (rn l) (l.drop (rk l))).2.1 else []

theorem num_small {n : Nat} (h : n < 128) : num n = [UInt8.ofNat n] := by rw [num, dif_pos h]
theorem num_big {n : Nat} (h : 128 ≤ n) : num n = UInt8.ofNat (n % 128 + 128) :: num (n / 128) := by rw [num, dif_neg (by omega)]

/-- Bytes that are a number's: those ahead of the last one, and the last one. -/
def Shape (f : List UInt8) (c : UInt8) : Prop := (∀ x ∈ f, 128 ≤ x.toNat) ∧ c.toNat < 128 ∧ (f ≠ [] → c.toNat ≠ 0)

theorem val_append (f g : List UInt8) : val (f ++ g) = val f + 128 ^ f.length * val g := by
  induction f with
  | nil => simp [val]
  | cons c f ih =>
    simp only [List.cons_append, val, ih, List.length_cons, Nat.pow_succ]
    rw [Nat.mul_add, Nat.add_assoc, Nat.mul_comm (128 ^ f.length) 128, Nat.mul_assoc]
theorem val_lt (f : List UInt8) : val f < 128 ^ f.length := by
  induction f with
  | nil => simp [val]
  | cons c f ih =>
    simp only [val, List.length_cons, Nat.pow_succ]
    have := Nat.mod_lt c.toNat (show 128 > 0 by omega)
    omega
theorem val_one (c : UInt8) (h : c.toNat < 128) : val [c] = c.toNat := by simp [val]; omega
theorem val_drop_le (l : List UInt8) (i : Nat) : val (l.drop i) ≤ val l := by
  induction l generalizing i with
  | nil => simp
  | cons c l ih =>
    cases i with
    | zero => simp
    | succ i => simp only [List.drop_succ_cons, val]; have := ih i; omega

theorem num_shape (n : Nat) : ∃ f c, num n = f ++ [c] ∧ Shape f c ∧ val (f ++ [c]) = n ∧ (0 < n → c.toNat ≠ 0) := by
  induction n using Nat.strongRecOn with
  | ind n ih =>
    by_cases h : n < 128
    · have e : (UInt8.ofNat n).toNat = n := by rw [UInt8.toNat_ofNat']; omega
      refine ⟨[], UInt8.ofNat n, by rw [num_small h]; rfl, ⟨by simp, by omega, by simp⟩, ?_, by omega⟩
      rw [List.nil_append, val_one _ (by omega), e]
    · obtain ⟨f, c, h1, ⟨h2, h3, h4⟩, h5, h6⟩ := ih (n / 128) (by omega)
      have e : (UInt8.ofNat (n % 128 + 128)).toNat = n % 128 + 128 := by rw [UInt8.toNat_ofNat']; omega
      refine ⟨UInt8.ofNat (n % 128 + 128) :: f, c, by rw [num_big (by omega), h1]; rfl, ⟨?_, h3, fun _ => h6 (by omega)⟩, ?_, fun _ => h6 (by omega)⟩
      · intro x hx
        rcases List.mem_cons.1 hx with rfl | hx
        · omega
        · exact h2 x hx
      · rw [List.cons_append, val, h5, e]; omega
theorem num_val (f : List UInt8) (c : UInt8) (h : Shape f c) : num (val (f ++ [c])) = f ++ [c] := by
  induction f with
  | nil => rw [List.nil_append, val_one _ h.2.1, num_small h.2.1]; simp
  | cons d f ih =>
    have hd := h.1 d (by simp)
    have hd2 := d.toNat_lt
    have hc := h.2.2 (by simp)
    have i := ih ⟨fun x hx => h.1 x (by simp [hx]), h.2.1, fun _ => hc⟩
    have hv : 1 ≤ val (f ++ [c]) := by
      rw [val_append, val_one _ h.2.1]
      have : 1 ≤ 128 ^ f.length := Nat.pow_pos (by omega)
      have := Nat.mul_le_mul this (show 1 ≤ c.toNat by omega)
      omega
    rw [List.cons_append, val, num_big (by omega)]
    have e1 : (d.toNat % 128 + 128 * val (f ++ [c])) / 128 = val (f ++ [c]) := by omega
    have e2 : (d.toNat % 128 + 128 * val (f ++ [c])) % 128 + 128 = d.toNat := by omega
    rw [e1, e2, i]; simp

theorem lead_front (f : List UInt8) (g : List UInt8) (h : ∀ x ∈ f, 128 ≤ x.toNat) : lead (f ++ g) = f.length + lead g := by
  induction f with
  | nil => simp
  | cons d f ih =>
    rw [List.cons_append, lead, if_pos (h d (by simp)), ih (fun x hx => h x (by simp [hx])), List.length_cons]; omega
theorem lead_le (l : List UInt8) : lead l ≤ l.length := by
  induction l with
  | nil => simp [lead]
  | cons d l ih => simp only [lead]; split <;> simp <;> omega
theorem lead_split (l : List UInt8) (h : lead l < l.length) : ∃ f c g, l = f ++ c :: g ∧ f.length = lead l ∧ (∀ x ∈ f, 128 ≤ x.toNat) ∧ c.toNat < 128 := by
  induction l with
  | nil => simp [lead] at h
  | cons d l ih =>
    by_cases hd : 128 ≤ d.toNat
    · rw [lead, if_pos hd] at h
      obtain ⟨f, c, g, e, h1, h2, h3⟩ := ih (by simpa using h)
      refine ⟨d :: f, c, g, by rw [e]; rfl, by rw [lead, if_pos hd, List.length_cons, h1], ?_, h3⟩
      intro x hx
      rcases List.mem_cons.1 hx with rfl | hx
      · exact hd
      · exact h2 x hx
    · exact ⟨[], d, l, rfl, by rw [lead, if_neg hd]; rfl, by simp, by omega⟩

theorem parts (f : List UInt8) (c : UInt8) (g : List UInt8) (h : ∀ x ∈ f, 128 ≤ x.toNat) (hc : c.toNat < 128) :
    lead (f ++ c :: g) = f.length ∧ last (f ++ c :: g) = c.toNat ∧ (f ++ c :: g).take (lead (f ++ c :: g) + 1) = f ++ [c] := by
  have e : lead (f ++ c :: g) = f.length := by rw [lead_front f _ h, lead, if_neg (by omega)]; rfl
  refine ⟨e, ?_, ?_⟩
  · unfold last; rw [e]; simp [List.getD]
  · rw [e]; simp [List.take_append]; exact List.take_of_length_le (by omega)

theorem pow_bound (f : List UInt8) (c : UInt8) (hc : c.toNat < 128) (h : val (f ++ [c]) < 18446744073709551616) (h0 : f ≠ [] → c.toNat ≠ 0) : f.length ≤ 9 ∧ (f.length = 9 → c.toNat ≤ 1) := by
  rw [val_append, val_one _ hc] at h
  have key : 128 ^ f.length * c.toNat < 18446744073709551616 := by omega
  have h9 : f.length ≤ 9 := by
    refine Nat.le_of_not_lt fun hl => ?_
    have hne : f ≠ [] := by intro e; subst e; simp at hl
    have h1 : 128 ^ 10 ≤ 128 ^ f.length := Nat.pow_le_pow_right (by omega) hl
    have h2 := Nat.mul_le_mul h1 (show 1 ≤ c.toNat from Nat.pos_of_ne_zero (h0 hne))
    have h3 : (128 : Nat) ^ 10 = 1180591620717411303424 := by decide
    omega
  refine ⟨h9, fun e => ?_⟩
  rw [e] at key
  have h3 : (128 : Nat) ^ 9 = 9223372036854775808 := by decide
  omega
theorem pow_less (f : List UInt8) (c : UInt8) (hc : c.toNat < 128) (h : f.length ≤ 9) (h9 : f.length = 9 → c.toNat ≤ 1) : val (f ++ [c]) < 18446744073709551616 := by
  rw [val_append, val_one _ hc]
  have hv := val_lt f
  have h3 : (128 : Nat) ^ 9 = 9223372036854775808 := by decide
  by_cases e : f.length = 9
  · rw [e] at hv ⊢
    have := h9 e
    have := Nat.mul_le_mul_left (128 ^ 9) this
    omega
  · have h8 : f.length ≤ 8 := by omega
    have h1 : 128 ^ f.length ≤ 128 ^ 8 := Nat.pow_le_pow_right (by omega) h8
    have h2 := Nat.mul_le_mul h1 (show c.toNat ≤ 127 by omega)
    have h4 : (128 : Nat) ^ 8 = 72057594037927936 := by decide
    omega

theorem re_of_shape (f : List UInt8) (c : UInt8) (g : List UInt8) (h : Shape f c) (h9 : f.length ≤ 9) (h1 : f.length = 9 → c.toNat ≤ 1) :
    re (f ++ c :: g) = 0 ∧ rn (f ++ c :: g) = val (f ++ [c]) ∧ rk (f ++ c :: g) = f.length + 1 := by
  obtain ⟨p1, p2, p3⟩ := parts f c g h.1 h.2.1
  have e : re (f ++ c :: g) = 0 := by
    unfold re
    rw [p1, p2, if_neg (by omega), if_neg (by simp), if_neg]
    rintro (⟨a, b⟩ | ⟨a, b⟩)
    · exact h.2.2 (by intro e; subst e; simp at b) a
    · have := h1 a; omega
  refine ⟨e, ?_, ?_⟩
  · unfold rn; rw [if_pos e, p3]
  · unfold rk; rw [if_pos e, p1]
theorem shape_of_re (l : List UInt8) (h : re l = 0) : ∃ f c g, l = f ++ c :: g ∧ Shape f c ∧ f.length ≤ 9 ∧ (f.length = 9 → c.toNat ≤ 1) := by
  unfold re at h
  split at h
  · omega
  split at h
  · omega
  split at h
  · omega
  rename_i h1 h2 h3
  have := lead_le l
  obtain ⟨f, c, g, e, e1, e2, e3⟩ := lead_split l (by omega)
  obtain ⟨p1, p2, p3⟩ := parts f c g e2 e3
  rw [← e] at p1 p2
  rw [p1, p2] at h3
  refine ⟨f, c, g, e, ⟨e2, e3, fun hf h0 => h3 (.inl ⟨h0, ?_⟩)⟩, by omega, fun h9 => Nat.le_of_not_lt fun hc => h3 (.inr ⟨h9, hc⟩)⟩
  exact List.length_pos_iff.2 hf

/-- What is written is read as it was. -/
theorem read_num (n : Nat) (hn : n < 18446744073709551616) (m : List UInt8) : re (num n ++ m) = 0 ∧ rn (num n ++ m) = n ∧ rk (num n ++ m) = (num n).length := by
  obtain ⟨f, c, h1, h2, h3, _⟩ := num_shape n
  obtain ⟨b1, b2⟩ := pow_bound f c h2.2.1 (by omega) h2.2.2
  obtain ⟨r1, r2, r3⟩ := re_of_shape f c m h2 b1 b2
  have e : num n ++ m = f ++ c :: m := by rw [h1]; simp
  rw [e, r1, r2, r3, h1, h3]
  simp
/-- What is read is written as just those bytes. -/
theorem num_read (l : List UInt8) (h : re l = 0) : rk l ≤ l.length ∧ num (rn l) = l.take (rk l) ∧ rn l < 18446744073709551616 ∧ 1 ≤ rk l := by
  obtain ⟨f, c, g, e, h2, h9, h1⟩ := shape_of_re l h
  obtain ⟨r1, r2, r3⟩ := re_of_shape f c g h2 h9 h1
  rw [← e] at r1 r2 r3
  rw [r2, r3]
  refine ⟨by rw [e]; simp, ?_, pow_less f c h2.2.1 h9 h1, by omega⟩
  rw [num_val f c h2, e]; simp [List.take_append]; exact (List.take_of_length_le (by omega)).symm
theorem num_len (n : Nat) (hn : n < 18446744073709551616) : (num n).length ≤ 10 ∧ 1 ≤ (num n).length := by
  obtain ⟨f, c, h1, h2, h3, _⟩ := num_shape n
  have := (pow_bound f c h2.2.1 (by omega) h2.2.2).1
  rw [h1]; simp; omega
/-- A beginning of a number ends too early. -/
theorem cut_num (n : Nat) (hn : n < 18446744073709551616) (j : Nat) (hj : j < (num n).length) : re ((num n).take j) = 3 := by
  obtain ⟨f, c, h1, h2, h3, _⟩ := num_shape n
  have h9 := (pow_bound f c h2.2.1 (by omega) h2.2.2).1
  rw [h1] at hj ⊢
  simp at hj
  have e : (f ++ [c]).take j = f.take j := by rw [List.take_append_of_le_length (by omega)]
  rw [e]
  have hl : lead (f.take j) = (f.take j).length := by
    have := lead_front (f.take j) [] (fun x hx => h2.1 x (List.mem_of_mem_take hx))
    simpa [lead] using this
  unfold re
  rw [hl, if_neg (by simp; omega), if_pos rfl]
theorem num_inj {a b : Nat} (h : num a = num b) : a = b := by
  obtain ⟨f, c, h1, _, h3, _⟩ := num_shape a
  obtain ⟨f', c', h1', _, h3', _⟩ := num_shape b
  rw [← h3, ← h3', ← h1, ← h1', h]
theorem num_mono (a : Nat) : ∀ b, b ≤ a → (num b).length ≤ (num a).length := by
  induction a using Nat.strongRecOn with
  | ind a ih =>
    intro b hb
    by_cases h : b < 128
    · rw [num_small h]
      obtain ⟨f, c, h1, _⟩ := num_shape a
      rw [h1]; simp
    · rw [num_big (show 128 ≤ b by omega), num_big (show 128 ≤ a by omega)]
      have := ih (a / 128) (by omega) (b / 128) (by omega)
      simp; omega

theorem text_back (s m : List UInt8) (hs : s.length ≤ 4096) : te (text s ++ m) = 0 ∧ tt (text s ++ m) = s ∧ tk (text s ++ m) = (text s).length := by
  obtain ⟨h1, h2, h3⟩ := read_num s.length (by omega) (s ++ m)
  have e : text s ++ m = num s.length ++ (s ++ m) := by unfold text; simp
  have ht : te (text s ++ m) = 0 := by
    unfold te; rw [e, h1, h2, h3, if_neg (by simp), if_neg (by omega), if_neg (by simp)]
  refine ⟨ht, ?_, ?_⟩
  · unfold tt; rw [if_pos ht, e, h2, h3]; simp
  · unfold tk; rw [if_pos ht, e, h2, h3]; simp [text]
theorem te_zero (l : List UInt8) (h : te l = 0) : re l = 0 ∧ rn l ≤ 4096 ∧ rk l + rn l ≤ l.length := by
  unfold te at h
  split at h
  · omega
  split at h
  · omega
  split at h
  · omega
  omega
theorem text_one (l : List UInt8) (h : te l = 0) : tk l ≤ l.length ∧ text (tt l) = l.take (tk l) ∧ (tt l).length ≤ 4096 := by
  obtain ⟨h1, h2, h3⟩ := te_zero l h
  obtain ⟨k1, k2, _, _⟩ := num_read l h1
  have e : (tt l).length = rn l := by unfold tt; rw [if_pos h]; simp; omega
  refine ⟨by unfold tk; rw [if_pos h]; exact h3, ?_, by omega⟩
  unfold text
  rw [e, k2]
  unfold tt tk
  rw [if_pos h, if_pos h, List.take_add]
theorem cut_text (s : List UInt8) (hs : s.length ≤ 4096) (j : Nat) (hj : j < (text s).length) : te ((text s).take j) = 3 := by
  unfold text at hj ⊢
  by_cases h : j < (num s.length).length
  · have := cut_num s.length (by omega) j h
    rw [List.take_append_of_le_length (by omega)]
    unfold te; rw [this]; rfl
  · have e : (num s.length ++ s).take j = num s.length ++ s.take (j - (num s.length).length) := by
      rw [List.take_append, List.take_of_length_le (by omega)]
    obtain ⟨h1, h2, h3⟩ := read_num s.length (by omega) (s.take (j - (num s.length).length))
    rw [e]
    unfold te; rw [h1, h2, h3, if_neg (by simp), if_neg (by omega), if_pos]
    simp at hj ⊢; omega
theorem tk_pos (l : List UInt8) (h : te l = 0) : 1 ≤ tk l ∧ tk l ≤ l.length := by
  have h1 := (te_zero l h).1
  have := (num_read l h1).2.2.2
  refine ⟨by unfold tk; rw [if_pos h]; omega, (text_one l h).1⟩

theorem rl_back (ls : List (List UInt8)) (h : ∀ s ∈ ls, s.length ≤ 4096) (m : List UInt8) : rl ls.length ((ls.map text).flatten ++ m) = (0, ls, m) := by
  induction ls with
  | nil => simp [rl]
  | cons s ls ih =>
    have i := ih (fun x hx => h x (by simp [hx]))
    obtain ⟨h1, h2, h3⟩ := text_back s ((ls.map text).flatten ++ m) (h s (by simp))
    have e : ((s :: ls).map text).flatten ++ m = text s ++ ((ls.map text).flatten ++ m) := by simp
    rw [e, List.length_cons, rl, if_pos h1, h2, h3]
    have e2 : (text s ++ ((ls.map text).flatten ++ m)).drop (text s).length = (ls.map text).flatten ++ m := by simp
    rw [e2, i]
theorem rl_one (c : Nat) : ∀ l, (rl c l).1 = 0 → (rl c l).2.1.length = c ∧ (∀ s ∈ (rl c l).2.1, s.length ≤ 4096) ∧ ((rl c l).2.1.map text).flatten ++ (rl c l).2.2 = l := by
  induction c with
  | zero => intro l _; simp [rl]
  | succ c ih =>
    intro l h
    by_cases ht : te l = 0
    · rw [rl, if_pos ht] at h ⊢
      obtain ⟨i1, i2, i3⟩ := ih (l.drop (tk l)) h
      obtain ⟨t1, t2, t3⟩ := text_one l ht
      refine ⟨by simp [i1], ?_, ?_⟩
      · intro s hs
        rcases List.mem_cons.1 hs with rfl | hs
        · exact t3
        · exact i2 s hs
      · simp only [List.map_cons, List.flatten_cons, List.append_assoc]
        rw [i3, t2, List.take_append_drop]
    · rw [rl, if_neg ht] at h
      exact absurd h ht
theorem rl_err (c : Nat) : ∀ l, (rl c l).1 < 5 := by
  induction c with
  | zero => intro l; simp [rl]
  | succ c ih =>
    intro l
    rw [rl]
    split
    · exact ih _
    · show te l < 5
      unfold te re
      repeat' split
      all_goals omega
theorem listE_zero (ls : List (List UInt8)) (h : listE ls = 0) : ls.length ≤ 100 ∧ ∀ s ∈ ls, s.length ≤ 4096 := by
  unfold listE at h
  split at h
  · omega
  · rename_i h1
    simp at h1
    exact ⟨h1.1, fun s hs => h1.2 s hs⟩
theorem listE_of (ls : List (List UInt8)) (h1 : ls.length ≤ 100) (h2 : ∀ s ∈ ls, s.length ≤ 4096) : listE ls = 0 := by
  unfold listE
  rw [if_neg]
  simp
  exact ⟨h1, h2⟩
theorem list_back (ls : List (List UInt8)) (h : listE ls = 0) : le (list ls) = 0 ∧ ll (list ls) = ls := by
  obtain ⟨h1, h2⟩ := listE_zero ls h
  obtain ⟨r1, r2, r3⟩ := read_num ls.length (by omega) (ls.map text).flatten
  have b := rl_back ls h2 []
  rw [List.append_nil] at b
  have e : (num ls.length ++ (ls.map text).flatten).drop (num ls.length).length = (ls.map text).flatten := by simp
  have k : le (list ls) = 0 := by
    unfold le list; rw [r1, r2, r3, e, b]; simp; omega
  refine ⟨k, ?_⟩
  unfold ll; rw [if_pos k]; unfold list; rw [r2, r3, e, b]
theorem le_zero (l : List UInt8) (h : le l = 0) : re l = 0 ∧ rn l ≤ 100 ∧ (rl (rn l) (l.drop (rk l))).1 = 0 ∧ (rl (rn l) (l.drop (rk l))).2.2 = [] := by
  unfold le at h
  split at h
  · omega
  split at h
  · omega
  split at h
  · omega
  split at h
  · omega
  rename_i a b c d
  exact ⟨by omega, by omega, by omega, Classical.not_not.1 d⟩
theorem list_one (l : List UInt8) (h : le l = 0) : listE (ll l) = 0 ∧ list (ll l) = l := by
  obtain ⟨h1, h2, h3, h4⟩ := le_zero l h
  obtain ⟨k1, k2, k3⟩ := rl_one _ _ h3
  rw [h4, List.append_nil] at k3
  have e : ll l = (rl (rn l) (l.drop (rk l))).2.1 := by unfold ll; rw [if_pos h]
  rw [e]
  refine ⟨listE_of _ (by omega) k2, ?_⟩
  unfold list
  rw [k1, k3, (num_read l h1).2.1, List.take_append_drop]
theorem list_inj {a b : List (List UInt8)} (ha : listE a = 0) (hb : listE b = 0) (h : list a = list b) : a = b := by
  rw [← (list_back a ha).2, ← (list_back b hb).2, h]
theorem lead_more (l : List UInt8) : ∀ (k : Nat) (h : k < l.length), k ≤ lead l → 128 ≤ l[k].toNat → k + 1 ≤ lead l := by
  induction l with
  | nil => intro k h; simp at h
  | cons d l ih =>
    intro k h hk hc
    cases k with
    | zero => simp at hc; simp [lead, hc]
    | succ k =>
      rw [lead] at hk ⊢
      split at hk
      · rename_i hd
        rw [if_pos hd]
        have := ih k (by simpa using h) (by omega) (by simpa using hc)
        omega
      · omega
theorem lead_end (l : List UInt8) : ∀ (k : Nat) (h : k < l.length), k ≤ lead l → l[k].toNat < 128 → lead l = k := by
  induction l with
  | nil => intro k h; simp at h
  | cons d l ih =>
    intro k h hk hc
    cases k with
    | zero => simp at hc; simp [lead, hc]
    | succ k =>
      rw [lead] at hk ⊢
      split at hk
      · rename_i hd
        rw [if_pos hd]
        have := ih k (by simpa using h) (by omega) (by simpa using hc)
        omega
      · omega
theorem last_end (l : List UInt8) (k : Nat) (h : k < l.length) (e : lead l = k) : last l = l[k].toNat := by
  unfold last; rw [e]; simp [List.getD, List.getElem?_eq_getElem h]
theorem val_snoc (l : List UInt8) (k : Nat) (h : k < l.length) : val (l.take (k + 1)) = val (l.take k) + 128 ^ k * (l[k].toNat % 128) := by
  rw [List.take_succ_eq_append_getElem h, val_append, List.length_take, Nat.min_eq_left (by omega)]
  simp [val]
theorem val_front_lt (l : List UInt8) (k : Nat) : val (l.take k) < 128 ^ k := by
  refine Nat.lt_of_lt_of_le (val_lt _) (Nat.pow_le_pow_right (by omega) ?_)
  simp; omega
/-- The number's reading ends at a byte below 128. -/
theorem re_end (l : List UInt8) (k : Nat) (h : k < l.length) (e : lead l = k) (h9 : k ≤ 9) : re l = if (l[k].toNat = 0 ∧ 0 < k) ∨ (k = 9 ∧ 1 < l[k].toNat) then 4 else 0 := by
  unfold re; rw [last_end l k h e, e, if_neg (by omega), if_neg (by omega)]
theorem re_short (l : List UInt8) (h : l.length < 10) (e : l.length ≤ lead l) : re l = 3 := by
  have := lead_le l
  unfold re; rw [if_neg (by omega), if_pos (by omega)]
theorem re_long (l : List UInt8) (e : 10 ≤ lead l) : re l = 4 := by
  unfold re; rw [if_pos e]
theorem rn_bad (l : List UInt8) (h : re l ≠ 0) : rn l = 0 := by unfold rn; rw [if_neg h]
theorem rk_bad (l : List UInt8) (h : re l ≠ 0) : rk l = 0 := by unfold rk; rw [if_neg h]
theorem rn_end (l : List UInt8) (k : Nat) (e : lead l = k) (h : re l = 0) : rn l = val (l.take (k + 1)) ∧ rk l = k + 1 := by
  unfold rn rk; rw [if_pos h, if_pos h, e]; exact ⟨rfl, rfl⟩
theorem re_lt (l : List UInt8) : re l < 5 := by
  unfold re
  repeat' split
  all_goals omega
theorem rk_le (l : List UInt8) : rk l ≤ l.length ∧ rk l ≤ 10 := by
  by_cases h : re l = 0
  · obtain ⟨f, c, g, e, h2, h9, h1⟩ := shape_of_re l h
    obtain ⟨r1, r2, r3⟩ := re_of_shape f c g h2 h9 h1
    rw [← e] at r3
    refine ⟨(num_read l h).1, by omega⟩
  · rw [rk_bad l h]; omega
theorem rn_lt (l : List UInt8) : rn l < 18446744073709551616 := by
  by_cases h : re l = 0
  · exact (num_read l h).2.2.1
  · rw [rn_bad l h]; omega
theorem pow_seven (k : Nat) : (2 : Nat) ^ (7 * k) = 128 ^ k := by rw [Nat.pow_mul]
/-- The next group of bits, beside those that stand below it. -/
theorem or_next (x c k : Nat) (hk : k ≤ 9) (hx : x < 128 ^ k) (hc : k = 9 → c ≤ 1) : x ||| (c % 128 * 2 ^ (7 * k)) % 18446744073709551616 = x + 128 ^ k * (c % 128) := by
  rw [pow_seven]
  have h9 : (128 : Nat) ^ 9 = 9223372036854775808 := by decide
  have h8 : (128 : Nat) ^ 8 = 72057594037927936 := by decide
  have hb : c % 128 * 128 ^ k < 18446744073709551616 := by
    by_cases e : k = 9
    · subst e
      have := hc rfl
      have : c % 128 ≤ 1 := by omega
      have := Nat.mul_le_mul_right (128 ^ 9) this
      omega
    · have h1 : 128 ^ k ≤ 128 ^ 8 := Nat.pow_le_pow_right (by omega) (by omega)
      have := Nat.mul_le_mul (show c % 128 ≤ 127 by omega) h1
      omega
  rw [Nat.mod_eq_of_lt hb, Nat.mul_comm, Nat.or_comm, ← pow_seven, ← Nat.two_pow_add_eq_or_of_lt (by rw [pow_seven]; exact hx)]
  omega
theorem or_lt (x y : Nat) (hx : x < 18446744073709551616) : x ||| y % 18446744073709551616 < 18446744073709551616 := Nat.or_lt_two_pow (n := 64) hx (by omega)
theorem val_down (l : List UInt8) (k m : Nat) (hm : m ≤ k) (hk : k < l.length) : val ((l.take (k + 1)).drop m) = l[m].toNat % 128 + 128 * val ((l.take (k + 1)).drop (m + 1)) := by
  rw [List.drop_eq_getElem_cons (by simp; omega), val]
  simp
theorem down_lt (l : List UInt8) (k m : Nat) (e : lead l = k) (h : re l = 0) : val ((l.take (k + 1)).drop m) < 18446744073709551616 := by
  have h1 := rn_lt l
  rw [(rn_end l k e h).1] at h1
  have := val_drop_le (l.take (k + 1)) m
  omega
end Pack
