/-
  The plain mathematics of frames as this seat's walks use it, over lists of bytes: what keeps a frame from being written, a frame's bytes, what the front of a stream shows, and what comes of a stream. No program is spoken of.
-/
import Derived.Test.YtnheaafepejaoaaCrc
namespace Go.Proofs.Ytnheaafepejaoaa.Frm
open Crc

/-- A frame. -/
structure Fr where
  kind : Int
  who : Int
  body : ByteArray
/-- What keeps it from being written. -/
def chk (f : Fr) : Nat := if f.kind < 1 ∨ 9 < f.kind ∨ f.who < 0 ∨ 255 < f.who then 1 else if 1024 < f.body.size then 2 else 0
/-- Its first four bytes. -/
def head (f : Fr) : List UInt8 := [UInt8.ofNat f.kind.toNat, UInt8.ofNat f.who.toNat, UInt8.ofNat f.body.size, UInt8.ofNat (f.body.size / 256)]
/-- All but the sum. -/
def front (f : Fr) : List UInt8 := head f ++ f.body.data.toList
/-- The sum's bytes. -/
def tail (l : List UInt8) : List UInt8 := le 4 (more 0 l)
def wire (f : Fr) : List UInt8 := front f ++ tail (front f)

theorem tail_length (l : List UInt8) : (tail l).length = 4 := rfl
theorem front_length (f : Fr) : (front f).length = 4 + f.body.size := by
  simp [front, head]; omega
theorem wire_length (f : Fr) : (wire f).length = 8 + f.body.size := by
  rw [wire, List.length_append, tail_length, front_length]; omega

/-- How long the front's body is. -/
def bl (l : List UInt8) : Nat := (l.getD 2 0).toNat + 256 * (l.getD 3 0).toNat
/-- What is wrong with the front of a stream. -/
def lkE (l : List UInt8) : Nat :=
  if 0 < l.length ∧ ((l.getD 0 0).toNat < 1 ∨ 9 < (l.getD 0 0).toNat) then 1
  else if l.length < 4 then 0
  else if 1024 < bl l then 2
  else if l.length < 8 + bl l then 0
  else if tail (l.take (4 + bl l)) = (l.drop (4 + bl l)).take 4 then 0 else 5
/-- How many bytes the whole frame at the front has; 0: there is none. -/
def lkN (l : List UInt8) : Nat := if lkE l = 0 ∧ 4 ≤ l.length ∧ 8 + bl l ≤ l.length then 8 + bl l else 0
/-- The first byte, if there is one, is a kind. -/
def okk (l : List UInt8) : Prop := 0 < l.length → 1 ≤ (l.getD 0 0).toNat ∧ (l.getD 0 0).toNat ≤ 9
theorem lk_kind (l : List UInt8) (h : ¬ okk l) : lkE l = 1 ∧ lkN l = 0 := by
  have h2 : 0 < l.length ∧ ((l.getD 0 0).toNat < 1 ∨ 9 < (l.getD 0 0).toNat) := by
    refine ⟨Nat.lt_of_not_le fun h3 => h fun h4 => by omega, ?_⟩
    rcases Nat.lt_or_ge (l.getD 0 0).toNat 1 with h3 | h3
    · exact Or.inl h3
    · rcases Nat.lt_or_ge 9 (l.getD 0 0).toNat with h4 | h4
      · exact Or.inr h4
      · exact absurd (fun _ => ⟨h3, h4⟩) h
  have e : lkE l = 1 := by unfold lkE; exact if_pos h2
  exact ⟨e, by unfold lkN; exact if_neg (by omega)⟩
theorem okk_not (l : List UInt8) (h : okk l) : ¬ (0 < l.length ∧ ((l.getD 0 0).toNat < 1 ∨ 9 < (l.getD 0 0).toNat)) := fun x => by have := h x.1; omega
theorem lk_few (l : List UInt8) (hk : okk l) (h : l.length < 4) : lkE l = 0 ∧ lkN l = 0 := by
  have e : lkE l = 0 := by unfold lkE; exact (if_neg (okk_not l hk)).trans (if_pos h)
  exact ⟨e, by unfold lkN; exact if_neg (by omega)⟩
theorem lk_large (l : List UInt8) (hk : okk l) (h4 : 4 ≤ l.length) (h : 1024 < bl l) : lkE l = 2 ∧ lkN l = 0 := by
  have e : lkE l = 2 := by unfold lkE; exact (if_neg (okk_not l hk)).trans ((if_neg (by omega)).trans (if_pos h))
  exact ⟨e, by unfold lkN; exact if_neg (by omega)⟩
theorem lk_short (l : List UInt8) (hk : okk l) (h4 : 4 ≤ l.length) (h : bl l ≤ 1024) (h5 : l.length < 8 + bl l) : lkE l = 0 ∧ lkN l = 0 := by
  have e : lkE l = 0 := by unfold lkE; exact (if_neg (okk_not l hk)).trans ((if_neg (by omega)).trans ((if_neg (by omega)).trans (if_pos h5)))
  exact ⟨e, by unfold lkN; exact if_neg (by omega)⟩
theorem lk_sum (l : List UInt8) (hk : okk l) (h4 : 4 ≤ l.length) (h : bl l ≤ 1024) (h5 : 8 + bl l ≤ l.length) (h6 : tail (l.take (4 + bl l)) ≠ (l.drop (4 + bl l)).take 4) : lkE l = 5 ∧ lkN l = 0 := by
  have e : lkE l = 5 := by unfold lkE; exact (if_neg (okk_not l hk)).trans ((if_neg (by omega)).trans ((if_neg (by omega)).trans ((if_neg (by omega)).trans (if_neg h6))))
  exact ⟨e, by unfold lkN; exact if_neg (by omega)⟩
theorem lk_whole (l : List UInt8) (hk : okk l) (h4 : 4 ≤ l.length) (h : bl l ≤ 1024) (h5 : 8 + bl l ≤ l.length) (h6 : tail (l.take (4 + bl l)) = (l.drop (4 + bl l)).take 4) : lkE l = 0 ∧ lkN l = 8 + bl l := by
  have e : lkE l = 0 := by unfold lkE; exact (if_neg (okk_not l hk)).trans ((if_neg (by omega)).trans ((if_neg (by omega)).trans ((if_neg (by omega)).trans (if_pos h6))))
  exact ⟨e, by unfold lkN; exact if_pos ⟨e, h4, h5⟩⟩
/-- The frame that some bytes are. -/
def rd (l : List UInt8) : Fr := ⟨((l.getD 0 0).toNat : Int), ((l.getD 1 0).toNat : Int), ⟨((l.drop 4).take (l.length - 8)).toArray⟩⟩

theorem lkN_le (l : List UInt8) : lkN l ≤ l.length := by unfold lkN; split <;> omega
theorem lkN_cases (l : List UInt8) : lkN l = 0 ∨ (lkN l = 8 + bl l ∧ 8 + bl l ≤ l.length ∧ lkE l = 0 ∧ bl l ≤ 1024) := by
  by_cases hk : okk l
  · by_cases h4 : 4 ≤ l.length
    · by_cases h : bl l ≤ 1024
      · by_cases h5 : 8 + bl l ≤ l.length
        · by_cases h6 : tail (l.take (4 + bl l)) = (l.drop (4 + bl l)).take 4
          · have := lk_whole l hk h4 h h5 h6; exact Or.inr ⟨this.2, h5, this.1, h⟩
          · exact Or.inl (lk_sum l hk h4 h h5 h6).2
        · exact Or.inl (lk_short l hk h4 h (by omega)).2
      · exact Or.inl (lk_large l hk h4 (by omega)).2
    · exact Or.inl (lk_few l hk (by omega)).2
  · exact Or.inl (lk_kind l hk).2
theorem lkE_lt (l : List UInt8) : lkE l ≤ 5 := by unfold lkE; split <;> (try split) <;> (try split) <;> (try split) <;> (try split) <;> omega

/-- What comes of a stream: the frames, what is left, what went wrong. -/
def fd : Nat → List UInt8 → List Fr × List UInt8 × Nat
  | 0, l => ([], l, 0)
  | n + 1, l => if lkE l ≠ 0 then ([], [], lkE l) else if lkN l = 0 then ([], l, 0) else (rd (l.take (lkN l)) :: (fd n (l.drop (lkN l))).1, (fd n (l.drop (lkN l))).2)
def ff (l : List UInt8) : List Fr × List UInt8 × Nat := fd (l.length + 1) l

theorem fd_more : ∀ (n m : Nat) (l : List UInt8), l.length < n → l.length < m → fd n l = fd m l
  | 0, _, _, h, _ => by omega
  | _ + 1, 0, _, _, h => by omega
  | n + 1, m + 1, l, h1, h2 => by
    rw [fd, fd]
    by_cases h3 : lkE l ≠ 0
    · rw [if_pos h3, if_pos h3]
    · rw [if_neg h3, if_neg h3]
      by_cases h4 : lkN l = 0
      · rw [if_pos h4, if_pos h4]
      · have hl := lkN_le l
        rw [if_neg h4, if_neg h4, fd_more n m (l.drop (lkN l)) (by rw [List.length_drop]; omega) (by rw [List.length_drop]; omega)]
theorem ff_bad (l : List UInt8) (h : lkE l ≠ 0) : ff l = ([], [], lkE l) := by rw [ff, fd, if_pos h]
theorem ff_wait (l : List UInt8) (h : lkE l = 0) (h2 : lkN l = 0) : ff l = ([], l, 0) := by rw [ff, fd, if_neg (by omega), if_pos h2]
theorem ff_one (l : List UInt8) (h2 : lkN l ≠ 0) : ff l = (rd (l.take (lkN l)) :: (ff (l.drop (lkN l))).1, (ff (l.drop (lkN l))).2) := by
  have h : lkE l = 0 := by rcases lkN_cases l with h | h; omega; exact h.2.2.1
  have hl := lkN_le l
  rw [ff, fd, if_neg (by omega), if_neg h2, ff, fd_more l.length ((l.drop (lkN l)).length + 1) _ (by rw [List.length_drop]; omega) (by omega)]

/-- What was told already, ahead of what comes of the rest. -/
def ahead (acc : List Fr) (x : List Fr × List UInt8 × Nat) : List Fr × List UInt8 × Nat := (acc ++ x.1, x.2)
theorem ahead_nil (x : List Fr × List UInt8 × Nat) : ahead [] x = x := rfl
theorem ahead_one (acc : List Fr) (l : List UInt8) (h : lkN l ≠ 0) : ahead acc (ff l) = ahead (acc ++ [rd (l.take (lkN l))]) (ff (l.drop (lkN l))) := by
  rw [ff_one l h]; simp [ahead]
theorem ahead_bad (acc : List Fr) (l : List UInt8) (h : lkE l ≠ 0) : ahead acc (ff l) = (acc, [], lkE l) := by rw [ff_bad l h]; simp [ahead]
theorem ahead_wait (acc : List Fr) (l : List UInt8) (h : lkE l = 0) (h2 : lkN l = 0) : ahead acc (ff l) = (acc, l, 0) := by rw [ff_wait l h h2]; simp [ahead]

/-- However it is cut. -/
theorem getD_front (a b : List UInt8) (i : Nat) (h : i < a.length) : (a ++ b).getD i 0 = a.getD i 0 := by
  simp [List.getD, List.getElem?_append_left h]
theorem bl_front (a b : List UInt8) (h : 4 ≤ a.length) : bl (a ++ b) = bl a := by
  unfold bl; rw [getD_front a b 2 (by omega), getD_front a b 3 (by omega)]
theorem take_front (a b : List UInt8) (n : Nat) (h : n ≤ a.length) : (a ++ b).take n = a.take n := List.take_append_of_le_length h
theorem drop_front (a b : List UInt8) (n : Nat) (h : n ≤ a.length) : (a ++ b).drop n = a.drop n ++ b := List.drop_append_of_le_length h
theorem piece_front (a b : List UInt8) (n m : Nat) (h : n + m ≤ a.length) : ((a ++ b).drop n).take m = (a.drop n).take m := by
  rw [drop_front a b n (by omega), take_front _ b m (by rw [List.length_drop]; omega)]
theorem okk_front (a b : List UInt8) (h0 : 0 < a.length) : okk (a ++ b) ↔ okk a := by
  unfold okk
  rw [getD_front a b 0 h0, List.length_append]
  exact ⟨fun h _ => h (by omega), fun h _ => h h0⟩
theorem lk_front (a b : List UInt8) (h : lkE a ≠ 0 ∨ lkN a ≠ 0) : lkE (a ++ b) = lkE a ∧ lkN (a ++ b) = lkN a := by
  have hl : (a ++ b).length = a.length + b.length := List.length_append
  have hn : ∀ (h3 : lkE a = 0 ∧ lkN a = 0), False := fun h3 => by omega
  by_cases h0 : 0 < a.length
  · have ok := okk_front a b h0
    by_cases hk : okk a
    · by_cases h4 : 4 ≤ a.length
      · have hb := bl_front a b h4
        by_cases h3 : bl a ≤ 1024
        · by_cases h5 : 8 + bl a ≤ a.length
          · have e1 := take_front a b (4 + bl a) (by omega)
            have e2 := piece_front a b (4 + bl a) 4 (by omega)
            by_cases h6 : tail (a.take (4 + bl a)) = (a.drop (4 + bl a)).take 4
            · have A := lk_whole a hk h4 h3 h5 h6
              have B := lk_whole (a ++ b) (ok.2 hk) (by omega) (by omega) (by omega) (by rw [hb, e1, e2]; exact h6)
              omega
            · have A := lk_sum a hk h4 h3 h5 h6
              have B := lk_sum (a ++ b) (ok.2 hk) (by omega) (by omega) (by omega) (by rw [hb, e1, e2]; exact h6)
              omega
          · exact absurd (lk_short a hk h4 h3 (by omega)) hn
        · have A := lk_large a hk h4 (by omega)
          have B := lk_large (a ++ b) (ok.2 hk) (by omega) (by omega)
          omega
      · exact absurd (lk_few a hk (by omega)) hn
    · have A := lk_kind a hk
      have B := lk_kind (a ++ b) (fun x => hk (ok.1 x))
      omega
  · exact absurd (lk_few a (fun x => absurd x h0) (by omega)) hn
theorem ff_cut : ∀ (n : Nat) (a b : List UInt8), a.length ≤ n → (ff a).2.2 = 0 → ff (a ++ b) = ahead (ff a).1 (ff ((ff a).2.1 ++ b)) := by
  intro n
  induction n with
  | zero =>
    intro a b h _
    have : a = [] := List.length_eq_zero_iff.1 (by omega)
    subst this
    rw [ff_wait [] (by decide) (by decide)]; rfl
  | succ n ih =>
    intro a b h h0
    by_cases h1 : lkE a = 0
    · by_cases h2 : lkN a = 0
      · rw [ff_wait a h1 h2]; rfl
      · have hl := lkN_le a
        obtain ⟨e1, e2⟩ := lk_front a b (Or.inr h2)
        rw [ff_one a h2] at h0 ⊢
        have h3 := ih (a.drop (lkN a)) b (by rw [List.length_drop]; omega) h0
        rw [ff_one (a ++ b) (by omega), e2, take_front a b _ hl, drop_front a b _ hl, h3]
        rfl
    · exfalso
      rw [ff_bad a h1] at h0
      exact h1 h0
theorem ff_over : ∀ (n : Nat) (a b : List UInt8), a.length ≤ n → (ff a).2.2 ≠ 0 → ff (a ++ b) = ff a := by
  intro n
  induction n with
  | zero =>
    intro a b h h0
    have : a = [] := List.length_eq_zero_iff.1 (by omega)
    subst this
    exact absurd (by rw [ff_wait [] (by decide) (by decide)]) h0
  | succ n ih =>
    intro a b h h0
    by_cases h1 : lkE a = 0
    · by_cases h2 : lkN a = 0
      · rw [ff_wait a h1 h2] at h0; exact absurd rfl h0
      · have hl := lkN_le a
        obtain ⟨e1, e2⟩ := lk_front a b (Or.inr h2)
        have h0' := h0
        rw [ff_one a h2] at h0'
        have h3 := ih (a.drop (lkN a)) b (by rw [List.length_drop]; omega) h0'
        rw [ff_one (a ++ b) (by omega), ff_one a h2, e2, take_front a b _ hl, drop_front a b _ hl, h3]
    · obtain ⟨e1, e2⟩ := lk_front a b (Or.inl h1)
      rw [ff_bad a h1, ff_bad (a ++ b) (by omega), e1]
/-- With an error nothing is left. -/
theorem ff_none : ∀ (n : Nat) (a : List UInt8), a.length ≤ n → (ff a).2.2 ≠ 0 → (ff a).2.1 = [] := by
  intro n
  induction n with
  | zero =>
    intro a h h0
    have : a = [] := List.length_eq_zero_iff.1 (by omega)
    subst this
    exact absurd (by rw [ff_wait [] (by decide) (by decide)]) h0
  | succ n ih =>
    intro a h h0
    by_cases h1 : lkE a = 0
    · by_cases h2 : lkN a = 0
      · rw [ff_wait a h1 h2] at h0; exact absurd rfl h0
      · have hl := lkN_le a
        rw [ff_one a h2] at h0 ⊢
        exact ih (a.drop (lkN a)) (by rw [List.length_drop]; omega) h0
    · rw [ff_bad a h1]
/-- How many frames, and how much is left. -/
theorem ff_size : ∀ (n : Nat) (a : List UInt8), a.length ≤ n → 8 * (ff a).1.length + (ff a).2.1.length ≤ a.length := by
  intro n
  induction n with
  | zero =>
    intro a h
    have : a = [] := List.length_eq_zero_iff.1 (by omega)
    subst this
    rw [ff_wait [] (by decide) (by decide)]; simp
  | succ n ih =>
    intro a h
    by_cases h1 : lkE a = 0
    · by_cases h2 : lkN a = 0
      · rw [ff_wait a h1 h2]; simp
      · have hl := lkN_le a
        have h4 := lkN_cases a
        rw [ff_one a h2]
        have h3 := ih (a.drop (lkN a)) (by rw [List.length_drop]; omega)
        rw [List.length_drop] at h3
        simp only [List.length_cons]
        omega
    · rw [ff_bad a h1]; simp

/-- What is written is told. -/
theorem u8_ofNat (n : Nat) (h : n < 256) : (UInt8.ofNat n).toNat = n := by rw [UInt8.toNat_ofNat']; omega
theorem chk_ok (f : Fr) (h : chk f = 0) : 1 ≤ f.kind ∧ f.kind ≤ 9 ∧ 0 ≤ f.who ∧ f.who ≤ 255 ∧ f.body.size ≤ 1024 := by
  unfold chk at h
  split at h
  · omega
  · split at h <;> omega
theorem bl_wire (f : Fr) (h : chk f = 0) (l : List UInt8) : bl (front f ++ l) = f.body.size := by
  obtain ⟨_, _, _, _, h5⟩ := chk_ok f h
  show (UInt8.ofNat f.body.size).toNat + 256 * (UInt8.ofNat (f.body.size / 256)).toNat = f.body.size
  rw [u8_ofNat _ (show f.body.size / 256 < 256 by omega), UInt8.toNat_ofNat']
  omega
theorem kind_wire (f : Fr) (h : chk f = 0) (l : List UInt8) : ((front f ++ l).getD 0 0).toNat = f.kind.toNat := by
  obtain ⟨h1, h2, _⟩ := chk_ok f h
  show (UInt8.ofNat f.kind.toNat).toNat = _
  exact u8_ofNat _ (by omega)
theorem who_wire (f : Fr) (h : chk f = 0) (l : List UInt8) : ((front f ++ l).getD 1 0).toNat = f.who.toNat := by
  obtain ⟨_, _, h1, h2, _⟩ := chk_ok f h
  show (UInt8.ofNat f.who.toNat).toNat = _
  exact u8_ofNat _ (by omega)
theorem lk_wire (f : Fr) (h : chk f = 0) : lkE (wire f) = 0 ∧ lkN (wire f) = 8 + f.body.size := by
  have hc := chk_ok f h
  have hw := wire_length f
  have hb : bl (wire f) = f.body.size := bl_wire f h _
  have hk : ((wire f).getD 0 0).toNat = f.kind.toNat := kind_wire f h _
  have hf := front_length f
  have := lk_whole (wire f) (fun _ => by omega) (by omega) (by omega) (by omega) (by
    rw [hb]
    unfold wire
    rw [List.take_append_of_le_length (by omega), List.take_of_length_le (by omega), List.drop_append_of_le_length (by omega), List.drop_eq_nil_of_le (by omega), List.nil_append, List.take_of_length_le (by rw [tail_length]; omega)])
  rwa [hb] at this
theorem rd_wire (f : Fr) (h : chk f = 0) : rd (wire f) = f := by
  have hc := chk_ok f h
  have hk : ((wire f).getD 0 0).toNat = f.kind.toNat := kind_wire f h _
  have hw : ((wire f).getD 1 0).toNat = f.who.toNat := who_wire f h _
  have hd : (wire f).drop 4 = f.body.data.toList ++ tail (front f) := by unfold wire front; rfl
  have hl := wire_length f
  unfold rd
  rw [hk, hw, hd, hl, show 8 + f.body.size - 8 = f.body.data.toList.length by simp, List.take_append_of_le_length (by omega), List.take_of_length_le (by omega)]
  obtain ⟨k, w, b⟩ := f
  simp only at hc ⊢
  congr 1 <;> omega
/-- Frames, one behind the other. -/
def wires (fs : List Fr) : List UInt8 := fs.flatMap wire
theorem wires_snoc (fs : List Fr) (f : Fr) : wires (fs ++ [f]) = wires fs ++ wire f := by simp [wires]
theorem ff_wire (f : Fr) (h : chk f = 0) (l : List UInt8) : ff (wire f ++ l) = ahead [f] (ff l) := by
  obtain ⟨e1, e2⟩ := lk_wire f h
  obtain ⟨e3, e4⟩ := lk_front (wire f) l (Or.inr (by omega))
  have hl := wire_length f
  rw [ff_one _ (by omega), e4, e2, take_front _ _ _ (by omega), drop_front _ _ _ (by omega), List.take_of_length_le (by omega), List.drop_eq_nil_of_le (by omega), rd_wire f h]
  rfl
theorem ff_wires : ∀ (fs : List Fr), (∀ f ∈ fs, chk f = 0) → ∀ l, ff (wires fs ++ l) = ahead fs (ff l)
  | [], _, l => rfl
  | f :: fs, h, l => by
    have : wires (f :: fs) ++ l = wire f ++ (wires fs ++ l) := by simp [wires]
    rw [this, ff_wire f (h f (by simp)), ff_wires fs (fun g hg => h g (by simp [hg]))]
    rfl
/-- A frame that is torn waits. -/
theorem ff_torn (f : Fr) (h : chk f = 0) (n : Nat) (hn : n < (wire f).length) : ff ((wire f).take n) = ([], (wire f).take n, 0) := by
  have hc := chk_ok f h
  have hw := wire_length f
  have hl : ((wire f).take n).length = n := by rw [List.length_take]; omega
  have hg : ∀ i, i < n → ((wire f).take n).getD i 0 = (wire f).getD i 0 := fun i hi => by simp [List.getD, List.getElem?_take_of_lt hi]
  have hk : ((wire f).getD 0 0).toNat = f.kind.toNat := kind_wire f h _
  have hb : bl (wire f) = f.body.size := bl_wire f h _
  have hb2 : 4 ≤ n → bl ((wire f).take n) = f.body.size := fun h4 => by rw [← hb]; unfold bl; rw [hg 2 (by omega), hg 3 (by omega)]
  have ok : okk ((wire f).take n) := fun h0 => by rw [hl] at h0; rw [hg 0 h0, hk]; omega
  by_cases h4 : 4 ≤ n
  · have := hb2 h4
    have e := lk_short _ ok (by omega) (by omega) (by omega)
    exact ff_wait _ e.1 e.2
  · have e := lk_few _ ok (by omega)
    exact ff_wait _ e.1 e.2

/-- One byte turned. -/
theorem byte_text (g : UInt8) (m n : Nat) (h0 : g ≠ 0) : crc 0 (List.replicate m 0 ++ [g] ++ List.replicate n 0) ≠ 0 := by
  rw [crc_append, crc_append, crc_zeros]
  have h1 : g.toNat ≠ 0 := fun e => h0 (by apply UInt8.toNat_inj.1; simpa using e)
  refine crc_zeros_ne n ?_ (crc_lt (by omega) _)
  show itb 8 (0 ^^^ g.toNat) ≠ 0
  rw [Nat.zero_xor]
  exact itb_ne h1 (u8_lt32 g) 8
theorem mix_zeros_left : ∀ (a : List UInt8), mix a (List.replicate a.length 0) = a
  | [] => rfl
  | c :: a => by
    show (c ^^^ 0) :: mix a (List.replicate a.length 0) = c :: a
    rw [mix_zeros_left a]; simp
theorem byte_ne (a b : List UInt8) (c g : UInt8) (h0 : g ≠ 0) : more 0 (a ++ c :: b) ≠ more 0 (a ++ (c ^^^ g) :: b) := by
  intro e
  have hm : mix (a ++ c :: b) (List.replicate a.length 0 ++ [g] ++ List.replicate b.length 0) = a ++ (c ^^^ g) :: b := by
    unfold mix
    rw [List.append_assoc, List.zipWith_append (by simp)]
    show mix a (List.replicate a.length 0) ++ (c ^^^ g) :: mix b (List.replicate b.length 0) = _
    rw [mix_zeros_left, mix_zeros_left]
  have hx := crc_mix (a ++ c :: b) (List.replicate a.length 0 ++ [g] ++ List.replicate b.length 0) 4294967295 0 (by simp)
  rw [hm, show (4294967295 ^^^ 0 : Nat) = 4294967295 by decide] at hx
  have e2 : crc 4294967295 (a ++ c :: b) = crc 4294967295 (a ++ (c ^^^ g) :: b) := by
    have := congrArg (4294967295 ^^^ ·) e
    simpa [more, Crc.flip_flip] using this
  rw [← e2] at hx
  apply byte_text g a.length b.length h0
  have := congrArg (crc 4294967295 (a ++ c :: b) ^^^ ·) hx
  simp only [Nat.xor_self, ← Nat.xor_assoc, Nat.zero_xor] at this
  exact this.symm
theorem le4_inj (x y : Nat) (hx : x < 4294967296) (hy : y < 4294967296) (h : le 4 x = le 4 y) : x = y := by
  simp only [le, List.cons.injEq] at h
  obtain ⟨h0, h1, h2, h3, _⟩ := h
  have g : ∀ a b : Nat, UInt8.ofNat a = UInt8.ofNat b → a % 256 = b % 256 := fun a b e => by
    have := congrArg UInt8.toNat e
    rwa [UInt8.toNat_ofNat', UInt8.toNat_ofNat'] at this
  have := g _ _ h0
  have := g _ _ h1
  have := g _ _ h2
  have := g _ _ h3
  omega
theorem tail_ne (a b : List UInt8) (c g : UInt8) (h0 : g ≠ 0) : tail (a ++ c :: b) ≠ tail (a ++ (c ^^^ g) :: b) :=
  fun e => byte_ne a b c g h0 (le4_inj _ _ (more_lt (by omega) _) (more_lt (by omega) _) e)
theorem xor_ne (c g : UInt8) (h0 : g ≠ 0) : c ^^^ g ≠ c := by
  intro e
  have := congrArg (c ^^^ ·) e
  simp only [← UInt8.xor_assoc, UInt8.xor_self, UInt8.zero_xor] at this
  exact h0 this
/-- A frame with one byte turned behind its first four. -/
theorem ff_turned (f : Fr) (h : chk f = 0) (p : Nat) (g : UInt8) (h0 : g ≠ 0) (hp4 : 4 ≤ p) (hp : p < (wire f).length) :
    ff ((wire f).set p ((wire f).getD p 0 ^^^ g)) = ([], [], 5) := by
  have hc := chk_ok f h
  have hw := wire_length f
  have hf := front_length f
  have hb : bl (wire f) = f.body.size := bl_wire f h _
  have hk : ((wire f).getD 0 0).toNat = f.kind.toNat := kind_wire f h _
  generalize hv : (wire f).getD p 0 ^^^ g = v
  have hl : ((wire f).set p v).length = 8 + f.body.size := by rw [List.length_set, hw]
  have hg : ∀ i, i < 4 → ((wire f).set p v).getD i 0 = (wire f).getD i 0 := fun i hi => by
    simp only [List.getD]
    rw [List.getElem?_set_ne (by omega)]
  have hb2 : bl ((wire f).set p v) = f.body.size := by rw [← hb]; unfold bl; rw [hg 2 (by omega), hg 3 (by omega)]
  have hwr : wire f = front f ++ tail (front f) := rfl
  have e : lkE ((wire f).set p v) = 5 := by
    refine (lk_sum _ (fun _ => by rw [hg 0 (by omega), hk]; omega) (by omega) (by omega) (by omega) ?_).1
    rw [hb2]
    by_cases hlt : p < 4 + f.body.size
    · have e1 : (wire f).set p v = (front f).set p v ++ tail (front f) := by rw [hwr, List.set_append_left _ _ (by omega)]
      have e2 : ((front f).set p v).length = 4 + f.body.size := by rw [List.length_set, hf]
      rw [e1, take_front _ _ _ (by omega), List.take_of_length_le (by omega), drop_front _ _ _ (by omega), List.drop_eq_nil_of_le (by omega), List.nil_append, List.take_of_length_le (by rw [tail_length]; omega)]
      have e3 : (wire f).getD p 0 = (front f)[p]'(by omega) := by
        simp only [List.getD, hwr]
        rw [List.getElem?_append_left (by omega), List.getElem?_eq_getElem (by omega)]; rfl
      rw [e3] at hv
      have e4 : (front f).set p v = (front f).take p ++ v :: (front f).drop (p + 1) := List.set_eq_take_append_cons_drop.trans (if_pos (by omega))
      have e5 : front f = (front f).take p ++ (front f)[p]'(by omega) :: (front f).drop (p + 1) := by
        rw [List.getElem_cons_drop (by omega), List.take_append_drop]
      rw [e4, ← hv]
      intro e6
      have e7 := tail_ne ((front f).take p) ((front f).drop (p + 1)) ((front f)[p]'(by omega)) g h0
      rw [← e5] at e7
      exact e7 e6.symm
    · have e1 : (wire f).set p v = front f ++ (tail (front f)).set (p - (front f).length) v := by rw [hwr, List.set_append_right _ _ (by omega)]
      rw [e1, take_front _ _ _ (by omega), List.take_of_length_le (by omega), drop_front _ _ _ (by omega), List.drop_eq_nil_of_le (by omega), List.nil_append, List.take_of_length_le (by rw [List.length_set, tail_length]; omega)]
      intro e6
      have hq : p - (front f).length < (tail (front f)).length := by rw [tail_length]; omega
      have e7 := congrArg (fun l => l.getD (p - (front f).length) 0) e6
      simp only [List.getD] at e7
      rw [List.getElem?_set_self (by omega)] at e7
      have e8 : (wire f).getD p 0 = ((tail (front f))[p - (front f).length]?).getD 0 := by
        simp only [List.getD, hwr]
        rw [List.getElem?_append_right (by omega)]
      rw [e8] at hv
      rw [← hv] at e7
      exact xor_ne _ g h0 e7.symm
  rw [ff_bad _ (by omega), e]
end Go.Proofs.Ytnheaafepejaoaa.Frm
