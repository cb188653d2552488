/-
  The plain mathematics of how a regular expression is written: bytes, classes, trees.
-/
import Derived.Test.YthloedfiomfnbaaTree
namespace Go.Proofs.Ythloedfiomfnbaa.Txt
open Cls Rex

/-! ### A byte -/
def signs : List Nat := [40, 41, 91, 93, 124, 42, 43, 63, 46, 94, 45, 92]
def digits : List UInt8 := [48, 49, 50, 51, 52, 53, 54, 55, 56, 57, 97, 98, 99, 100, 101, 102]
def hex (n : Nat) : UInt8 := digits.getD n 0
def charT (b : Nat) : List UInt8 :=
  if b = 10 then [92, 110] else if b = 9 then [92, 116] else if b = 32 then [92, 115] else if b < 33 ∨ 126 < b then [92, 120, hex (b / 16), hex (b % 16)] else if signs.contains b then [92, b.toUInt8] else [b.toUInt8]
theorem charT_length (b : Nat) : (charT b).length ≤ 4 := by
  unfold charT
  repeat' split
  all_goals simp

/-! ### A class's runs -/
/-- The last one of a run that goes on from k. -/
def runEnd (p : Nat → Bool) : Nat → Nat → Nat
  | 0, k => k
  | f + 1, k => if p (k + 1) = true then runEnd p f (k + 1) else k
def lastOf (p : Nat → Bool) (b : Nat) : Nat := runEnd p (255 - b) b
theorem runEnd_le (p : Nat → Bool) : ∀ f k, k ≤ runEnd p f k ∧ runEnd p f k ≤ k + f
  | 0, k => by simp [runEnd]
  | f + 1, k => by
    unfold runEnd
    split
    · have := runEnd_le p f (k + 1); omega
    · omega
theorem runEnd_in (p : Nat → Bool) : ∀ f k j, k < j → j ≤ runEnd p f k → p j = true
  | 0, k, j, h1, h2 => by unfold runEnd at h2; omega
  | f + 1, k, j, h1, h2 => by
    unfold runEnd at h2
    split at h2
    · by_cases e : j = k + 1
      · subst e; assumption
      · exact runEnd_in p f (k + 1) j (by omega) h2
    · omega
theorem runEnd_stop (p : Nat → Bool) : ∀ f k, runEnd p f k < k + f → p (runEnd p f k + 1) = false
  | 0, k, h => by unfold runEnd at h; omega
  | f + 1, k, h => by
    unfold runEnd at h ⊢
    split
    · rename_i hp
      rw [if_pos hp] at h
      exact runEnd_stop p f (k + 1) (by omega)
    · rename_i hp
      simpa using hp
theorem lastOf_le (p : Nat → Bool) (b : Nat) (hb : b < 256) : b ≤ lastOf p b ∧ lastOf p b ≤ 255 := by
  have := runEnd_le p (255 - b) b; unfold lastOf; omega
theorem lastOf_in (p : Nat → Bool) (b j : Nat) (h1 : b < j) (h2 : j ≤ lastOf p b) : p j = true := runEnd_in p _ b j h1 h2
theorem lastOf_stop (p : Nat → Bool) (b : Nat) (hb : b < 256) (h : lastOf p b < 255) : p (lastOf p b + 1) = false := runEnd_stop p _ b (by unfold lastOf at h; omega)
/-- If all up to k go on, and the next one does not. -/
theorem lastOf_eq (p : Nat → Bool) (b k : Nat) (hb : b ≤ k) (hk : k ≤ 255) (h1 : ∀ j, b < j → j ≤ k → p j = true) (h2 : k < 255 → p (k + 1) = false) : lastOf p b = k := by
  have hle := lastOf_le p b (by omega)
  rcases Nat.lt_trichotomy (lastOf p b) k with h | h | h
  · have := lastOf_stop p b (by omega) (by omega)
    rw [h1 _ (by omega) (by omega)] at this; cases this
  · exact h
  · have := lastOf_in p b (k + 1) (by omega) (by omega)
    rw [h2 (by omega)] at this; cases this
def runText (b last : Nat) : List UInt8 := charT b ++ (if b + 1 < last then [45] else []) ++ (if b < last then charT last else [])
theorem runText_length (b last : Nat) : (runText b last).length ≤ 9 := by
  unfold runText
  have h1 := charT_length b
  have h2 := charT_length last
  simp only [List.length_append]
  split <;> split <;> simp <;> omega
def startB (p : Nat → Bool) (b : Nat) : Bool := p b && !(decide (0 < b) && p (b - 1))
def runsTo (p : Nat → Bool) : Nat → List UInt8
  | 0 => []
  | k + 1 => runsTo p k ++ (if startB p k = true then runText k (lastOf p k) else [])
def runsT (p : Nat → Bool) : List UInt8 := runsTo p 256
theorem runsTo_length (p : Nat → Bool) : ∀ k, (runsTo p k).length ≤ 9 * k
  | 0 => by simp [runsTo]
  | k + 1 => by
    have := runsTo_length p k
    have := runText_length k (lastOf p k)
    unfold runsTo
    rw [List.length_append]
    split
    · omega
    · simp; omega
/-- Where none is. -/
theorem runsTo_none (p : Nat → Bool) (k : Nat) : ∀ n, (∀ j, k ≤ j → j < k + n → startB p j = false) → runsTo p (k + n) = runsTo p k
  | 0, _ => rfl
  | n + 1, h => by
    show runsTo p (k + n) ++ (if startB p (k + n) = true then runText (k + n) (lastOf p (k + n)) else []) = _
    rw [runsTo_none p k n (fun j h1 h2 => h j h1 (by omega)), if_neg (by rw [h (k + n) (by omega) (by omega)]; simp)]
    simp
/-- One run on: from k, where none or the first is, to behind the run that begins at a. -/
theorem runsTo_run (p : Nat → Bool) (k a : Nat) (hk : k = 0 ∨ p k = false) (hka : k ≤ a) (ha : a < 256) (hp : p a = true) (hn : ∀ j, k ≤ j → j < a → p j = false) :
    runsTo p (lastOf p a + 1) = runsTo p k ++ runText a (lastOf p a) := by
  have hle := lastOf_le p a ha
  have h1 : runsTo p a = runsTo p k := by
    have := runsTo_none p k (a - k) (fun j h1 h2 => by unfold startB; rw [hn j h1 (by omega)]; rfl)
    rwa [show k + (a - k) = a by omega] at this
  have h2 : startB p a = true := by
    unfold startB
    rw [hp]
    by_cases h0 : 0 < a
    · have : p (a - 1) = false := by
        by_cases e : k = a
        · rcases hk with h | h
          · omega
          · rw [e, hp] at h; cases h
        · exact hn (a - 1) (by omega) (by omega)
      rw [this]; simp
    · rw [decide_eq_false h0]; simp
  have h3 : runsTo p (a + 1) = runsTo p k ++ runText a (lastOf p a) := by
    show runsTo p a ++ _ = _
    rw [h1, if_pos h2]
  have h4 := runsTo_none p (a + 1) (lastOf p a - a) (fun j g1 g2 => by
    unfold startB
    have : p (j - 1) = true := by
      by_cases e : j - 1 = a
      · rw [e]; exact hp
      · exact lastOf_in p a (j - 1) (by omega) (by omega)
    rw [this, decide_eq_true (show 0 < j by omega)]; simp)
  rw [show a + 1 + (lastOf p a - a) = lastOf p a + 1 by omega] at h4
  rw [h4, h3]

/-! ### What is left of a class's bytes -/
def bytesFrom (c : Cl) (k : Nat) : List UInt8 := ((List.range' k (256 - k)).filter (mem c)).map Nat.toUInt8
theorem bytesFrom_zero (c : Cl) : bytesFrom c 0 = bytes c := by
  unfold bytesFrom bytes bytesTo
  rw [List.range_eq_range']
theorem bytesFrom_end (c : Cl) : bytesFrom c 256 = [] := by simp [bytesFrom]
theorem bytesFrom_step (c : Cl) (k : Nat) (hk : k < 256) : bytesFrom c k = (if mem c k = true then [k.toUInt8] else []) ++ bytesFrom c (k + 1) := by
  unfold bytesFrom
  rw [show 256 - k = (256 - (k + 1)) + 1 by omega, List.range'_succ]
  by_cases h : mem c k = true
  · simp [h]
  · simp [h]
theorem bytesFrom_skip (c : Cl) (k : Nat) : ∀ n, k + n ≤ 256 → (∀ j, k ≤ j → j < k + n → mem c j = false) → bytesFrom c k = bytesFrom c (k + n)
  | 0, _, _ => rfl
  | n + 1, hn, h => by
    rw [bytesFrom_skip c k n (by omega) (fun j h1 h2 => h j h1 (by omega)), bytesFrom_step c (k + n) (by omega), if_neg (by rw [h (k + n) (by omega) (by omega)]; simp)]
    rfl
theorem bytesFrom_all (c : Cl) (k : Nat) : ∀ n, k + n ≤ 256 → (∀ j, k ≤ j → j < k + n → mem c j = true) → bytesFrom c k = (List.range' k n).map Nat.toUInt8 ++ bytesFrom c (k + n)
  | 0, _, _ => by simp
  | n + 1, hn, h => by
    rw [bytesFrom_all c k n (by omega) (fun j h1 h2 => h j h1 (by omega)), bytesFrom_step c (k + n) (by omega), if_pos (h (k + n) (by omega) (by omega)), List.range'_1_concat, List.map_append]
    simp [Nat.add_assoc]
/-- The first byte that is left, and its run. -/
theorem bytesFrom_run (c : Cl) (k : Nat) (hk : k ≤ 256) (h : bytesFrom c k ≠ []) : ∃ a, k ≤ a ∧ a < 256 ∧ mem c a = true ∧ (∀ j, k ≤ j → j < a → mem c j = false) ∧ bytesFrom c k = (List.range' a (lastOf (mem c) a + 1 - a)).map Nat.toUInt8 ++ bytesFrom c (lastOf (mem c) a + 1) := by
  by_cases hall : ∀ j, k ≤ j → j < 256 → mem c j = false
  · rw [bytesFrom_skip c k (256 - k) (by omega) (fun j h1 h2 => hall j h1 (by omega)), show k + (256 - k) = 256 by omega, bytesFrom_end] at h
    exact absurd rfl h
  · have : ∃ n, k + n < 256 ∧ mem c (k + n) = true := by
      refine Classical.byContradiction fun hc => hall fun j h1 h2 => ?_
      cases e : mem c j with
      | false => rfl
      | true => exact absurd ⟨j - k, by omega, by rw [show k + (j - k) = j by omega]; exact e⟩ hc
    obtain ⟨n, hn, hmin⟩ : ∃ n, (k + n < 256 ∧ mem c (k + n) = true) ∧ ∀ m, m < n → ¬ (k + m < 256 ∧ mem c (k + m) = true) := by
      obtain ⟨n, hn⟩ := this
      induction n using Nat.strongRecOn with
      | ind n ih =>
        by_cases hm : ∃ m, m < n ∧ (k + m < 256 ∧ mem c (k + m) = true)
        · obtain ⟨m, h1, h2⟩ := hm; exact ih m h1 h2
        · exact ⟨n, hn, fun m h1 h2 => hm ⟨m, h1, h2⟩⟩
    have hle := lastOf_le (mem c) (k + n) hn.1
    have hno : ∀ j, k ≤ j → j < k + n → mem c j = false := fun j h1 h2 => by
      cases e : mem c j with
      | false => rfl
      | true => exact absurd ⟨by omega, by rw [show k + (j - k) = j by omega]; exact e⟩ (hmin (j - k) (by omega))
    refine ⟨k + n, by omega, hn.1, hn.2, hno, ?_⟩
    rw [bytesFrom_skip c k n (by omega) hno]
    have := bytesFrom_all c (k + n) (lastOf (mem c) (k + n) + 1 - (k + n)) (by omega) (fun j h1 h2 => by
      by_cases e : j = k + n
      · rw [e]; exact hn.2
      · exact lastOf_in (mem c) (k + n) j (by omega) (by omega))
    rwa [show k + n + (lastOf (mem c) (k + n) + 1 - (k + n)) = lastOf (mem c) (k + n) + 1 by omega] at this

/-! ### A class -/
def dot : Cl := neg (range 10 10)
def classT (c : Cl) : List UInt8 := if count c = 1 then runsT (mem c) else if c = dot then [46] else if count c ≤ 128 then [91] ++ runsT (mem c) ++ [93] else [91, 94] ++ runsT (mem (neg c)) ++ [93]
theorem runsT_length (p : Nat → Bool) : (runsT p).length ≤ 2304 := runsTo_length p 256
theorem classT_length (c : Cl) : (classT c).length ≤ 2310 := by
  have h1 := runsT_length (mem c)
  have h2 := runsT_length (mem (neg c))
  unfold classT
  repeat' split
  all_goals simp
  all_goals omega

/-! ### A tree -/
def kindOf : E → Int
  | .none => 1 | .emp => 2 | .byte _ => 3 | .cat _ _ => 4 | .alt _ _ => 5 | .star _ => 6
def inBr (ks : List Int) (k : Int) (l : List UInt8) : List UInt8 := if ks.contains k = true then [40] ++ l ++ [41] else l
def text : E → List UInt8
  | .none => [91, 93]
  | .emp => [40, 41]
  | .byte c => classT c
  | .star a => inBr [4, 5, 6] (kindOf a) (text a) ++ [42]
  | .cat a b => inBr [5] (kindOf a) (text a) ++ inBr [5, 4] (kindOf b) (text b)
  | .alt a b => text a ++ [124] ++ inBr [5] (kindOf b) (text b)
theorem inBr_length (ks : List Int) (k : Int) (l : List UInt8) : (inBr ks k l).length ≤ l.length + 2 := by
  unfold inBr; split <;> simp
theorem text_length : ∀ x : E, (text x).length ≤ 2320 * x.nodes
  | .none => by simp [text, E.nodes]
  | .emp => by simp [text, E.nodes]
  | .byte c => by have := classT_length c; simp only [text, E.nodes]; omega
  | .star a => by
    have := text_length a
    have := inBr_length [4, 5, 6] (kindOf a) (text a)
    simp only [text, E.nodes, List.length_append, List.length_singleton]; omega
  | .cat a b => by
    have := text_length a
    have := text_length b
    have := inBr_length [5] (kindOf a) (text a)
    have := inBr_length [5, 4] (kindOf b) (text b)
    simp only [text, E.nodes, List.length_append]; omega
  | .alt a b => by
    have := text_length a
    have := text_length b
    have := inBr_length [5] (kindOf b) (text b)
    simp only [text, E.nodes, List.length_append, List.length_singleton]; omega
end Go.Proofs.Ythloedfiomfnbaa.Txt
