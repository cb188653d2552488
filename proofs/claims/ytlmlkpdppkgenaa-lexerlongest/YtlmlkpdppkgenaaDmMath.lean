/-
  The subset construction, plainly: sets of places as four words, the states in the order in which they are come to, where each byte leads, the tags; and that its Tag of a text is the least rule that is done behind it (RABIN, SCOTT).
-/
import Derived.Test.YtlmlkpdppkgenaaPo
namespace Go.Proofs.Ytlmlkpdppkgenaa.Dm
open Cls Po

/-! ### Sets -/
def stOf (l : List Int) : Cl := l.foldl (fun c x => setb c x.toNat) empty
theorem mem_fold : ∀ (l : List Int) (c : Cl), (∀ x ∈ l, 0 ≤ x ∧ x < 256) → ∀ y, y < 256 → mem (l.foldl (fun c x => setb c x.toNat) c) y = (mem c y || l.contains (y : Int))
  | [], c, _, y, _ => by simp
  | x :: l, c, h, y, hy => by
    have hx := h x (by simp)
    rw [List.foldl_cons, mem_fold l _ (fun z hz => h z (by simp [hz])) y hy, mem_setb _ _ _ (by omega) hy, List.contains_cons, Bool.or_assoc]
    congr 2
    rw [Bool.eq_iff_iff]; simp; omega
theorem mem_stOf {l : List Int} (h : ∀ x ∈ l, 0 ≤ x ∧ x < 256) {y : Nat} (hy : y < 256) : mem (stOf l) y = l.contains (y : Int) := by
  unfold stOf; rw [mem_fold l _ h y hy, mem_empty]; simp
theorem stOf_take (l : List Int) (k : Nat) (hk : k < l.length) : stOf (l.take (k + 1)) = setb (stOf (l.take k)) l[k].toNat := by
  unfold stOf; rw [List.take_succ_eq_append_getElem hk, List.foldl_append]; rfl
/-- The places whose class has the byte. -/
def hvL (p : P) (b k : Nat) : List Int := sel k fun x => hasAt p b (x : Int)
def hv (p : P) (b : Nat) : Cl := stOf (hvL p b p.cls.length)
theorem hasAt_lt {p : P} {b x : Nat} (h : hasAt p b (x : Int) = true) : x < p.cls.length := by
  unfold hasAt at h
  rw [show ((x : Int)).toNat = x by omega] at h
  rcases Nat.lt_or_ge x p.cls.length with g | g
  · exact g
  · rw [List.getElem?_eq_none g] at h; cases h
theorem sel_in (n : Nat) (A : Nat → Bool) (hn : n ≤ 256) : ∀ x ∈ sel n A, 0 ≤ x ∧ x < 256 := by
  intro x hx
  obtain ⟨y, h1, -, rfl⟩ := (sel_mem _ _ _).1 hx
  omega
theorem sel_has (n : Nat) (A : Nat → Bool) (y : Nat) : (sel n A).contains (y : Int) = (decide (y < n) && A y) := by
  rw [Bool.eq_iff_iff, List.contains_iff_mem, sel_mem]
  simp only [Bool.and_eq_true, decide_eq_true_eq]
  constructor
  · rintro ⟨z, h1, h2, h3⟩
    obtain rfl : y = z := by omega
    exact ⟨h1, h2⟩
  · rintro ⟨h1, h2⟩; exact ⟨y, h1, h2, rfl⟩
theorem mem_hv {p : P} (hn : p.cls.length ≤ 200) (b : Nat) {y : Nat} (hy : y < 256) : mem (hv p b) y = hasAt p b (y : Int) := by
  unfold hv hvL
  rw [mem_stOf (sel_in _ _ (by omega)) hy, sel_has]
  cases h : hasAt p b (y : Int)
  · simp
  · simp [hasAt_lt h]
/-- The places that may come behind one of these. -/
def bhTo (fs : List Cl) (c : Cl) : Nat → Cl
  | 0 => empty
  | k + 1 => if mem c k then join (bhTo fs c k) (fs.getD k empty) else bhTo fs c k
def flS (p : P) : List Cl := p.follow.map stOf
def bh (p : P) (c : Cl) : Cl := bhTo (flS p) c p.follow.length
theorem mem_bhTo (fs : List Cl) (c : Cl) (y : Nat) : ∀ k, mem (bhTo fs c k) y = (List.range k).any fun x => mem c x && mem (fs.getD x empty) y
  | 0 => by simp [bhTo, mem_empty]
  | k + 1 => by
    rw [List.range_succ, List.any_append, ← mem_bhTo fs c y k, bhTo]
    split
    · rename_i h; rw [mem_join]; simp [h]
    · rename_i h; simp [h]
theorem fol_in {p : P} (h : p.follow.all (rises p.cls.length) = true) (hn : p.cls.length ≤ 200) {l : List Int} (hl : l ∈ p.follow) : ∀ x ∈ l, 0 ≤ x ∧ x < 256 := by
  rw [List.all_eq_true] at h
  intro x hx
  have := ((risesFrom_iff _ _ _).1 (h l hl)).1 x hx
  omega
theorem first_in {p : P} (h : rises p.cls.length p.first = true) (hn : p.cls.length ≤ 200) : ∀ x ∈ p.first, 0 ≤ x ∧ x < 256 := by
  intro x hx
  have := ((risesFrom_iff _ _ _).1 h).1 x hx
  omega
theorem mem_bh {p : P} (h : p.follow.all (rises p.cls.length) = true) (hn : p.cls.length ≤ 200) (c : Cl) {y : Nat} (hy : y < 256) : mem (bh p c) y = true ↔ ∃ x, x < p.follow.length ∧ mem c x = true ∧ (p.follow.getD x []).contains (y : Int) = true := by
  unfold bh
  rw [mem_bhTo, List.any_eq_true]
  constructor
  · rintro ⟨x, hx, h2⟩
    rw [List.mem_range] at hx
    rw [Bool.and_eq_true] at h2
    refine ⟨x, hx, h2.1, ?_⟩
    have e := h2.2
    unfold flS at e
    rw [List.getD_eq_getElem?_getD, List.getElem?_map, List.getElem?_eq_getElem hx] at e
    rw [List.getD_eq_getElem?_getD, List.getElem?_eq_getElem hx]
    show p.follow[x].contains (y : Int) = true
    rw [← mem_stOf (fol_in h hn (List.getElem_mem hx)) hy]; exact e
  · rintro ⟨x, hx, h1, h2⟩
    refine ⟨x, List.mem_range.2 hx, ?_⟩
    rw [h1, Bool.true_and]
    unfold flS
    rw [List.getD_eq_getElem?_getD, List.getElem?_map, List.getElem?_eq_getElem hx]
    rw [List.getD_eq_getElem?_getD, List.getElem?_eq_getElem hx] at h2
    show mem (stOf p.follow[x]) y = true
    rw [mem_stOf (fol_in h hn (List.getElem_mem hx)) hy]; exact h2

/-! ### States -/
def add (S : List Cl) (c : Cl) : List Cl := if c = empty then S else if c ∈ S.tail then S else S ++ [c]
def num (S : List Cl) (c : Cl) : Int := if c = empty then -1 else (S.tail.idxOf c : Int) + 1
def grow (H : Nat → Cl) (S : List Cl) (c : Cl) : Nat → List Cl
  | 0 => S
  | k + 1 => add (grow H S c k) (meet c (H k))
def nx (p : P) (S : List Cl) (i : Nat) : Cl := if i = 0 then stOf p.first else bh p (S.getD i empty)
def G (p : P) : Nat → List Cl
  | 0 => [empty]
  | k + 1 => grow (hv p) (G p k) (nx p (G p k) k) 256
theorem add_pre (S : List Cl) (c : Cl) : S <+: add S c := by
  unfold add; split
  · exact List.prefix_refl _
  · split
    · exact List.prefix_refl _
    · exact List.prefix_append _ _
theorem grow_pre (H : Nat → Cl) (S : List Cl) (c : Cl) : ∀ k, S <+: grow H S c k
  | 0 => List.prefix_refl _
  | k + 1 => (grow_pre H S c k).trans (add_pre _ _)
theorem grow_mono (H : Nat → Cl) (S : List Cl) (c : Cl) (j : Nat) : ∀ k, grow H S c j <+: grow H S c (j + k)
  | 0 => List.prefix_refl _
  | k + 1 => (grow_mono H S c j k).trans (add_pre _ _)
theorem add_length (S : List Cl) (c : Cl) : (add S c).length ≤ S.length + 1 := by
  unfold add; split
  · omega
  · split
    · omega
    · simp
theorem grow_length (H : Nat → Cl) (S : List Cl) (c : Cl) : ∀ k, (grow H S c k).length ≤ S.length + k
  | 0 => Nat.le_refl _
  | k + 1 => by have := grow_length H S c k; have := add_length (grow H S c k) (meet c (H k)); show (add _ _).length ≤ _; omega
theorem G_pre (p : P) (j : Nat) : ∀ k, G p j <+: G p (j + k)
  | 0 => List.prefix_refl _
  | k + 1 => (G_pre p j k).trans (grow_pre _ _ _ _)
theorem G_le (p : P) {j k : Nat} (h : j ≤ k) : G p j <+: G p k := by
  obtain ⟨m, rfl⟩ : ∃ m, k = j + m := ⟨k - j, by omega⟩
  exact G_pre p j m
theorem G_pos (p : P) (k : Nat) : 0 < (G p k).length := by
  have := (G_le p (Nat.zero_le k)).length_le
  simp [G] at this; omega
/-- Each state but the first is a set that is not empty, and none comes twice. -/
structure Ok (S : List Cl) : Prop where
  pos : 0 < S.length
  nd : S.tail.Nodup
  ne : ∀ c ∈ S.tail, c ≠ empty
theorem tail_append {S : List Cl} (h : 0 < S.length) (T : List Cl) : (S ++ T).tail = S.tail ++ T := by
  cases S with
  | nil => simp at h
  | cons a l => rfl
theorem Ok.add {S : List Cl} (h : Ok S) (c : Cl) : Ok (add S c) := by
  unfold Dm.add; split
  · exact h
  · rename_i h0
    split
    · exact h
    · rename_i h1
      refine ⟨by simp, ?_, ?_⟩
      · rw [tail_append h.pos, List.nodup_append]
        exact ⟨h.nd, by simp, fun a ha b hb e => by simp at hb; subst hb; subst e; exact h1 ha⟩
      · rw [tail_append h.pos]
        intro d hd
        rcases List.mem_append.1 hd with g | g
        · exact h.ne d g
        · simp at g; subst g; exact h0
theorem Ok.grow {S : List Cl} (h : Ok S) (H : Nat → Cl) (c : Cl) : ∀ k, Ok (grow H S c k)
  | 0 => h
  | k + 1 => (Ok.grow h H c k).add _
theorem add_mem {S : List Cl} (h : 0 < S.length) (c : Cl) : c = empty ∨ c ∈ (add S c).tail := by
  unfold add; split
  · left; assumption
  · right
    split
    · assumption
    · rw [tail_append h]; simp
theorem pre_tail {S T : List Cl} (h : S <+: T) (hS : 0 < S.length) : S.tail <+: T.tail := by
  obtain ⟨U, rfl⟩ := h
  rw [tail_append hS]; exact List.prefix_append _ _
theorem num_pre {S T : List Cl} (h : S <+: T) (hS : 0 < S.length) {c : Cl} (hc : c = empty ∨ c ∈ S.tail) : num T c = num S c := by
  unfold num
  split
  · rfl
  · rename_i h0
    have hm : c ∈ S.tail := hc.resolve_left h0
    obtain ⟨U, hU⟩ := pre_tail h hS
    rw [← hU, List.idxOf_append, if_pos hm]
theorem num_neg {S : List Cl} {c : Cl} : num S c < 0 ↔ c = empty := by
  unfold num; split
  · simp [*]
  · simp [*]; omega
theorem num_lt {S : List Cl} {c : Cl} (hS : 0 < S.length) (hc : c = empty ∨ c ∈ S.tail) : num S c < (S.length : Int) := by
  unfold num; split
  · omega
  · rename_i h0
    have := List.idxOf_lt_length_of_mem (hc.resolve_left h0)
    rw [List.length_tail] at this
    omega
theorem num_ge (S : List Cl) (c : Cl) : -1 ≤ num S c := by unfold num; split <;> omega
theorem num_le (S : List Cl) (c : Cl) : num S c ≤ (S.length : Int) + 1 := by
  unfold num; split
  · omega
  · have := List.idxOf_le_length (a := c) (l := S.tail)
    rw [List.length_tail] at this
    omega
/-- The number leads to the set. -/
theorem num_at {S : List Cl} {c : Cl} (h0 : c ≠ empty) (hc : c ∈ S.tail) : ∃ i, 0 < i ∧ i < S.length ∧ num S c = (i : Int) ∧ S.getD i empty = c := by
  have hl := List.idxOf_lt_length_of_mem hc
  rw [List.length_tail] at hl
  refine ⟨S.tail.idxOf c + 1, by omega, by omega, by unfold num; rw [if_neg h0]; omega, ?_⟩
  cases S with
  | nil => simp at hc
  | cons a l =>
    show (a :: l).getD (l.idxOf c + 1) empty = c
    rw [List.getD_cons_succ, List.getD_eq_getElem?_getD, List.getElem?_eq_getElem (by simp at hl; omega)]
    exact List.getElem_idxOf _
theorem getD_pre {S T : List Cl} (h : S <+: T) {i : Nat} (hi : i < S.length) : T.getD i empty = S.getD i empty := by
  obtain ⟨U, rfl⟩ := h
  rw [List.getD_eq_getElem?_getD, List.getD_eq_getElem?_getD, List.getElem?_append_left hi]
theorem nx_pre (p : P) {S T : List Cl} (h : S <+: T) {i : Nat} (hi : i < S.length) : nx p T i = nx p S i := by
  unfold nx; rw [getD_pre h hi]
theorem grow_mem (H : Nat → Cl) {S : List Cl} (hS : 0 < S.length) (c : Cl) {b k : Nat} (hb : b < k) : meet c (H b) = empty ∨ meet c (H b) ∈ (grow H S c k).tail := by
  obtain ⟨m, rfl⟩ : ∃ m, k = (b + 1) + m := ⟨k - (b + 1), by omega⟩
  have h1 : 0 < (grow H S c b).length := Nat.lt_of_lt_of_le hS (grow_pre H S c b).length_le
  rcases add_mem h1 (meet c (H b)) with h | h
  · exact Or.inl h
  · right
    have h2 : 0 < (grow H S c (b + 1)).length := Nat.lt_of_lt_of_le hS (grow_pre H S c (b + 1)).length_le
    exact (pre_tail (grow_mono H S c (b + 1) m) h2).subset h
/-- Where a byte leads. -/
def rowF (p : P) (S : List Cl) (i b : Nat) : Int := num S (meet (nx p S i) (hv p b))
theorem row_mem (p : P) {i k b : Nat} (hik : i < k) (hi : i < (G p i).length) (hb : b < 256) : meet (nx p (G p k) i) (hv p b) = empty ∨ meet (nx p (G p k) i) (hv p b) ∈ (G p k).tail := by
  rw [nx_pre p (G_le p (Nat.le_of_lt hik)) hi]
  rcases grow_mem (hv p) (G_pos p i) (nx p (G p i) i) hb with h | h
  · exact Or.inl h
  · exact Or.inr ((pre_tail (G_le p (show i + 1 ≤ k by omega)) (G_pos p (i + 1))).subset h)
/-- A row that was laid stays. -/
theorem row_stay (p : P) {i k b : Nat} (hik : i < k) (hi : i < (G p i).length) (hb : b < 256) : rowF p (G p k) i b = num (G p (i + 1)) (meet (nx p (G p i) i) (hv p b)) := by
  unfold rowF
  rw [nx_pre p (G_le p (Nat.le_of_lt hik)) hi]
  exact num_pre (G_le p (show i + 1 ≤ k by omega)) (G_pos p (i + 1)) (grow_mem (hv p) (G_pos p i) _ hb)
/-- So far all went well. -/
structure Far (p : P) (k : Nat) : Prop where
  pos : 0 < k
  le : ∀ j, j < k → j < (G p j).length ∧ (0 < j → (G p j).length ≤ 200)
theorem Far.len {p : P} {k : Nat} (h : Far p k) : (G p k).length ≤ 456 := by
  obtain ⟨j, rfl⟩ : ∃ j, k = j + 1 := ⟨k - 1, by have := h.pos; omega⟩
  have h1 := grow_length (hv p) (G p j) (nx p (G p j) j) 256
  have h2 : (G p j).length ≤ 200 := by
    by_cases e : j = 0
    · subst e; simp [G]
    · exact (h.le j (by omega)).2 (by omega)
  show (grow _ _ _ _).length ≤ _
  omega
theorem Far.le200 {p : P} {k : Nat} (h : Far p k) : k ≤ 201 := by
  obtain ⟨j, rfl⟩ : ∃ j, k = j + 1 := ⟨k - 1, by have := h.pos; omega⟩
  by_cases e : j = 0
  · omega
  · have := h.le j (by omega)
    have := this.2 (by omega)
    omega
theorem far_one (p : P) : Far p 1 := ⟨by omega, fun j hj => by
    obtain rfl : j = 0 := by omega
    exact ⟨G_pos p 0, fun h => by omega⟩⟩
theorem Far.le_len {p : P} {k : Nat} (h : Far p k) : k ≤ (G p k).length := by
  obtain ⟨j, rfl⟩ : ∃ j, k = j + 1 := ⟨k - 1, by have := h.pos; omega⟩
  have := (h.le j (by omega)).1
  have := (G_le p (show j ≤ j + 1 by omega)).length_le
  omega
theorem Far.next {p : P} {k : Nat} (h : Far p k) (h1 : k < (G p k).length) (h2 : (G p k).length ≤ 200) : Far p (k + 1) :=
  ⟨by omega, fun j hj => by
    by_cases e : j = k
    · subst e; exact ⟨h1, fun _ => h2⟩
    · exact h.le j (by omega)⟩
/-- It ends there: too many states, or all rows are laid. -/
def End (p : P) (k : Nat) : Prop := Far p k ∧ (200 < (G p k).length ∨ (G p k).length = k)
theorem end_one {p : P} {k m : Nat} (h : End p k) (g : End p m) : k = m := by
  rcases Nat.lt_trichotomy k m with e | e | e
  · have := g.1.le k e
    have := this.2 h.1.pos
    rcases h.2 with h | h <;> omega
  · exact e
  · have := h.1.le m e
    have := this.2 g.1.pos
    rcases g.2 with h | h <;> omega
/-! ### Tags -/
def firstR (n : Nat) (A : Nat → Bool) : Int := match (List.range n).find? A with | some i => (i : Int) | none => -1
theorem firstR_none {n : Nat} {A : Nat → Bool} (h : ∀ i, i < n → A i = false) : firstR n A = -1 := by
  unfold firstR
  rw [List.find?_eq_none.2 fun x hx => by rw [h x (by simpa using hx)]; simp]
theorem firstR_some {n : Nat} {A : Nat → Bool} {i : Nat} (hi : i < n) (h : A i = true) (hl : ∀ j, j < i → A j = false) : firstR n A = (i : Int) := by
  unfold firstR
  have : (List.range n).find? A = some i := by
    rw [List.find?_range_eq_some]
    exact ⟨h, by simpa using hi, fun j hj => by simp [hl j hj]⟩
  rw [this]
theorem firstR_cases (n : Nat) (A : Nat → Bool) : (firstR n A = -1 ∧ ∀ i, i < n → A i = false) ∨ ∃ i, i < n ∧ A i = true ∧ (∀ j, j < i → A j = false) ∧ firstR n A = (i : Int) := by
  by_cases h : ∃ i, i < n ∧ A i = true
  · right
    obtain ⟨i, h1, h2⟩ := h
    induction i using Nat.strongRecOn with
    | _ i ih =>
      by_cases g : ∃ j, j < i ∧ A j = true
      · obtain ⟨j, g1, g2⟩ := g
        exact ih j g1 (by omega) g2
      · have hl : ∀ j, j < i → A j = false := fun j hj => by
          cases e : A j
          · rfl
          · exact absurd ⟨j, hj, e⟩ g
        exact ⟨i, h1, h2, hl, firstR_some h1 h2 hl⟩
  · left
    have hl : ∀ i, i < n → A i = false := fun j hj => by
      cases e : A j
      · rfl
      · exact absurd ⟨j, hj, e⟩ h
    exact ⟨firstR_none hl, hl⟩
theorem firstR_congr {n : Nat} {A B : Nat → Bool} (h : ∀ i, i < n → A i = B i) : firstR n A = firstR n B := by
  rcases firstR_cases n A with ⟨e, h1⟩ | ⟨i, h1, h2, h3, e⟩
  · rw [e, firstR_none fun i hi => by rw [← h i hi]; exact h1 i hi]
  · rw [e, firstR_some h1 (by rw [← h i h1]; exact h2) fun j hj => by rw [← h j (by omega)]; exact h3 j hj]
/-- Is the rule done at one of these places? -/
def dn (p : P) (c : Cl) (i : Nat) : Bool := (List.range p.cls.length).any fun x => p.last.getD x false && mem c x && decide (p.rules.getD x 0 = (i : Int))
def tgF (p : P) (c : Cl) : Int := firstR p.empty.length (dn p c)
def tag0 (p : P) : Int := firstR p.empty.length fun i => p.empty.getD i false
def tagF (p : P) (S : List Cl) (i : Nat) : Int := if i = 0 then tag0 p else tgF p (S.getD i empty)
/-- The least rule among the first k places: what tagOf goes by. -/
def LT (p : P) (c : Cl) (k : Nat) (t : Int) : Prop :=
  (t = -1 ∧ ∀ x, x < k → p.last.getD x false = true → mem c x = true → False) ∨ (0 ≤ t ∧ (∃ x, x < k ∧ p.last.getD x false = true ∧ mem c x = true ∧ p.rules.getD x 0 = t) ∧ ∀ x, x < k → p.last.getD x false = true → mem c x = true → t ≤ p.rules.getD x 0)
theorem rule_at {p : P} (h : ok p = true) {x : Nat} (hx : x < p.cls.length) : 0 ≤ p.rules.getD x 0 ∧ p.rules.getD x 0 < (p.empty.length : Int) := by
  obtain ⟨h1, -, -, -, -, h2, -⟩ := (ok_iff p).1 h
  rw [List.all_eq_true] at h2
  have hl : x < p.rules.length := by omega
  have := h2 p.rules[x] (List.getElem_mem hl)
  rw [List.getD_eq_getElem?_getD, List.getElem?_eq_getElem hl]
  simpa [ruleOk] using this
theorem LT.tag {p : P} (h : ok p = true) {c : Cl} {t : Int} (hl : LT p c p.cls.length t) : t = tgF p c := by
  unfold tgF
  rcases hl with ⟨rfl, h1⟩ | ⟨h0, ⟨x, hx, h1, h2, h3⟩, h4⟩
  · rw [firstR_none]
    intro i _
    cases e : dn p c i
    · rfl
    · unfold dn at e
      rw [List.any_eq_true] at e
      obtain ⟨x, hx, e⟩ := e
      simp only [Bool.and_eq_true, decide_eq_true_eq] at e
      exact (h1 x (by simpa using hx) e.1.1 e.1.2).elim
  · have hr := rule_at h hx
    rw [firstR_some (i := t.toNat)]
    · omega
    · rw [← h3]; omega
    · unfold dn
      rw [List.any_eq_true]
      exact ⟨x, by simpa using hx, by rw [h1, h2, h3]; simp; omega⟩
    · intro j hj
      cases e : dn p c j
      · rfl
      · unfold dn at e
        rw [List.any_eq_true] at e
        obtain ⟨y, hy, e⟩ := e
        simp only [Bool.and_eq_true, decide_eq_true_eq] at e
        have := h4 y (by simpa using hy) e.1.1 e.1.2
        omega
theorem LT.start (p : P) (c : Cl) : LT p c 0 (-1) := Or.inl ⟨rfl, fun x hx => by omega⟩
theorem LT.skip {p : P} {c : Cl} {k : Nat} {t : Int} (h : LT p c k t) (hk : (p.last.getD k false && mem c k && (decide (t = -1) || decide (p.rules.getD k 0 < t))) = false) : LT p c (k + 1) t := by
  rcases h with ⟨rfl, h1⟩ | ⟨h0, ⟨x, hx, h1⟩, h4⟩
  · left
    refine ⟨rfl, fun x hx a b => ?_⟩
    by_cases e : x = k
    · subst e; rw [a, b] at hk; simp at hk
    · exact h1 x (by omega) a b
  · right
    refine ⟨h0, ⟨x, by omega, h1⟩, fun y hy a b => ?_⟩
    by_cases e : y = k
    · subst e
      simp only [a, b, Bool.true_and, Bool.or_eq_false_iff, decide_eq_false_iff_not] at hk
      omega
    · exact h4 y (by omega) a b
theorem LT.take {p : P} {c : Cl} {k : Nat} {t : Int} (h : LT p c k t) (h0 : 0 ≤ p.rules.getD k 0) (hk : (p.last.getD k false && mem c k && (decide (t = -1) || decide (p.rules.getD k 0 < t))) = true) : LT p c (k + 1) (p.rules.getD k 0) := by
  simp only [Bool.and_eq_true, Bool.or_eq_true, decide_eq_true_eq] at hk
  obtain ⟨⟨a, b⟩, e⟩ := hk
  right
  refine ⟨h0, ⟨k, by omega, a, b, rfl⟩, fun y hy a' b' => ?_⟩
  by_cases e2 : y = k
  · subst e2; omega
  · rcases h with ⟨rfl, h1⟩ | ⟨h0', -, h4⟩
    · exact (h1 y (by omega) a' b').elim
    · have := h4 y (by omega) a' b'
      rcases e with e | e <;> omega
end Go.Proofs.Ytlmlkpdppkgenaa.Dm
