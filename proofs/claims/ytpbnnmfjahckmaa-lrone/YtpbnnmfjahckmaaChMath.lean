/-
  A chart of a word's pieces, plainly: sums of products, from the left and from the right; what one piece's rounds do; what the least table is.
-/
import Derived.Test.YtpbnnmfjahckmaaCtTree
namespace Go.Proofs.Ytpbnnmfjahckmaa
namespace Cg

/-! Sums. -/
theorem sm_zero {n : Nat} {g : Nat → Nat} (h : ∀ i, i < n → g i = 0) : sm n g = 0 := by
  induction n with
  | zero => rfl
  | succ n ih => rw [sm, ih fun i hi => h i (by omega), h n (by omega)]
theorem sm_one {n : Nat} {g : Nat → Nat} {k : Nat} (hk : k < n) (h : ∀ i, i < n → i ≠ k → g i = 0) : sm n g = g k := by
  induction n with
  | zero => omega
  | succ n ih =>
    rw [sm]
    by_cases e : k = n
    · subst e; rw [sm_zero fun i hi => h i (by omega) (by omega), Nat.zero_add]
    · rw [ih (by omega) fun i hi hn => h i (by omega) hn, h n (by omega) (by omega), Nat.add_zero]
theorem sm_mul {n : Nat} {g : Nat → Nat} (c : Nat) : sm n g * c = sm n fun i => g i * c := by
  induction n with
  | zero => simp [sm]
  | succ n ih => rw [sm, sm, Nat.add_mul, ih]
theorem mul_sm {n : Nat} {g : Nat → Nat} (c : Nat) : c * sm n g = sm n fun i => c * g i := by
  induction n with
  | zero => simp [sm]
  | succ n ih => rw [sm, sm, Nat.mul_add, ih]
theorem sm_add {n : Nat} {g h : Nat → Nat} : sm n (fun i => g i + h i) = sm n g + sm n h := by
  induction n with
  | zero => rfl
  | succ n ih => rw [sm, sm, sm, ih]; omega
theorem sm_comm {n m : Nat} {g : Nat → Nat → Nat} : sm n (fun i => sm m fun j => g i j) = sm m fun j => sm n fun i => g i j := by
  induction n with
  | zero => rw [sm, sm_zero fun j _ => by rfl]
  | succ n ih => rw [sm, ih, ← sm_add]; exact sm_congr fun j _ => by rw [sm]
theorem sm_pos {n : Nat} {g : Nat → Nat} : 1 ≤ sm n g ↔ ∃ i, i < n ∧ 1 ≤ g i := by
  induction n with
  | zero => simp [sm]
  | succ n ih =>
    rw [sm]
    constructor
    · intro h
      by_cases e : 1 ≤ sm n g
      · obtain ⟨i, hi, h⟩ := ih.1 e; exact ⟨i, by omega, h⟩
      · exact ⟨n, by omega, by omega⟩
    · rintro ⟨i, hi, h⟩
      by_cases e : i = n
      · subst e; omega
      · have := ih.2 ⟨i, by omega, h⟩; omega
theorem sm_mono2 {n : Nat} {g g' : Nat → Nat} (h : ∀ i, i < n → g i ≤ g' i) : sm n g ≤ sm n g' := by
  induction n with
  | zero => exact Nat.le_refl _
  | succ n ih => rw [sm, sm]; have := ih fun i hi => h i (by omega); have := h n (by omega); omega
/-- Two at most, of a product: it is no matter when it is cut. -/
theorem min_mul (x y : Nat) : min 2 (min 2 x * y) = min 2 (x * y) := by
  rcases Nat.lt_or_ge x 3 with h | h
  · rw [show min 2 x = x by omega]
  · rw [show min 2 x = 2 by omega]
    rcases Nat.eq_zero_or_pos y with e | e
    · subst e; simp
    · have h1 : 2 * 1 ≤ 2 * y := Nat.mul_le_mul_left 2 e
      have h2 : 2 * y ≤ x * y := Nat.mul_le_mul_right y (by omega)
      omega
/-! Products of rows of symbols: M s i j: how many of s there are from i to j. -/
def mr (K : Nat) (M : Sy → Nat → Nat → Nat) : List Sy → Nat → Nat → Nat
  | [], i, j => if i = j then 1 else 0
  | s :: l, i, j => sm K fun m => M s i m * mr K M l m j
theorem mr_snoc {K : Nat} {M : Sy → Nat → Nat → Nat} (s : Sy) : ∀ (l : List Sy) {i j : Nat}, i < K → j < K → mr K M (l ++ [s]) i j = sm K fun c => mr K M l i c * M s c j
  | [], i, j, hi, hj => by
    rw [List.nil_append, mr, sm_one hj (fun m _ hn => by rw [mr, if_neg hn, Nat.mul_zero]), sm_one hi (fun m _ hn => by rw [mr, if_neg (fun e => hn e.symm), Nat.zero_mul]), mr, if_pos rfl, mr, if_pos rfl]
    omega
  | t :: l, i, j, hi, hj => by
    rw [List.cons_append, mr]
    rw [sm_congr (g' := fun m => sm K fun c => M t i m * mr K M l m c * M s c j) fun m hm => by
      rw [mr_snoc s l hm hj, mul_sm]; exact sm_congr fun c _ => by rw [Nat.mul_assoc]]
    rw [sm_comm]
    exact sm_congr fun c _ => by rw [mr, sm_mul]
/-- Nothing leads back. -/
def Tri (M : Sy → Nat → Nat → Nat) : Prop := ∀ s i j, j < i → M s i j = 0
theorem mr_tri {K : Nat} {M : Sy → Nat → Nat → Nat} (h : Tri M) : ∀ (l : List Sy) {i j : Nat}, j < i → mr K M l i j = 0
  | [], i, j, hij => by rw [mr, if_neg (by omega)]
  | s :: l, i, j, hij => by
    rw [mr]
    refine sm_zero fun m hm => ?_
    by_cases e : m < i
    · rw [h s i m e, Nat.zero_mul]
    · rw [mr_tri h l (by omega), Nat.mul_zero]
theorem mr_congr {K : Nat} {M M' : Sy → Nat → Nat → Nat} (h : Tri M) (h' : Tri M') : ∀ (l : List Sy) {i j : Nat}, (∀ s a b, i ≤ a → a ≤ b → b ≤ j → s ∈ l → M s a b = M' s a b) → mr K M l i j = mr K M' l i j
  | [], i, j, _ => by rw [mr, mr]
  | s :: l, i, j, he => by
    rw [mr, mr]
    refine sm_congr fun m hm => ?_
    by_cases e : m < i
    · rw [h s i m e, h' s i m e, Nat.zero_mul, Nat.zero_mul]
    · by_cases e2 : j < m
      · rw [mr_tri h l e2, mr_tri h' l e2, Nat.mul_zero, Nat.mul_zero]
      · rw [he s i m (by omega) (by omega) (by omega) (by simp), mr_congr h h' l fun u a b ha hab hb hu => he u a b (by omega) hab hb (by simp [hu])]
theorem mr_mono {K : Nat} {M M' : Sy → Nat → Nat → Nat} (h : Tri M) : ∀ (l : List Sy) {i j : Nat}, (∀ s a b, i ≤ a → a ≤ b → b ≤ j → M s a b ≤ M' s a b) → mr K M l i j ≤ mr K M' l i j
  | [], i, j, _ => by rw [mr, mr]; exact Nat.le_refl _
  | s :: l, i, j, he => by
    rw [mr, mr]
    refine sm_mono2 fun m hm => ?_
    by_cases e : m < i
    · rw [h s i m e, Nat.zero_mul]; exact Nat.zero_le _
    · by_cases e2 : j < m
      · rw [mr_tri h l e2, Nat.mul_zero]; exact Nat.zero_le _
      · exact Nat.mul_le_mul (he s i m (by omega) (by omega) (by omega)) (mr_mono h l fun u a b ha hab hb => he u a b (by omega) hab hb)
/-! Tables. -/
abbrev TbN := Int → Nat → Nat → Nat
/-- Of one symbol: L: where a terminal stands. -/
def on1 (L : Int → Nat → Nat → Bool) (f : TbN) (s : Sy) (i j : Nat) : Nat := if s.1 = 2 then f s.2 i j else if L s.2 i j then 1 else 0
/-- What the rule says of a nonterminal. -/
def stm (ps : List Pd) (K : Nat) (M : Sy → Nat → Nat → Nat) (a : Int) (i j : Nat) : Nat := min 2 (sm ps.length fun q => if (ps.getD q (0, [])).1 = a then mr K M (ps.getD q (0, [])).2 i j else 0)
/-- Terminals lead on. -/
def TrL (L : Int → Nat → Nat → Bool) : Prop := ∀ a i j, j < i → L a i j = false
theorem on1_tri {L : Int → Nat → Nat → Bool} {f : TbN} (hL : TrL L) (hf : ∀ a i j, j < i → f a i j = 0) : Tri (on1 L f) := fun s i j h => by
  unfold on1
  split
  · exact hf _ _ _ h
  · rw [hL _ _ _ h, if_neg (by simp)]
theorem stm_mono {L : Int → Nat → Nat → Bool} {ps : List Pd} {K : Nat} {f g : TbN} (hL : TrL L) (hf : ∀ a i j, j < i → f a i j = 0) {a : Int} {i j : Nat} (h : ∀ b x y, i ≤ x → x ≤ y → y ≤ j → f b x y ≤ g b x y) : stm ps K (on1 L f) a i j ≤ stm ps K (on1 L g) a i j := by
  unfold stm
  have := sm_mono2 (n := ps.length) (g := fun q => if (ps.getD q (0, [])).1 = a then mr K (on1 L f) (ps.getD q (0, [])).2 i j else 0) (g' := fun q => if (ps.getD q (0, [])).1 = a then mr K (on1 L g) (ps.getD q (0, [])).2 i j else 0) fun q _ => by
    split
    · refine mr_mono (on1_tri hL hf) _ fun s x y hx hy hj => ?_
      unfold on1
      split
      · exact h _ _ _ hx hy hj
      · exact Nat.le_refl _
    · exact Nat.le_refl _
  omega
theorem stm_congr {L : Int → Nat → Nat → Bool} {ps : List Pd} {K : Nat} {f g : TbN} (hL : TrL L) (hf : ∀ a i j, j < i → f a i j = 0) (hg : ∀ a i j, j < i → g a i j = 0) {a : Int} {i j : Nat} (h : ∀ b x y, i ≤ x → x ≤ y → y ≤ j → f b x y = g b x y) : stm ps K (on1 L f) a i j = stm ps K (on1 L g) a i j :=
  Nat.le_antisymm (stm_mono hL hf fun b x y h1 h2 h3 => Nat.le_of_eq (h b x y h1 h2 h3)) (stm_mono hL hg fun b x y h1 h2 h3 => Nat.le_of_eq (h b x y h1 h2 h3).symm)
theorem stm_le {ps : List Pd} {K : Nat} {M : Sy → Nat → Nat → Nat} {a : Int} {i j : Nat} : stm ps K M a i j ≤ 2 := Nat.min_le_left _ _
/-- The least table that its own rule leaves as it is. -/
structure Lst (L : Int → Nat → Nat → Bool) (ps : List Pd) (K : Nat) (F : TbN) : Prop where
  low : ∀ a i j, j < i ∨ K ≤ j → F a i j = 0
  fix : ∀ a i j, i ≤ j → j < K → F a i j = stm ps K (on1 L F) a i j
  least : ∀ g : TbN, (∀ a i j, j < i → g a i j = 0) → (∀ a i j, i ≤ j → j < K → stm ps K (on1 L g) a i j ≤ g a i j) → ∀ a i j, F a i j ≤ g a i j
/-- Pieces that were done ahead of this one. -/
def Dn2 (i0 j0 i j : Nat) : Prop := i0 < i ∨ (i = i0 ∧ j < j0)
/-- The table at a moment at which the piece from i0 to j0 is worked on. -/
structure At (L : Int → Nat → Nat → Bool) (ps : List Pd) (K : Nat) (i0 j0 : Nat) (N : TbN) : Prop where
  low : ∀ a i j, j < i ∨ K ≤ j → N a i j = 0
  new : ∀ a i j, ¬ Dn2 i0 j0 i j → ¬ (i = i0 ∧ j = j0) → N a i j = 0
  fix : ∀ a i j, Dn2 i0 j0 i j → i ≤ j → j < K → N a i j = stm ps K (on1 L N) a i j
  up : ∀ a, N a i0 j0 ≤ stm ps K (on1 L N) a i0 j0
  least : ∀ g : TbN, (∀ a i j, j < i → g a i j = 0) → (∀ a i j, i ≤ j → j < K → stm ps K (on1 L g) a i j ≤ g a i j) → ∀ a i j, N a i j ≤ g a i j
/-- One round. -/
def rnd (ps : List Pd) (K : Nat) (L : Int → Nat → Nat → Bool) (i0 j0 : Nat) (N : TbN) : TbN := fun a i j => if i = i0 ∧ j = j0 then stm ps K (on1 L N) a i j else N a i j
theorem At.back {L : Int → Nat → Nat → Bool} {ps : List Pd} {K i0 j0 : Nat} {N : TbN} (h : At L ps K i0 j0 N) : ∀ a i j, j < i → N a i j = 0 := fun a i j hij => h.low a i j (Or.inl hij)
theorem At.le_rnd {L : Int → Nat → Nat → Bool} {ps : List Pd} {K i0 j0 : Nat} {N : TbN} (h : At L ps K i0 j0 N) (a : Int) (i j : Nat) : N a i j ≤ rnd ps K L i0 j0 N a i j := by
  unfold rnd
  by_cases e : i = i0 ∧ j = j0
  · rw [if_pos e, e.1, e.2]; exact h.up a
  · rw [if_neg e]; exact Nat.le_refl _
theorem At.rnd {L : Int → Nat → Nat → Bool} {ps : List Pd} {K i0 j0 : Nat} {N : TbN} (hL : TrL L) (h : At L ps K i0 j0 N) (hij : i0 ≤ j0) (hj : j0 < K) : At L ps K i0 j0 (rnd ps K L i0 j0 N) := by
  have hb : ∀ a i j, j < i → Cg.rnd ps K L i0 j0 N a i j = 0 := fun a i j hji => by
    unfold Cg.rnd
    rw [if_neg (by omega)]; exact h.back a i j hji
  refine ⟨fun a i j hh => ?_, fun a i j h1 h2 => ?_, fun a i j h1 h2 h3 => ?_, fun a => ?_, fun g hg1 hg2 a i j => ?_⟩
  · unfold Cg.rnd
    rw [if_neg (by omega)]; exact h.low a i j hh
  · unfold Cg.rnd
    rw [if_neg h2]; exact h.new a i j h1 h2
  · have hne : ¬ (i = i0 ∧ j = j0) := by rcases h1 with h1 | h1 <;> omega
    have e : Cg.rnd ps K L i0 j0 N a i j = N a i j := by unfold Cg.rnd; rw [if_neg hne]
    rw [e, h.fix a i j h1 h2 h3]
    refine stm_congr hL h.back hb fun b x y hx hy hyj => ?_
    unfold Cg.rnd
    rw [if_neg (by rcases h1 with h1 | h1 <;> omega)]
  · have e : Cg.rnd ps K L i0 j0 N a i0 j0 = stm ps K (on1 L N) a i0 j0 := by unfold Cg.rnd; rw [if_pos ⟨rfl, rfl⟩]
    rw [e]
    exact stm_mono hL h.back fun b x y _ _ _ => h.le_rnd b x y
  · unfold Cg.rnd
    by_cases e : i = i0 ∧ j = j0
    · rw [if_pos e]
      rw [e.1, e.2]
      exact Nat.le_trans (stm_mono hL h.back fun b x y _ _ _ => h.least g hg1 hg2 b x y) (hg2 a i0 j0 hij hj)
    · rw [if_neg e]; exact h.least g hg1 hg2 a i j
/-- A piece is done: the next one. -/
theorem At.next {L : Int → Nat → Nat → Bool} {ps : List Pd} {K i0 j0 : Nat} {N : TbN} (h : At L ps K i0 j0 N) (hf : ∀ a, N a i0 j0 = stm ps K (on1 L N) a i0 j0) : At L ps K i0 (j0 + 1) N := by
  refine ⟨h.low, fun a i j h1 h2 => h.new a i j ?_ ?_, fun a i j h1 h2 h3 => ?_, fun a => ?_, h.least⟩
  · rintro (h3 | h3)
    · exact h1 (Or.inl h3)
    · exact h1 (Or.inr ⟨h3.1, by omega⟩)
  · rintro ⟨rfl, rfl⟩; exact h1 (Or.inr ⟨rfl, by omega⟩)
  · by_cases e : i = i0 ∧ j = j0
    · rw [e.1, e.2]; exact hf a
    · exact h.fix a i j (by rcases h1 with h1 | h1; exact Or.inl h1; exact Or.inr ⟨h1.1, by omega⟩) h2 h3
  · rw [h.new a i0 (j0 + 1) (by unfold Dn2; omega) (by omega)]; exact Nat.zero_le _
/-- A row of pieces is done: the next one. -/
theorem At.row {L : Int → Nat → Nat → Bool} {ps : List Pd} {K i0 : Nat} {N : TbN} (h : At L ps K (i0 + 1) K N) : At L ps K i0 i0 N := by
  refine ⟨h.low, fun a i j h1 h2 => ?_, fun a i j h1 h2 h3 => ?_, fun a => ?_, h.least⟩
  · by_cases e : j < i ∨ K ≤ j
    · exact h.low a i j e
    · refine h.new a i j ?_ (by omega)
      rintro (h3 | h3)
      · exact h1 (Or.inl (by omega))
      · exact h1 (Or.inl (by omega))
  · refine h.fix a i j ?_ h2 h3
    rcases h1 with h1 | h1
    · by_cases e : i = i0 + 1
      · exact Or.inr ⟨e, by omega⟩
      · exact Or.inl (by omega)
    · omega
  · by_cases e : K ≤ i0
    · rw [h.low a i0 i0 (Or.inr e)]; exact Nat.zero_le _
    · rw [h.new a i0 i0 (by unfold Dn2; omega) (by omega)]; exact Nat.zero_le _
/-- At the beginning nothing is done. -/
theorem At.start {L : Int → Nat → Nat → Bool} {ps : List Pd} {K : Nat} (n : Nat) (hn : K ≤ n + 1) : At L ps K n n fun _ _ _ => 0 :=
  ⟨fun _ _ _ _ => rfl, fun _ _ _ _ _ => rfl, fun a i j h1 h2 h3 => by unfold Dn2 at h1; omega, fun _ => Nat.zero_le _, fun _ _ _ _ _ _ => Nat.zero_le _⟩
/-- At the end it is the least table. -/
theorem At.done {L : Int → Nat → Nat → Bool} {ps : List Pd} {K : Nat} {N : TbN} (h : At L ps K 0 K N) : Lst L ps K N :=
  ⟨h.low, fun a i j h1 h2 => h.fix a i j (by unfold Dn2; omega) h1 h2, h.least⟩
/-! Where a terminal stands in a word: and, open, behind it, too. -/
def leafC (w : List Int) (a : Int) (i j : Nat) : Bool := decide (j = i + 1 ∧ w[i]? = some a)
def leafO (w : List Int) (a : Int) (i j : Nat) : Bool := decide ((j = i + 1 ∧ w[i]? = some a) ∨ (i = w.length ∧ j = w.length))
theorem leafC_tri (w : List Int) : TrL (leafC w) := fun a i j h => by unfold leafC; simp; omega
theorem leafO_tri (w : List Int) : TrL (leafO w) := fun a i j h => by unfold leafO; simp; omega
/-- A right grammar's symbols are terminals or nonterminals. -/
def Kd (ps : List Pd) : Prop := ∀ p ∈ ps, ∀ s ∈ p.2, s.1 = 1 ∨ s.1 = 2
theorem kd_at {ps : List Pd} (h : Kd ps) {q : Nat} (hq : q < ps.length) : ∀ s ∈ (ps.getD q (0, [])).2, s.1 = 1 ∨ s.1 = 2 := by
  have e : ps.getD q (0, []) = ps[q] := by rw [List.getD_eq_getElem?_getD, List.getElem?_eq_getElem hq]; rfl
  rw [e]
  exact h _ (List.getElem_mem hq)
/-- The rule of trees, from the right, is that of products. -/
theorem row1_mr {w : List Int} {f : TbN} (hf : ∀ a i j, j < i → f a i j = 0) {M : Sy → Nat → Nat → Nat} (hM : Tri M) : ∀ (l : List Sy), (∀ s ∈ l, ∀ i j, M s i j = one1 f w s i j) → ∀ {i j : Nat}, j < w.length + 1 → row1 f w l i j = min 2 (mr (w.length + 1) M l i j)
  | [], _, i, j, hj => by
    rw [row1, mr]
    by_cases e : i = j
    · rw [if_pos ⟨e, by omega⟩, if_pos e]; rfl
    · rw [if_neg (fun h => e h.1), if_neg e]; rfl
  | s :: l, hs, i, j, hj => by
    rw [row1, mr]
    have h1 : sm (w.length + 1) (fun m => M s i m * mr (w.length + 1) M l m j) = sm (j + 1) fun m => M s i m * mr (w.length + 1) M l m j := by
      have key : ∀ n, sm (j + 1 + n) (fun m => M s i m * mr (w.length + 1) M l m j) = sm (j + 1) fun m => M s i m * mr (w.length + 1) M l m j := by
        intro n
        induction n with
        | zero => rfl
        | succ n ih => rw [← Nat.add_assoc, sm, ih, mr_tri hM l (by omega), Nat.mul_zero, Nat.add_zero]
      have := key (w.length + 1 - (j + 1))
      rwa [show j + 1 + (w.length + 1 - (j + 1)) = w.length + 1 by omega] at this
    rw [h1, ← min_sm, ← min_sm (g := fun m => M s i m * mr (w.length + 1) M l m j)]
    congr 1
    refine sm_congr fun m hm => ?_
    rw [row1_mr hf hM l (fun u hu => hs u (by simp [hu])) hj, hs s (by simp)]
    rw [show min 2 (min 2 (one1 f w s i m * min 2 (mr (w.length + 1) M l m j))) = min 2 (min 2 (mr (w.length + 1) M l m j) * one1 f w s i m) by rw [Nat.mul_comm]; omega, min_mul, Nat.mul_comm]
theorem on1_one1 {w : List Int} {f : TbN} {s : Sy} (h : s.1 = 1 ∨ s.1 = 2) (i j : Nat) : on1 (leafC w) f s i j = one1 f w s i j := by
  unfold on1 one1 leafC
  rcases h with h | h
  · rw [if_neg (by omega), if_pos h]; simp
  · rw [if_pos h, if_neg (by omega)]
theorem stp_stm {ps : List Pd} (hk : Kd ps) {w : List Int} {f : TbN} (hf : ∀ a i j, j < i → f a i j = 0) {a : Int} {i j : Nat} (hj : j < w.length + 1) : stp ps w f a i j = stm ps (w.length + 1) (on1 (leafC w) f) a i j := by
  unfold stp stm
  rw [← min_sm, ← min_sm (g := fun q => if (ps.getD q (0, [])).1 = a then mr (w.length + 1) (on1 (leafC w) f) (ps.getD q (0, [])).2 i j else 0)]
  congr 1
  refine sm_congr fun q hq => ?_
  split
  · rw [row1_mr hf (on1_tri (leafC_tri w) hf) _ (fun s hs i j => on1_one1 (kd_at hk hq s hs) i j) hj]; omega
  · rfl
theorem row1_out {w : List Int} {f : TbN} (hf : ∀ a i j, j < i ∨ w.length < j → f a i j = 0) : ∀ (l : List Sy) {i j : Nat}, j < i ∨ w.length < j → row1 f w l i j = 0
  | [], i, j, h => by rw [row1, if_neg (by omega)]
  | s :: l, i, j, h => by
    rw [row1, sm_zero fun m hm => ?_]
    · rfl
    · by_cases e : m < i
      · have : one1 f w s i m = 0 := by
          unfold one1
          split
          · rw [if_neg (by omega)]
          · exact hf _ _ _ (Or.inl e)
        rw [this, Nat.zero_mul]; rfl
      · rw [row1_out hf l (by omega), Nat.mul_zero]; rfl
theorem stp_out {ps : List Pd} {w : List Int} {f : TbN} (hf : ∀ a i j, j < i ∨ w.length < j → f a i j = 0) {a : Int} {i j : Nat} (h : j < i ∨ w.length < j) : stp ps w f a i j = 0 := by
  unfold stp
  rw [sm_zero fun q hq => by split; exact row1_out hf _ h; rfl]
  rfl
theorem cnt_out {ps : List Pd} {w : List Int} {a : Int} {i j : Nat} (h : j < i ∨ w.length < j) : cnt ps w a i j = 0 := cc_none fun t ht => by
  have := ht.ij
  have := ht.jl
  omega
/-- Closed: the least table has the numbers of trees. -/
theorem lst_cnt {ps : List Pd} (hk : Kd ps) {w : List Int} {F : TbN} (h : Lst (leafC w) ps (w.length + 1) F) (a : Int) (i j : Nat) : F a i j = cnt ps w a i j := by
  refine Nat.le_antisymm (h.least (cnt ps w) (fun a i j hij => cnt_out (Or.inl hij)) (fun a i j hij hj => ?_) a i j) (cnt_le (fun a i j => ?_) a i j)
  · rw [← stp_stm hk (fun a i j hij => cnt_out (Or.inl hij)) hj, cnt_fix]; exact Nat.le_refl _
  · by_cases e : j < i ∨ w.length < j
    · rw [stp_out (fun a i j h2 => h.low a i j (by omega)) e]; exact Nat.zero_le _
    · rw [stp_stm hk (fun a i j hij => h.low a i j (Or.inl hij)) (by omega), ← h.fix a i j (by omega) (by omega)]; exact Nat.le_refl _
end Cg
end Go.Proofs.Ytpbnnmfjahckmaa
