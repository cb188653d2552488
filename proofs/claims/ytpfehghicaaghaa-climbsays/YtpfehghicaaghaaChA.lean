/-
  A chart of a word's pieces, plainly: sums of products, from the left and from the right; what one piece's rounds do; what the least table is. The open chart, plainly: a nonterminal has something behind a place, up to the word's end, just if some tree of it begins so. What a chart holds in memory; the contracts of count.plus and chart.of. The contract of chart.of.
-/
import Derived.Test.YtpfehghicaaghaaCtA
import Derived.Test.YtpfehghicaaghaaTrA
namespace Go.Proofs.Ytpfehghicaaghaa
namespace Cg

/-! Sums. -/
theorem sm_zero {n : Nat} {g : Nat → Nat} (h : ∀ i, i < n → g i = 0) : sm n g = 0 := by
  induction n with
  | zero => rfl
  | succ n ih => rw [sm, ih fun i hi => h i (by omega), h n (by omega)]
theorem sm_one {n : Nat} {g : Nat → Nat} {k : Nat} (hk : k < n) (h : ∀ i, i < n → i ≠ k → g i = 0) : sm n g = g k := by
  induction n with
  | zero => omega
  | succ n ih =>
    rw [sm]
    by_cases e : k = n
    · subst e; rw [sm_zero fun i hi => h i (by omega) (by omega), Nat.zero_add]
    · rw [ih (by omega) fun i hi hn => h i (by omega) hn, h n (by omega) (by omega), Nat.add_zero]
theorem sm_mul {n : Nat} {g : Nat → Nat} (c : Nat) : sm n g * c = sm n fun i => g i * c := by
  induction n with
  | zero => simp [sm]
  | succ n ih => rw [sm, sm, Nat.add_mul, ih]
theorem mul_sm {n : Nat} {g : Nat → Nat} (c : Nat) : c * sm n g = sm n fun i => c * g i := by
  induction n with
  | zero => simp [sm]
  | succ n ih => rw [sm, sm, Nat.mul_add, ih]
theorem sm_add {n : Nat} {g h : Nat → Nat} : sm n (fun i => g i + h i) = sm n g + sm n h := by
  induction n with
  | zero => rfl
  | succ n ih => rw [sm, sm, sm, ih]; omega
theorem sm_comm {n m : Nat} {g : Nat → Nat → Nat} : sm n (fun i => sm m fun j => g i j) = sm m fun j => sm n fun i => g i j := by
  induction n with
  | zero => rw [sm, sm_zero fun j _ => by rfl]
  | succ n ih => rw [sm, ih, ← sm_add]; exact sm_congr fun j _ => by rw [sm]
theorem sm_pos {n : Nat} {g : Nat → Nat} : 1 ≤ sm n g ↔ ∃ i, i < n ∧ 1 ≤ g i := by
  induction n with
  | zero => simp [sm]
  | succ n ih =>
    rw [sm]
    constructor
    · intro h
      by_cases e : 1 ≤ sm n g
      · obtain ⟨i, hi, h⟩ := ih.1 e; exact ⟨i, by omega, h⟩
      · exact ⟨n, by omega, by omega⟩
    · rintro ⟨i, hi, h⟩
      by_cases e : i = n
      · subst e; omega
      · have := ih.2 ⟨i, by omega, h⟩; omega
theorem sm_mono2 {n : Nat} {g g' : Nat → Nat} (h : ∀ i, i < n → g i ≤ g' i) : sm n g ≤ sm n g' := by
  induction n with
  | zero => exact Nat.le_refl _
  | succ n ih => rw [sm, sm]; have := ih fun i hi => h i (by omega); have := h n (by omega); omega
/-- Two at most, of a product: it is no matter when it is cut. -/
theorem min_mul (x y : Nat) : min 2 (min 2 x * y) = min 2 (x * y) := by
  rcases Nat.lt_or_ge x 3 with h | h
  · rw [show min 2 x = x by omega]
  · rw [show min 2 x = 2 by omega]
    rcases Nat.eq_zero_or_pos y with e | e
    · subst e; simp
    · have h1 : 2 * 1 ≤ 2 * y := Nat.mul_le_mul_left 2 e
      have h2 : 2 * y ≤ x * y := Nat.mul_le_mul_right y (by omega)
      omega
/-! Products of rows of symbols: M s i j: how many of s there are from i to j. -/
def mr (K : Nat) (M : Sy → Nat → Nat → Nat) : List Sy → Nat → Nat → Nat
  | [], i, j => if i = j then 1 else 0
  | s :: l, i, j => sm K fun m => M s i m * mr K M l m j
theorem mr_snoc {K : Nat} {M : Sy → Nat → Nat → Nat} (s : Sy) : ∀ (l : List Sy) {i j : Nat}, i < K → j < K → mr K M (l ++ [s]) i j = sm K fun c => mr K M l i c * M s c j
  | [], i, j, hi, hj => by
    rw [List.nil_append, mr, sm_one hj (fun m _ hn => by rw [mr, if_neg hn, Nat.mul_zero]), sm_one hi (fun m _ hn => by rw [mr, if_neg (fun e => hn e.symm), Nat.zero_mul]), mr, if_pos rfl, mr, if_pos rfl]
    omega
  | t :: l, i, j, hi, hj => by
    rw [List.cons_append, mr]
    rw [sm_congr (g' := fun m => sm K fun c => M t i m * mr K M l m c * M s c j) fun m hm => by
      rw [mr_snoc s l hm hj, mul_sm]; exact sm_congr fun c _ => by rw [Nat.mul_assoc]]
    rw [sm_comm]
    exact sm_congr fun c _ => by rw [mr, sm_mul]
/-- Nothing leads back. -/
def Tri (M : Sy → Nat → Nat → Nat) : Prop := ∀ s i j, j < i → M s i j = 0
theorem mr_tri {K : Nat} {M : Sy → Nat → Nat → Nat} (h : Tri M) : ∀ (l : List Sy) {i j : Nat}, j < i → mr K M l i j = 0
  | [], i, j, hij => by rw [mr, if_neg (by omega)]
  | s :: l, i, j, hij => by
    rw [mr]
    refine sm_zero fun m hm => ?_
    by_cases e : m < i
    · rw [h s i m e, Nat.zero_mul]
    · rw [mr_tri h l (by omega), Nat.mul_zero]
theorem mr_congr {K : Nat} {M M' : Sy → Nat → Nat → Nat} (h : Tri M) (h' : Tri M') : ∀ (l : List Sy) {i j : Nat}, (∀ s a b, i ≤ a → a ≤ b → b ≤ j → s ∈ l → M s a b = M' s a b) → mr K M l i j = mr K M' l i j
  | [], i, j, _ => by rw [mr, mr]
  | s :: l, i, j, he => by
    rw [mr, mr]
    refine sm_congr fun m hm => ?_
    by_cases e : m < i
    · rw [h s i m e, h' s i m e, Nat.zero_mul, Nat.zero_mul]
    · by_cases e2 : j < m
      · rw [mr_tri h l e2, mr_tri h' l e2, Nat.mul_zero, Nat.mul_zero]
      · rw [he s i m (by omega) (by omega) (by omega) (by simp), mr_congr h h' l fun u a b ha hab hb hu => he u a b (by omega) hab hb (by simp [hu])]
theorem mr_mono {K : Nat} {M M' : Sy → Nat → Nat → Nat} (h : Tri M) : ∀ (l : List Sy) {i j : Nat}, (∀ s a b, i ≤ a → a ≤ b → b ≤ j → M s a b ≤ M' s a b) → mr K M l i j ≤ mr K M' l i j
  | [], i, j, _ => by rw [mr, mr]; exact Nat.le_refl _
  | s :: l, i, j, he => by
    rw [mr, mr]
    refine sm_mono2 fun m hm => ?_
    by_cases e : m < i
    · rw [h s i m e, Nat.zero_mul]; exact Nat.zero_le _
    · by_cases e2 : j < m
      · rw [mr_tri h l e2, Nat.mul_zero]; exact Nat.zero_le _
      · exact Nat.mul_le_mul (he s i m (by omega) (by omega) (by omega)) (mr_mono h l fun u a b ha hab hb => he u a b (by omega) hab hb)
/-! Tables. -/
abbrev Tb := Int → Nat → Nat → Nat
/-- Of one symbol: L: where a terminal stands. -/
def on1 (L : Int → Nat → Nat → Bool) (f : Tb) (s : Sy) (i j : Nat) : Nat := if s.1 = 2 then f s.2 i j else if L s.2 i j then 1 else 0
/-- What the rule says of a nonterminal. -/
def stm (ps : List Pd) (K : Nat) (M : Sy → Nat → Nat → Nat) (a : Int) (i j : Nat) : Nat := min 2 (sm ps.length fun q => if (ps.getD q (0, [])).1 = a then mr K M (ps.getD q (0, [])).2 i j else 0)
/-- Terminals lead on. -/
def TrL (L : Int → Nat → Nat → Bool) : Prop := ∀ a i j, j < i → L a i j = false
theorem on1_tri {L : Int → Nat → Nat → Bool} {f : Tb} (hL : TrL L) (hf : ∀ a i j, j < i → f a i j = 0) : Tri (on1 L f) := fun s i j h => by
  unfold on1
  split
  · exact hf _ _ _ h
  · rw [hL _ _ _ h, if_neg (by simp)]
theorem stm_mono {L : Int → Nat → Nat → Bool} {ps : List Pd} {K : Nat} {f g : Tb} (hL : TrL L) (hf : ∀ a i j, j < i → f a i j = 0) {a : Int} {i j : Nat} (h : ∀ b x y, i ≤ x → x ≤ y → y ≤ j → f b x y ≤ g b x y) : stm ps K (on1 L f) a i j ≤ stm ps K (on1 L g) a i j := by
  unfold stm
  have := sm_mono2 (n := ps.length) (g := fun q => if (ps.getD q (0, [])).1 = a then mr K (on1 L f) (ps.getD q (0, [])).2 i j else 0) (g' := fun q => if (ps.getD q (0, [])).1 = a then mr K (on1 L g) (ps.getD q (0, [])).2 i j else 0) fun q _ => by
    split
    · refine mr_mono (on1_tri hL hf) _ fun s x y hx hy hj => ?_
      unfold on1
      split
      · exact h _ _ _ hx hy hj
      · exact Nat.le_refl _
    · exact Nat.le_refl _
  omega
theorem stm_congr {L : Int → Nat → Nat → Bool} {ps : List Pd} {K : Nat} {f g : Tb} (hL : TrL L) (hf : ∀ a i j, j < i → f a i j = 0) (hg : ∀ a i j, j < i → g a i j = 0) {a : Int} {i j : Nat} (h : ∀ b x y, i ≤ x → x ≤ y → y ≤ j → f b x y = g b x y) : stm ps K (on1 L f) a i j = stm ps K (on1 L g) a i j :=
  Nat.le_antisymm (stm_mono hL hf fun b x y h1 h2 h3 => Nat.le_of_eq (h b x y h1 h2 h3)) (stm_mono hL hg fun b x y h1 h2 h3 => Nat.le_of_eq (h b x y h1 h2 h3).symm)
theorem stm_le {ps : List Pd} {K : Nat} {M : Sy → Nat → Nat → Nat} {a : Int} {i j : Nat} : stm ps K M a i j ≤ 2 := Nat.min_le_left _ _
/-- The least table that its own rule leaves as it is. -/
structure Lst (L : Int → Nat → Nat → Bool) (ps : List Pd) (K : Nat) (F : Tb) : Prop where
  low : ∀ a i j, j < i ∨ K ≤ j → F a i j = 0
  fix : ∀ a i j, i ≤ j → j < K → F a i j = stm ps K (on1 L F) a i j
  least : ∀ g : Tb, (∀ a i j, j < i → g a i j = 0) → (∀ a i j, i ≤ j → j < K → stm ps K (on1 L g) a i j ≤ g a i j) → ∀ a i j, F a i j ≤ g a i j
/-- Pieces that were done ahead of this one. -/
def Dn2 (i0 j0 i j : Nat) : Prop := i0 < i ∨ (i = i0 ∧ j < j0)
/-- The table at a moment at which the piece from i0 to j0 is worked on. -/
structure At (L : Int → Nat → Nat → Bool) (ps : List Pd) (K : Nat) (i0 j0 : Nat) (N : Tb) : Prop where
  low : ∀ a i j, j < i ∨ K ≤ j → N a i j = 0
  new : ∀ a i j, ¬ Dn2 i0 j0 i j → ¬ (i = i0 ∧ j = j0) → N a i j = 0
  fix : ∀ a i j, Dn2 i0 j0 i j → i ≤ j → j < K → N a i j = stm ps K (on1 L N) a i j
  up : ∀ a, N a i0 j0 ≤ stm ps K (on1 L N) a i0 j0
  least : ∀ g : Tb, (∀ a i j, j < i → g a i j = 0) → (∀ a i j, i ≤ j → j < K → stm ps K (on1 L g) a i j ≤ g a i j) → ∀ a i j, N a i j ≤ g a i j
/-- One round. -/
def rnd (ps : List Pd) (K : Nat) (L : Int → Nat → Nat → Bool) (i0 j0 : Nat) (N : Tb) : Tb := fun a i j => if i = i0 ∧ j = j0 then stm ps K (on1 L N) a i j else N a i j
theorem At.back {L : Int → Nat → Nat → Bool} {ps : List Pd} {K i0 j0 : Nat} {N : Tb} (h : At L ps K i0 j0 N) : ∀ a i j, j < i → N a i j = 0 := fun a i j hij => h.low a i j (Or.inl hij)
theorem At.le_rnd {L : Int → Nat → Nat → Bool} {ps : List Pd} {K i0 j0 : Nat} {N : Tb} (h : At L ps K i0 j0 N) (a : Int) (i j : Nat) : N a i j ≤ rnd ps K L i0 j0 N a i j := by
  unfold rnd
  by_cases e : i = i0 ∧ j = j0
  · rw [if_pos e, e.1, e.2]; exact h.up a
  · rw [if_neg e]; exact Nat.le_refl _
theorem At.rnd {L : Int → Nat → Nat → Bool} {ps : List Pd} {K i0 j0 : Nat} {N : Tb} (hL : TrL L) (h : At L ps K i0 j0 N) (hij : i0 ≤ j0) (hj : j0 < K) : At L ps K i0 j0 (rnd ps K L i0 j0 N) := by
  have hb : ∀ a i j, j < i → Cg.rnd ps K L i0 j0 N a i j = 0 := fun a i j hji => by
    unfold Cg.rnd
    rw [if_neg (by omega)]; exact h.back a i j hji
  refine ⟨fun a i j hh => ?_, fun a i j h1 h2 => ?_, fun a i j h1 h2 h3 => ?_, fun a => ?_, fun g hg1 hg2 a i j => ?_⟩
  · unfold Cg.rnd
    rw [if_neg (by omega)]; exact h.low a i j hh
  · unfold Cg.rnd
    rw [if_neg h2]; exact h.new a i j h1 h2
  · have hne : ¬ (i = i0 ∧ j = j0) := by rcases h1 with h1 | h1 <;> omega
    have e : Cg.rnd ps K L i0 j0 N a i j = N a i j := by unfold Cg.rnd; rw [if_neg hne]
    rw [e, h.fix a i j h1 h2 h3]
    refine stm_congr hL h.back hb fun b x y hx hy hyj => ?_
    unfold Cg.rnd
    rw [if_neg (by rcases h1 with h1 | h1 <;> omega)]
  · have e : Cg.rnd ps K L i0 j0 N a i0 j0 = stm ps K (on1 L N) a i0 j0 := by unfold Cg.rnd; rw [if_pos ⟨rfl, rfl⟩]
    rw [e]
    exact stm_mono hL h.back fun b x y _ _ _ => h.le_rnd b x y
  · unfold Cg.rnd
    by_cases e : i = i0 ∧ j = j0
    · rw [if_pos e]
      rw [e.1, e.2]
      exact Nat.le_trans (stm_mono hL h.back fun b x y _ _ _ => h.least g hg1 hg2 b x y) (hg2 a i0 j0 hij hj)
    · rw [if_neg e]; exact h.least g hg1 hg2 a i j
/-- A piece is done: the next one. -/
theorem At.next {L : Int → Nat → Nat → Bool} {ps : List Pd} {K i0 j0 : Nat} {N : Tb} (h : At L ps K i0 j0 N) (hf : ∀ a, N a i0 j0 = stm ps K (on1 L N) a i0 j0) : At L ps K i0 (j0 + 1) N := by
  refine ⟨h.low, fun a i j h1 h2 => h.new a i j ?_ ?_, fun a i j h1 h2 h3 => ?_, fun a => ?_, h.least⟩
  · rintro (h3 | h3)
    · exact h1 (Or.inl h3)
    · exact h1 (Or.inr ⟨h3.1, by omega⟩)
  · rintro ⟨rfl, rfl⟩; exact h1 (Or.inr ⟨rfl, by omega⟩)
  · by_cases e : i = i0 ∧ j = j0
    · rw [e.1, e.2]; exact hf a
    · exact h.fix a i j (by rcases h1 with h1 | h1; exact Or.inl h1; exact Or.inr ⟨h1.1, by omega⟩) h2 h3
  · rw [h.new a i0 (j0 + 1) (by unfold Dn2; omega) (by omega)]; exact Nat.zero_le _
/-- A row of pieces is done: the next one. -/
theorem At.row {L : Int → Nat → Nat → Bool} {ps : List Pd} {K i0 : Nat} {N : Tb} (h : At L ps K (i0 + 1) K N) : At L ps K i0 i0 N := by
  refine ⟨h.low, fun a i j h1 h2 => ?_, fun a i j h1 h2 h3 => ?_, fun a => ?_, h.least⟩
  · by_cases e : j < i ∨ K ≤ j
    · exact h.low a i j e
    · refine h.new a i j ?_ (by omega)
      rintro (h3 | h3)
      · exact h1 (Or.inl (by omega))
      · exact h1 (Or.inl (by omega))
  · refine h.fix a i j ?_ h2 h3
    rcases h1 with h1 | h1
    · by_cases e : i = i0 + 1
      · exact Or.inr ⟨e, by omega⟩
      · exact Or.inl (by omega)
    · omega
  · by_cases e : K ≤ i0
    · rw [h.low a i0 i0 (Or.inr e)]; exact Nat.zero_le _
    · rw [h.new a i0 i0 (by unfold Dn2; omega) (by omega)]; exact Nat.zero_le _
/-- At the beginning nothing is done. -/
theorem At.start {L : Int → Nat → Nat → Bool} {ps : List Pd} {K : Nat} (n : Nat) (hn : K ≤ n + 1) : At L ps K n n fun _ _ _ => 0 :=
  ⟨fun _ _ _ _ => rfl, fun _ _ _ _ _ => rfl, fun a i j h1 h2 h3 => by unfold Dn2 at h1; omega, fun _ => Nat.zero_le _, fun _ _ _ _ _ _ => Nat.zero_le _⟩
/-- At the end it is the least table. -/
theorem At.done {L : Int → Nat → Nat → Bool} {ps : List Pd} {K : Nat} {N : Tb} (h : At L ps K 0 K N) : Lst L ps K N :=
  ⟨h.low, fun a i j h1 h2 => h.fix a i j (by unfold Dn2; omega) h1 h2, h.least⟩
/-! Where a terminal stands in a word: and, open, behind it, too. -/
def leafC (w : List Int) (a : Int) (i j : Nat) : Bool := decide (j = i + 1 ∧ w[i]? = some a)
def leafO (w : List Int) (a : Int) (i j : Nat) : Bool := decide ((j = i + 1 ∧ w[i]? = some a) ∨ (i = w.length ∧ j = w.length))
theorem leafC_tri (w : List Int) : TrL (leafC w) := fun a i j h => by unfold leafC; simp; omega
theorem leafO_tri (w : List Int) : TrL (leafO w) := fun a i j h => by unfold leafO; simp; omega
/-- A right grammar's symbols are terminals or nonterminals. -/
def Kd (ps : List Pd) : Prop := ∀ p ∈ ps, ∀ s ∈ p.2, s.1 = 1 ∨ s.1 = 2
theorem kd_at {ps : List Pd} (h : Kd ps) {q : Nat} (hq : q < ps.length) : ∀ s ∈ (ps.getD q (0, [])).2, s.1 = 1 ∨ s.1 = 2 := by
  have e : ps.getD q (0, []) = ps[q] := by rw [List.getD_eq_getElem?_getD, List.getElem?_eq_getElem hq]; rfl
  rw [e]
  exact h _ (List.getElem_mem hq)
/-- The rule of trees, from the right, is that of products. -/
theorem row1_mr {w : List Int} {f : Tb} (hf : ∀ a i j, j < i → f a i j = 0) {M : Sy → Nat → Nat → Nat} (hM : Tri M) : ∀ (l : List Sy), (∀ s ∈ l, ∀ i j, M s i j = one1 f w s i j) → ∀ {i j : Nat}, j < w.length + 1 → row1 f w l i j = min 2 (mr (w.length + 1) M l i j)
  | [], _, i, j, hj => by
    rw [row1, mr]
    by_cases e : i = j
    · rw [if_pos ⟨e, by omega⟩, if_pos e]; rfl
    · rw [if_neg (fun h => e h.1), if_neg e]; rfl
  | s :: l, hs, i, j, hj => by
    rw [row1, mr]
    have h1 : sm (w.length + 1) (fun m => M s i m * mr (w.length + 1) M l m j) = sm (j + 1) fun m => M s i m * mr (w.length + 1) M l m j := by
      have key : ∀ n, sm (j + 1 + n) (fun m => M s i m * mr (w.length + 1) M l m j) = sm (j + 1) fun m => M s i m * mr (w.length + 1) M l m j := by
        intro n
        induction n with
        | zero => rfl
        | succ n ih => rw [← Nat.add_assoc, sm, ih, mr_tri hM l (by omega), Nat.mul_zero, Nat.add_zero]
      have := key (w.length + 1 - (j + 1))
      rwa [show j + 1 + (w.length + 1 - (j + 1)) = w.length + 1 by omega] at this
    rw [h1, ← min_sm, ← min_sm (g := fun m => M s i m * mr (w.length + 1) M l m j)]
    congr 1
    refine sm_congr fun m hm => ?_
    rw [row1_mr hf hM l (fun u hu => hs u (by simp [hu])) hj, hs s (by simp)]
    rw [show min 2 (min 2 (one1 f w s i m * min 2 (mr (w.length + 1) M l m j))) = min 2 (min 2 (mr (w.length + 1) M l m j) * one1 f w s i m) by rw [Nat.mul_comm]; omega, min_mul, Nat.mul_comm]
theorem on1_one1 {w : List Int} {f : Tb} {s : Sy} (h : s.1 = 1 ∨ s.1 = 2) (i j : Nat) : on1 (leafC w) f s i j = one1 f w s i j := by
  unfold on1 one1 leafC
  rcases h with h | h
  · rw [if_neg (by omega), if_pos h]; simp
  · rw [if_pos h, if_neg (by omega)]
theorem stp_stm {ps : List Pd} (hk : Kd ps) {w : List Int} {f : Tb} (hf : ∀ a i j, j < i → f a i j = 0) {a : Int} {i j : Nat} (hj : j < w.length + 1) : stp ps w f a i j = stm ps (w.length + 1) (on1 (leafC w) f) a i j := by
  unfold stp stm
  rw [← min_sm, ← min_sm (g := fun q => if (ps.getD q (0, [])).1 = a then mr (w.length + 1) (on1 (leafC w) f) (ps.getD q (0, [])).2 i j else 0)]
  congr 1
  refine sm_congr fun q hq => ?_
  split
  · rw [row1_mr hf (on1_tri (leafC_tri w) hf) _ (fun s hs i j => on1_one1 (kd_at hk hq s hs) i j) hj]; omega
  · rfl
theorem row1_out {w : List Int} {f : Tb} (hf : ∀ a i j, j < i ∨ w.length < j → f a i j = 0) : ∀ (l : List Sy) {i j : Nat}, j < i ∨ w.length < j → row1 f w l i j = 0
  | [], i, j, h => by rw [row1, if_neg (by omega)]
  | s :: l, i, j, h => by
    rw [row1, sm_zero fun m hm => ?_]
    · rfl
    · by_cases e : m < i
      · have : one1 f w s i m = 0 := by
          unfold one1
          split
          · rw [if_neg (by omega)]
          · exact hf _ _ _ (Or.inl e)
        rw [this, Nat.zero_mul]; rfl
      · rw [row1_out hf l (by omega), Nat.mul_zero]; rfl
theorem stp_out {ps : List Pd} {w : List Int} {f : Tb} (hf : ∀ a i j, j < i ∨ w.length < j → f a i j = 0) {a : Int} {i j : Nat} (h : j < i ∨ w.length < j) : stp ps w f a i j = 0 := by
  unfold stp
  rw [sm_zero fun q hq => by split; exact row1_out hf _ h; rfl]
  rfl
theorem cnt_out {ps : List Pd} {w : List Int} {a : Int} {i j : Nat} (h : j < i ∨ w.length < j) : cnt ps w a i j = 0 := cc_none fun t ht => by
  have := ht.ij
  have := ht.jl
  omega
/-- Closed: the least table has the numbers of trees. -/
theorem lst_cnt {ps : List Pd} (hk : Kd ps) {w : List Int} {F : Tb} (h : Lst (leafC w) ps (w.length + 1) F) (a : Int) (i j : Nat) : F a i j = cnt ps w a i j := by
  refine Nat.le_antisymm (h.least (cnt ps w) (fun a i j hij => cnt_out (Or.inl hij)) (fun a i j hij hj => ?_) a i j) (cnt_le (fun a i j => ?_) a i j)
  · rw [← stp_stm hk (fun a i j hij => cnt_out (Or.inl hij)) hj, cnt_fix]; exact Nat.le_refl _
  · by_cases e : j < i ∨ w.length < j
    · rw [stp_out (fun a i j h2 => h.low a i j (by omega)) e]; exact Nat.zero_le _
    · rw [stp_stm hk (fun a i j hij => h.low a i j (Or.inl hij)) (by omega), ← h.fix a i j (by omega) (by omega)]; exact Nat.le_refl _
end Cg
end Go.Proofs.Ytpfehghicaaghaa

namespace Go.Proofs.Ytpfehghicaaghaa
namespace Cg

theorem opn_cnt {ps : List Pd} (hk : Kd ps) {w : List Int} {F : Tb} (h : Lst (leafO w) ps (w.length + 1) F) (a : Int) (i j : Nat) : cnt ps w a i j ≤ F a i j := by
  refine cnt_le (fun a i j => ?_) a i j
  by_cases e : j < i ∨ w.length < j
  · rw [stp_out (fun a i j h2 => h.low a i j (by omega)) e]; exact Nat.zero_le _
  · have hlow : ∀ a i j, j < i → F a i j = 0 := fun a i j hij => h.low a i j (Or.inl hij)
    rw [stp_stm hk hlow (by omega), h.fix a i j (by omega) (by omega)]
    unfold stm
    have := sm_mono2 (n := ps.length) (g := fun q => if (ps.getD q (0, [])).1 = a then mr (w.length + 1) (on1 (leafC w) F) (ps.getD q (0, [])).2 i j else 0) (g' := fun q => if (ps.getD q (0, [])).1 = a then mr (w.length + 1) (on1 (leafO w) F) (ps.getD q (0, [])).2 i j else 0) fun q _ => by
      split
      · refine mr_mono (on1_tri (leafC_tri w) hlow) _ fun s x y hx hy hj => ?_
        unfold on1 leafC leafO
        split
        · exact Nat.le_refl _
        · by_cases e1 : y = x + 1 ∧ w[x]? = some s.2
          · simp [e1]
          · simp [e1]
      · exact Nat.le_refl _
    omega
theorem ov_of1 {ps : List Pd} {w : List Int} {s : Sy} (hs : s.1 = 1 ∨ s.1 = 2) {i m : Nat} (h : Ov ps w s i m) {F : Tb} (hF : ∀ a i j, cnt ps w a i j ≤ F a i j) : 1 ≤ on1 (leafO w) F s i m := by
  obtain ⟨t, ht⟩ := h
  unfold on1
  rcases hs with hs | hs
  · rw [if_neg (by omega)]
    have := ((sp_leaf hs).1 ht).1
    unfold leafO
    rw [if_pos (by simp [this])]; exact Nat.le_refl _
  · rw [if_pos hs]
    refine Nat.le_trans (cc_some.2 ⟨t, ?_⟩) (hF s.2 i m)
    have e : s = (2, s.2) := Prod.ext hs rfl
    rw [← e]; exact ht
mutual
theorem opn_all2 {ps : List Pd} (hk : Kd ps) {w : List Int} {F : Tb} (hL : Lst (leafO w) ps (w.length + 1) F) : ∀ {t : T} {s : Sy} {i : Nat}, sh ps t s = true → (s.1 = 1 ∨ s.1 = 2) → i ≤ w.length → w.drop i <+: yl ps t s → 1 ≤ on1 (leafO w) F s i w.length
  | .mk p k l, s, i, h, hs, hi, hp => by
    by_cases h4 : s.1 = 1
    · have e1 := sh_is_leaf h h4
      have e2 : yl ps (.mk p k l) s = [s.2] := by rw [e1, yl, if_pos h4]
      rw [e2] at hp
      unfold on1
      rw [if_neg (by omega)]
      unfold leafO
      have hl := hp.length_le
      rw [List.length_drop] at hl
      simp at hl
      by_cases e : i = w.length
      · rw [if_pos (by simp [e])]; exact Nat.le_refl _
      · have hlt : i < w.length := by omega
        rw [List.drop_eq_getElem_cons hlt] at hp
        have h5 : w[i] = s.2 := by
          obtain ⟨r, hr⟩ := hp
          rw [List.cons_append] at hr
          exact (List.cons.inj hr).1
        rw [if_pos (by simp; left; exact ⟨by omega, by rw [List.getElem?_eq_getElem hlt, h5]⟩)]; exact Nat.le_refl _
    · obtain ⟨h1, h2, h3, h5⟩ := sh_node h h4
      have hle := isPr_le h1
      obtain ⟨z, rfl⟩ : ∃ z : Nat, p = (z : Int) := ⟨p.toNat, by omega⟩
      rw [yl, if_neg h4] at hp
      have hb : bodyOf ps (z : Int) = (ps.getD z (0, [])).2 := by unfold bodyOf; rw [Int.toNat_natCast]
      have hh : (ps.getD z (0, [])).1 = s.2 := by unfold headOf at h2; rw [Int.toNat_natCast] at h2; exact h2
      rw [hb] at h5 hp
      have hz : z < ps.length := by omega
      have := opn_all2L hk hL h5 (kd_at hk hz) hi hp
      unfold on1
      rw [if_pos (by rcases hs with hs | hs; exact absurd hs h4; exact hs), hL.fix _ _ _ hi (by omega)]
      unfold stm
      have : 1 ≤ sm ps.length fun q => if (ps.getD q (0, [])).1 = s.2 then mr (w.length + 1) (on1 (leafO w) F) (ps.getD q (0, [])).2 i w.length else 0 := sm_pos.2 ⟨z, hz, by rw [if_pos hh]; exact this⟩
      omega
theorem opn_all2L {ps : List Pd} (hk : Kd ps) {w : List Int} {F : Tb} (hL : Lst (leafO w) ps (w.length + 1) F) : ∀ {l : List T} {ss : List Sy} {i : Nat}, shL ps l ss = true → (∀ s ∈ ss, s.1 = 1 ∨ s.1 = 2) → i ≤ w.length → w.drop i <+: ylL ps l ss → 1 ≤ mr (w.length + 1) (on1 (leafO w) F) ss i w.length
  | [], ss, i, h, hs, hi, hp => by
    rw [shL] at h; simp at h; subst h
    rw [ylL] at hp
    have := hp.length_le
    simp at this
    rw [mr, if_pos (by omega)]; exact Nat.le_refl _
  | t :: l, [], i, h, hs, hi, hp => by rw [shL] at h; simp at h
  | t :: l, s :: ss, i, h, hs, hi, hp => by
    rw [shL] at h; simp at h
    rw [ylL] at hp
    simp only [List.headD_cons, List.tail_cons] at hp
    rw [mr]
    rcases List.prefix_or_prefix_of_prefix hp (List.prefix_append (yl ps t s) (ylL ps l ss)) with hp1 | hp1
    · refine sm_pos.2 ⟨w.length, by omega, Nat.mul_pos (opn_all2 hk hL h.1 (hs s (by simp)) hi hp1) (opn_all2L hk hL h.2 (fun u hu => hs u (by simp [hu])) (Nat.le_refl _) ?_)⟩
      rw [List.drop_length]; exact List.nil_prefix
    · have hov := ov_of h.1 hi hp1
      have hm := ov_le hov
      refine sm_pos.2 ⟨_, by omega, Nat.mul_pos (ov_of1 (hs s (by simp)) hov fun a i j => opn_cnt hk hL a i j) (opn_all2L hk hL h.2 (fun u hu => hs u (by simp [hu])) hm.2 ?_)⟩
      obtain ⟨r, hr⟩ := hp1
      have hd : w.drop (i + (yl ps t s).length) = r := by
        rw [← List.drop_drop, ← hr, List.drop_left]
      rw [hd]
      rw [← hr] at hp
      exact (List.prefix_append_right_inj _).1 hp
end
open Classical in
/-- What is open at its end, and counted else. -/
noncomputable def gO (ps : List Pd) (w : List Int) : Tb := fun a i j => if i ≤ j ∧ j = w.length then (if Bgn ps w (2, a) i then 2 else 0) else cnt ps w a i j
theorem mr_bgn {ps : List Pd} {w : List Int} : ∀ (l : List Sy) {i : Nat}, (∀ s ∈ l, s.1 = 1 ∨ s.1 = 2) → i ≤ w.length → 1 ≤ mr (w.length + 1) (on1 (leafO w) (gO ps w)) l i w.length → BgnL ps w l i
  | [], i, hs, hi, h => by
    rw [mr] at h
    by_cases e : i = w.length
    · exact ⟨[], by simp [shL], by rw [e, List.drop_length]; exact List.nil_prefix⟩
    · rw [if_neg e] at h; omega
  | s :: l, i, hs, hi, h => by
    rw [mr] at h
    obtain ⟨m, hm, h⟩ := sm_pos.1 h
    have h0 : on1 (leafO w) (gO ps w) s i m * mr (w.length + 1) (on1 (leafO w) (gO ps w)) l m w.length ≠ 0 := by omega
    have h1 : 1 ≤ on1 (leafO w) (gO ps w) s i m := Nat.pos_of_ne_zero fun e => h0 (by rw [e, Nat.zero_mul])
    have h2 : 1 ≤ mr (w.length + 1) (on1 (leafO w) (gO ps w)) l m w.length := Nat.pos_of_ne_zero fun e => h0 (by rw [e, Nat.mul_zero])
    obtain ⟨ts, g1, g2⟩ := mr_bgn l (fun u hu => hs u (by simp [hu])) (by omega) h2
    unfold on1 at h1
    by_cases e : m = w.length
    · subst e
      have key : ∃ t, sh ps t s = true ∧ w.drop i <+: yl ps t s := by
        rcases hs s (by simp) with h4 | h4
        · rw [if_neg (by omega)] at h1
          refine ⟨_, sh_of_leaf (k := 0) h4, ?_⟩
          rw [yl, if_pos h4]
          by_cases e : i = w.length
          · rw [e, List.drop_length]; exact List.nil_prefix
          · have hlt : i < w.length := by omega
            by_cases e1 : leafO w s.2 i w.length = true
            · unfold leafO at e1
              simp at e1
              have e2 : w[i]? = some s.2 ∧ w.length = i + 1 := by rcases e1 with e1 | e1; exact ⟨e1.2, e1.1⟩; omega
              rw [List.getElem?_eq_getElem hlt] at e2
              rw [List.drop_eq_getElem_cons hlt, List.drop_eq_nil_of_le (by omega)]
              simp at e2
              rw [e2.1]; exact List.prefix_rfl
            · rw [if_neg e1] at h1; omega
        · rw [if_pos h4] at h1
          unfold gO at h1
          rw [if_pos ⟨hi, rfl⟩] at h1
          by_cases e1 : Bgn ps w (2, s.2) i
          · have e : s = (2, s.2) := Prod.ext h4 rfl
            rw [← e] at e1; exact e1
          · rw [if_neg e1] at h1; omega
      obtain ⟨t, k1, k2⟩ := key
      refine ⟨t :: ts, shL_cons k1 g1, ?_⟩
      rw [ylL]
      exact k2.trans (List.prefix_append _ _)
    · have key : Ov ps w s i m := by
        rcases hs s (by simp) with h4 | h4
        · rw [if_neg (by omega)] at h1
          by_cases e1 : leafO w s.2 i m = true
          · unfold leafO at e1
            simp at e1
            refine ⟨_, (sp_leaf h4).2 ⟨?_, rfl⟩⟩
            rcases e1 with e1 | e1
            · exact e1
            · omega
          · rw [if_neg e1] at h1; omega
        · rw [if_pos h4] at h1
          unfold gO at h1
          rw [if_neg (by omega)] at h1
          obtain ⟨t, ht⟩ := cc_some.1 h1
          have e : s = (2, s.2) := Prod.ext h4 rfl
          rw [← e] at ht
          exact ⟨t, ht⟩
      obtain ⟨t, ht⟩ := key
      obtain ⟨r, hr⟩ := g2
      refine ⟨t :: ts, shL_cons ht.s0 g1, r, ?_⟩
      rw [ylL]
      simp only [List.headD_cons, List.tail_cons]
      rw [part_pre ht.ij ht.jl, List.append_assoc, hr, ht.yl0]
/-- Open: it has something up to the word's end just if a tree begins so. -/
theorem lst_bgn {ps : List Pd} (hk : Kd ps) {w : List Int} {F : Tb} (h : Lst (leafO w) ps (w.length + 1) F) (a : Int) {i : Nat} (hi : i ≤ w.length) : 1 ≤ F a i w.length ↔ Bgn ps w (2, a) i := by
  constructor
  · intro h1
    have h2 := h.least (gO ps w) (fun a i j hij => by
      unfold gO; rw [if_neg (by omega)]; exact cnt_out (Or.inl hij)) (fun a i j hij hj => ?_) a i w.length
    · unfold gO at h2
      rw [if_pos ⟨hi, rfl⟩] at h2
      by_cases e : Bgn ps w (2, a) i
      · exact e
      · rw [if_neg e] at h2; omega
    · have hlowg : ∀ a i j, j < i → gO ps w a i j = 0 := fun a i j hij => by
        unfold gO; rw [if_neg (by omega)]; exact cnt_out (Or.inl hij)
      by_cases ej : j = w.length
      · subst ej
        by_cases e0 : 1 ≤ stm ps (w.length + 1) (on1 (leafO w) (gO ps w)) a i w.length
        · have e1 : 1 ≤ sm ps.length fun q => if (ps.getD q (0, [])).1 = a then mr (w.length + 1) (on1 (leafO w) (gO ps w)) (ps.getD q (0, [])).2 i w.length else 0 := by unfold stm at e0; omega
          obtain ⟨q, hq, e2⟩ := sm_pos.1 e1
          by_cases e3 : (ps.getD q (0, [])).1 = a
          · rw [if_pos e3] at e2
            obtain ⟨l, k1, k2⟩ := mr_bgn _ (kd_at hk hq) hij e2
            have hb : bodyOf ps (q : Int) = (ps.getD q (0, [])).2 := by unfold bodyOf; rw [Int.toNat_natCast]
            have hB : Bgn ps w (2, a) i := ⟨.mk (q : Int) 0 l, sh_of_node (by show (2 : Int) ≠ 1; decide) (by unfold isPr; simp; omega) (by unfold headOf; rw [Int.toNat_natCast]; exact e3) (by rw [hb]; exact k1), by
              rw [yl, if_neg (by show ¬ (2 : Int) = 1; decide), hb]; exact k2⟩
            have : gO ps w a i w.length = 2 := by unfold gO; rw [if_pos ⟨hij, rfl⟩, if_pos hB]
            rw [this]; exact stm_le
          · rw [if_neg e3] at e2; omega
        · omega
      · have e1 : gO ps w a i j = cnt ps w a i j := by unfold gO; rw [if_neg (fun hh => ej hh.2)]
        have hc : ∀ a i j, j < i → cnt ps w a i j = 0 := fun a i j hij => cnt_out (Or.inl hij)
        rw [e1, ← cnt_fix, stp_stm hk hc hj]
        unfold stm
        rw [sm_congr (g' := fun q => if (ps.getD q (0, [])).1 = a then mr (w.length + 1) (on1 (leafC w) (cnt ps w)) (ps.getD q (0, [])).2 i j else 0) fun q _ => ?_]
        · exact Nat.le_refl _
        · split
          · refine mr_congr (on1_tri (leafO_tri w) hlowg) (on1_tri (leafC_tri w) hc) _ fun s x y hx hy hyj hs => ?_
            unfold on1 leafO leafC gO
            split
            · rw [if_neg (by omega)]
            · have : ¬ (x = w.length ∧ y = w.length) := by omega
              simp [this]
          · rfl
  · rintro ⟨t, h1, h2⟩
    have := opn_all2 hk h h1 (Or.inr rfl) hi h2
    unfold on1 at this
    rwa [if_pos rfl] at this
end Cg
end Go.Proofs.Ytpfehghicaaghaa

namespace Go.Proofs.Ytpfehghicaaghaa
open Go.RowKit
open Cg

theorem kcells126 : Try.prog.cellsOf 126 = 441 := by kernel_rfl
theorem kcells124 : Try.prog.cellsOf 124 = 21 := by kernel_rfl
theorem kcells5 : Try.prog.cellsOf 5 = 1 := by kernel_rfl
/-- The cells of a table of nonterminals. -/
def nf (N : Tb) (c : Nat) : Value := .int .u8 ((N ((c / 441 : Nat) : Int) (c % 441 / 21) (c % 21) : Nat) : Int)
/-- .. of a production's. -/
def bf (B : Nat → Nat → Nat → Nat) (c : Nat) : Value := .int .u8 ((B (c / 441) (c % 441 / 21) (c % 21) : Nat) : Int)
theorem at_cell {a i j : Nat} (hi : i < 21) (hj : j < 21) : (a * 441 + i * 21 + j) / 441 = a ∧ (a * 441 + i * 21 + j) % 441 / 21 = i ∧ (a * 441 + i * 21 + j) % 21 = j := by omega
theorem cell_at {c c' : Nat} : c = c' ↔ c / 441 = c' / 441 ∧ c % 441 / 21 = c' % 441 / 21 ∧ c % 21 = c' % 21 := by omega
def lf (op : Bool) (ws : List Int) : Int → Nat → Nat → Bool := if op then leafO ws else leafC ws
theorem lf_tri (op : Bool) (ws : List Int) : TrL (lf op ws) := by unfold lf; cases op; exact leafC_tri ws; exact leafO_tri ws
/-- Where a chart lies. -/
structure Lay where
  q : Nat
  bn : Nat
  bb : Nat
  bs : Nat → Nat
/-- A chart in memory. -/
structure Ch (w0 : World) (y : Lay) (t : Int) (n : Nat) (pv wv : Value) (ps : List Pd) (ws : List Int) (op : Bool) (N : Tb) (B : Nat → Nat → Nat → Nat → Nat) (W : World) : Prop where
  bel : Below w0.heap.size w0 W
  box : W.heap[y.q]? = some (.cells #[.int .i64 t, .int .i64 (n : Int), pv, wv, .bool op, .slice (some ⟨y.bn, 0, none⟩) n n, .slice (some ⟨y.bb, 0, none⟩) ps.length ps.length] 122)
  nons : W.rowIs y.bn 126 (n * 441) (nf N)
  bods : W.rowIs y.bb 119 ps.length (fun p => .slice (some ⟨y.bs p, 0, none⟩) ((ps.getD p (0, [])).2.length + 1) ((ps.getD p (0, [])).2.length + 1))
  body : ∀ p, p < ps.length → W.rowIs (y.bs p) 126 (((ps.getD p (0, [])).2.length + 1) * 441) (bf (B p))
  oq : w0.heap.size ≤ y.q
  on : w0.heap.size ≤ y.bn
  ob : w0.heap.size ≤ y.bb
  os : ∀ p, p < ps.length → w0.heap.size ≤ y.bs p
  qn : y.q ≠ y.bn
  qb : y.q ≠ y.bb
  nb : y.bn ≠ y.bb
  qs : ∀ p, p < ps.length → y.bs p ≠ y.q ∧ y.bs p ≠ y.bn ∧ y.bs p ≠ y.bb
  ss : ∀ p p', p < ps.length → p' < ps.length → y.bs p = y.bs p' → p = p'
/-- What is right of a chart's grammar and word. -/
structure Rc (w0 : World) (t : Int) (n : Nat) (pv wv : Value) (ps : List Pd) (ws : List Int) : Prop where
  pds : Pds w0 pv ps
  wrd : Ints w0 wv ws
  okl : ∀ p ∈ ps, OkL t n p.2 ∧ 0 ≤ p.1 ∧ p.1 < (n : Int)
  pl : ps.length ≤ 40
  bl : ∀ p ∈ ps, p.2.length ≤ 8
  nl : 0 < n ∧ n ≤ 20
  wl : ws.length ≤ 20
theorem Ch.ps_lt {w0 : World} {y : Lay} {t : Int} {n : Nat} {pv wv : Value} {ps : List Pd} {ws : List Int} {op : Bool} {N : Tb} {B : Nat → Nat → Nat → Nat → Nat} {W : World} (h : Ch w0 y t n pv wv ps ws op N B W) : y.q < W.heap.size ∧ y.bn < W.heap.size ∧ y.bb < W.heap.size := ⟨heap_lt3 h.box, h.nons.lt, h.bods.lt⟩
theorem Ch.next {w0 : World} {y : Lay} {t : Int} {n : Nat} {pv wv : Value} {ps : List Pd} {ws : List Int} {op : Bool} {N : Tb} {B : Nat → Nat → Nat → Nat → Nat} {W W' : World} (h : Ch w0 y t n pv wv ps ws op N B W) (hb : Below W.heap.size W W') : Ch w0 y t n pv wv ps ws op N B W' :=
  ⟨h.bel.trans (hb.mono h.bel.size), (hb.block _ (heap_lt3 h.box)).trans h.box, h.nons.of_block (hb.block _ h.nons.lt), h.bods.of_block (hb.block _ h.bods.lt), fun p hp => (h.body p hp).of_block (hb.block _ (h.body p hp).lt), h.oq, h.on, h.ob, h.os, h.qn, h.qb, h.nb, h.qs, h.ss⟩
theorem Ch.bcell {w0 : World} {y : Lay} {t : Int} {n : Nat} {pv wv : Value} {ps : List Pd} {ws : List Int} {op : Bool} {N : Tb} {B : Nat → Nat → Nat → Nat → Nat} {W : World} (h : Ch w0 y t n pv wv ps ws op N B W) (i : Nat) : W.cell? ⟨y.q, i, none⟩ = (#[.int .i64 t, .int .i64 (n : Int), pv, wv, .bool op, .slice (some ⟨y.bn, 0, none⟩) n n, .slice (some ⟨y.bb, 0, none⟩) ps.length ps.length] : Array Value)[i]? := tcell_blk h.box i
theorem Ch.ncell {w0 : World} {y : Lay} {t : Int} {n : Nat} {pv wv : Value} {ps : List Pd} {ws : List Int} {op : Bool} {N : Tb} {B : Nat → Nat → Nat → Nat → Nat} {W : World} (h : Ch w0 y t n pv wv ps ws op N B W) {a i j : Nat} (ha : a < n) (hi : i < 21) (hj : j < 21) : W.cell? ⟨y.bn, a * 441 + i * 21 + j, none⟩ = some (.int .u8 ((N (a : Int) i j : Nat) : Int)) := by
  have := h.nons.cell (i := a * 441 + i * 21 + j) (by omega)
  rw [this]
  obtain ⟨e1, e2, e3⟩ := at_cell (a := a) hi hj
  unfold nf; rw [e1, e2, e3]
theorem Ch.scell {w0 : World} {y : Lay} {t : Int} {n : Nat} {pv wv : Value} {ps : List Pd} {ws : List Int} {op : Bool} {N : Tb} {B : Nat → Nat → Nat → Nat → Nat} {W : World} (h : Ch w0 y t n pv wv ps ws op N B W) {p k i j : Nat} (hp : p < ps.length) (hk : k < (ps.getD p (0, [])).2.length + 1) (hi : i < 21) (hj : j < 21) : W.cell? ⟨y.bs p, k * 441 + i * 21 + j, none⟩ = some (.int .u8 ((B p k i j : Nat) : Int)) := by
  have := (h.body p hp).cell (i := k * 441 + i * 21 + j) (by omega)
  rw [this]
  obtain ⟨e1, e2, e3⟩ := at_cell (a := k) hi hj
  unfold bf; rw [e1, e2, e3]

set_option maxHeartbeats 1600000 in
set_option maxRecDepth 20000 in
theorem plus_any (a b : Nat) (ha : a ≤ 4) (hb : b ≤ 4) (w : World) :
    Calls Try.prog 111 #[.int .u8 (a : Int), .int .u8 (b : Int)] w fun e w' => e = .returned (.int .u8 ((min 2 (a + b) : Nat) : Int)) ∧ Below w.heap.size w w' := by
  obtain ⟨r, HR⟩ : ∃ r, Hid (((min 2 (a + b) : Nat) : Int) = r) := ⟨_, (rfl : _ = _)⟩
  rw [HR.out]
  have h1 : IntKind.u8.wrap ((a : Int) + (b : Int)) = (a : Int) + (b : Int) := by simp [IntKind.wrap, IntKind.bits, IntKind.signed]; omega
  go_enter Try.func111, Try.ntmps111
  go_wp2_with fail
  all_goals go_ret
  all_goals refine ⟨?_, Below.refl _ _⟩
  all_goals rw [← HR.out]
  all_goals first | (congr 3; omega) | (rw [h1]; congr 3; omega) | (show Ending.returned (Value.int IntKind.u8 _) = _; congr 2; omega)
end Go.Proofs.Ytpfehghicaaghaa

namespace Go.Proofs.Ytpfehghicaaghaa
open Go.RowKit
open Cg

theorem Ints.cell {w : World} {ao : Option Addr} {k c : Nat} {l : List Int} (h : Ints w (.slice ao k c) l) {i : Nat} (hi : i < l.length) : ∃ b o, ao = some ⟨b, o, none⟩ ∧ b < w.heap.size ∧ w.cell? ⟨b, o + i, none⟩ = some (.int .i64 (l[i])) := by
  obtain ⟨ao', cap, hv, hm, h | ⟨b, o, h1, h2, h3⟩⟩ := h
  · subst h; simp at hi
  · injection hv with e1 e2 e3
    subst e1
    exact ⟨b, o, h1, h2, h3 i hi⟩

set_option maxHeartbeats 4000000 in
set_option maxRecDepth 20000 in
theorem of_any (w0 : World) (y : Lay) (t : Int) (n : Nat) (pv wv : Value) (ps : List Pd) (ws : List Int) (op : Bool) (N : Tb) (B : Nat → Nat → Nat → Nat → Nat) (w : World) (rc : Rc w0 t n pv wv ps ws) (h : Ch w0 y t n pv wv ps ws op N B w) (s0 s1 : Int) (hs : (s0 = 1 ∧ 0 ≤ s1 ∧ s1 < t) ∨ (s0 = 2 ∧ 0 ≤ s1 ∧ s1 < (n : Int))) (i j : Nat) (hij : i ≤ j) (hj : j ≤ ws.length) :
    Calls Try.prog 112 #[.pointer (some ⟨y.q, 0, none⟩), .agg #[.int .i64 s0, .int .i64 s1], .int .i64 (i : Int), .int .i64 (j : Int)] w fun e w' => e = .returned (.int .u8 ((on1 (lf op ws) N (s0, s1) i j : Nat) : Int)) ∧ Below w.heap.size w w' := by
  obtain ⟨r, HR⟩ : ∃ r, Hid (((on1 (lf op ws) N (s0, s1) i j : Nat) : Int) = r) := ⟨_, (rfl : _ = _)⟩
  rw [HR.out]
  have hwl := rc.wl
  obtain ⟨wao, wc, rfl, hwm, -⟩ := id rc.wrd
  have HI : Hid (Ints w0 (.slice wao ws.length wc) ws) := rc.wrd
  have hch : Ch w0 y t n pv (.slice wao ws.length wc) ps ws op N B (w.alloc (Obj.cells #[.int .i64 s0, .int .i64 s1] 47)) := h.next (below_alloc _ _)
  have HB0 : Hid (Below w.heap.size w (w.alloc (Obj.cells #[.int .i64 s0, .int .i64 s1] 47))) := below_alloc _ _
  have g0 := cell_new w #[.int .i64 s0, .int .i64 s1] 47
  obtain ⟨wb, HWB⟩ : ∃ wb, Hid (w.alloc (Obj.cells #[.int .i64 s0, .int .i64 s1] 47) = wb) := ⟨_, (rfl : _ = _)⟩
  rw [HWB.out] at hch g0 HB0
  have y0 : wb.cell? ⟨w.heap.size, 0, none⟩ = some (.int .i64 s0) := g0 0
  have y1 : wb.cell? ⟨w.heap.size, 1, none⟩ = some (.int .i64 s1) := g0 1
  have z3 : wb.cell? ⟨y.q, 3, none⟩ = some (.slice wao ws.length wc) := hch.bcell 3
  have z4 : wb.cell? ⟨y.q, 4, none⟩ = some (.bool op) := hch.bcell 4
  have z5 : wb.cell? ⟨y.q, 5, none⟩ = some (.slice (some ⟨y.bn, 0, none⟩) n n) := hch.bcell 5
  have HC : Hid (Ch w0 y t n pv (.slice wao ws.length wc) ps ws op N B wb) := hch
  clear hch g0 h rc
  rcases hs with ⟨rfl, h0, h1⟩ | ⟨rfl, h0, h1⟩
  · have HR2 : Hid (r = if lf op ws s1 i j then 1 else 0) := by
      show _ = _
      rw [← HR.out]; unfold on1
      rw [if_neg (by show ¬ (1 : Int) = 2; decide)]
      split <;> rfl
    clear HR
    have HL : Hid (lf op ws s1 i j = (decide (j = i + 1 ∧ ws[i]? = some s1) || (op && decide (i = ws.length)))) := by
      show _ = _
      unfold lf
      cases op
      · simp [leafC]
      · simp only [if_true, leafO]
        by_cases e1 : i = ws.length
        · have : j = ws.length := by omega
          simp [e1, this]
        · simp [e1]
    skip
    by_cases h2 : j = i + 1
    · have hi : i < ws.length := by omega
      obtain ⟨b, o, rfl, hb, hc⟩ := HI.out.cell hi
      have hc2 : wb.cell? ⟨b, o + i, none⟩ = some (.int .i64 ws[i]) := (HC.out.bel.cell (p := ⟨b, o + i, none⟩) hb).trans hc
      have hi2 : (i : Int) < (ws.length : Int) := by omega
      obtain ⟨x, HX⟩ : ∃ x, Hid (ws[i] = x) := ⟨_, (rfl : ws[i] = ws[i])⟩
      have HL2 : Hid (lf op ws s1 i j = decide (x = s1)) := by
        show _ = _
        rw [HL.out]
        have : (decide (i = ws.length)) = false := by simp; omega
        rw [this, Bool.and_false, Bool.or_false, List.getElem?_eq_getElem hi, HX.out]
        simp [h2]
      rw [HX.out] at hc2
      subst h2
      clear hc HI HL
      have hg : ((i : Int) + 1 == ((i + 1 : Nat) : Int)) = true := by simp
      by_cases h3 : x = s1
      · subst h3
        obtain rfl : r = 1 := by rw [HR2.out, HL2.out]; simp
        go_enter Try.func112, Try.ntmps112
        go_wp2_with fail
        rw [HWB.out]
        go_wp2_with (go_quiet (fail))
        go_ret
        exact ⟨rfl, HB0.out.trans ⟨rfl, rfl, rfl, Nat.le_refl _, fun _ _ => rfl⟩⟩
      · have hb3 : (x == s1) = false := by simp; exact h3
        have hb4 : ((i : Int) == (ws.length : Int)) = false := by simp; omega
        obtain rfl : r = 0 := by rw [HR2.out, HL2.out]; simp [h3]
        go_enter Try.func112, Try.ntmps112
        go_wp2_with fail
        rw [HWB.out]
        clear HWB
        cases op
        all_goals
          go_wp2_with (go_quiet (fail))
          go_ret
          exact ⟨rfl, HB0.out.trans ⟨rfl, rfl, rfl, Nat.le_refl _, fun _ _ => rfl⟩⟩
    · have hg : ((i : Int) + 1 == (j : Int)) = false := by simp; omega
      have HL2 : Hid (lf op ws s1 i j = (op && decide (i = ws.length))) := by
        show _ = _
        rw [HL.out]; simp [h2]
      clear HI HL
      by_cases h3 : i = ws.length
      · have hb4 : ((i : Int) == (ws.length : Int)) = true := by simp; omega
        have HR3 : Hid (r = if op then 1 else 0) := by show _ = _; rw [HR2.out, HL2.out]; simp [h3]
        rw [← h3] at z3 hwm
        clear hb4
        have hj2 : i ≤ 20 := by omega
        have hj3 : j ≤ 20 := by omega
        clear hj hwl h3
        go_enter Try.func112, Try.ntmps112
        go_wp2_with fail
        rw [HWB.out]
        clear HWB
        cases op
        all_goals
          have hr := HR3.out
          simp at hr
          subst hr
          go_wp2_with (go_quiet (fail))
          go_ret
          exact ⟨rfl, HB0.out.trans ⟨rfl, rfl, rfl, Nat.le_refl _, fun _ _ => rfl⟩⟩
      · have hb4 : ((i : Int) == (ws.length : Int)) = false := by simp; omega
        obtain rfl : r = 0 := by rw [HR2.out, HL2.out]; simp [h3]
        go_enter Try.func112, Try.ntmps112
        go_wp2_with fail
        rw [HWB.out]
        clear HWB
        cases op
        all_goals
          go_wp2_with (go_quiet (fail))
          go_ret
          exact ⟨rfl, HB0.out.trans ⟨rfl, rfl, rfl, Nat.le_refl _, fun _ _ => rfl⟩⟩
  · obtain ⟨a, rfl⟩ : ∃ a : Nat, s1 = (a : Int) := ⟨s1.toNat, by omega⟩
    have ha : a < n := by omega
    have c0 := HC.out.ncell (i := i) (j := j) ha (by omega) (by omega)
    obtain rfl : r = ((N (a : Int) i j : Nat) : Int) := by rw [← HR.out]; unfold on1; rw [if_pos rfl]
    have hi2 : (i : Int) < 21 := by omega
    have hj2 : (j : Int) < 21 := by omega
    go_enter Try.func112, Try.ntmps112
    go_wp2_with fail
    rw [HWB.out]
    go_wp2_with (go_quiet (fail))
    go_ret
    exact ⟨rfl, HB0.out.trans ⟨rfl, rfl, rfl, Nat.le_refl _, fun _ _ => rfl⟩⟩
end Go.Proofs.Ytpfehghicaaghaa
