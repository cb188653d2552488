/-
  The plain mathematics of the smallest automaton: a state for each kind that is come to, numbered as they are first met.
-/
import Derived.Test.YtlgcggfenljdnaaMnKind
namespace Go.Proofs.Ytlgcggfenljdnaa.Dfa
variable {R : Nat → Nat → Int} {T K : Nat → Int} {n : Nat}

/-- The states that were met: of each kind one, the first one is 0. -/
structure Mt (n : Nat) (K : Nat → Int) (met : List Nat) : Prop where
  head : met.getD 0 0 = 0
  pos : 0 < met.length
  lt : ∀ i, i < met.length → met.getD i 0 < n
  one : ∀ i j, i < met.length → j < met.length → K (met.getD i 0) = K (met.getD j 0) → i = j
  live : ∀ i, 0 < i → i < met.length → K (met.getD i 0) ≠ -1
/-- The number of a state's kind. -/
def Nm (K : Nat → Int) (met : List Nat) (z p : Int) : Prop := (kof K z = -1 ∧ p = -1) ∨ (kof K z ≠ -1 ∧ ∃ i : Nat, i < met.length ∧ p = (i : Int) ∧ K (met.getD i 0) = kof K z)
theorem getD_left {met : List Nat} {z i : Nat} (h : i < met.length) : (met ++ [z]).getD i 0 = met.getD i 0 := by
  simp only [List.getD_eq_getElem?_getD]; rw [List.getElem?_append_left h]
theorem getD_last {met : List Nat} {z : Nat} : (met ++ [z]).getD met.length 0 = z := by simp
theorem Nm.more {met : List Nat} {z p : Int} (h : Nm K met z p) (x : Nat) : Nm K (met ++ [x]) z p := by
  rcases h with h | ⟨h0, i, h1, h2, h3⟩
  · exact Or.inl h
  · exact Or.inr ⟨h0, i, by simp; omega, h2, by rw [getD_left h1]; exact h3⟩
theorem Mt.start (hn : 0 < n) : Mt n K [0] :=
  ⟨rfl, by simp, fun i hi => by simp at hi; subst hi; simpa using hn, fun i j hi hj _ => by simp at hi hj; omega, fun i h0 hi => by simp at hi; omega⟩
theorem Mt.more {met : List Nat} (h : Mt n K met) {z : Nat} (hz : z < n) (hk : K z ≠ -1) (hno : ∀ i, i < met.length → K (met.getD i 0) ≠ K z) : Mt n K (met ++ [z]) := by
  have hp := h.pos
  refine ⟨by rw [getD_left hp]; exact h.head, by simp, fun i hi => ?_, fun i j hi hj e => ?_, fun i h0 hi => ?_⟩
  · by_cases e : i < met.length
    · rw [getD_left e]; exact h.lt i e
    · have : i = met.length := by simp at hi; omega
      subst this; rw [getD_last]; exact hz
  · simp at hi hj
    by_cases ei : i < met.length
    · by_cases ej : j < met.length
      · rw [getD_left ei, getD_left ej] at e; exact h.one i j ei ej e
      · have : j = met.length := by omega
        subst this; rw [getD_left ei, getD_last] at e; exact absurd e (hno i ei)
    · have : i = met.length := by omega
      subst this
      by_cases ej : j < met.length
      · rw [getD_left ej, getD_last] at e; exact absurd e.symm (hno j ej)
      · omega
  · by_cases e : i < met.length
    · rw [getD_left e]; exact h.live i h0 e
    · have : i = met.length := by simp at hi; omega
      subst this; rw [getD_last]; exact hk
theorem Mt.few {met : List Nat} (h : Mt n K met) : met.length ≤ n :=
  pig_le (f := fun i => met.getD i 0) (fun i hi => h.lt i hi) fun i j hi hj e => h.one i j hi hj (by rw [show met.getD i 0 = met.getD j 0 from e])
/-- How many states were met ahead of a place, the rows being read one behind the other. -/
def cn (F : Nat → Nat → Int) : Nat → Nat
  | 0 => 1
  | q + 1 => if F (q / 256) (q % 256) = (cn F q : Int) then cn F q + 1 else cn F q
theorem cn_congr {F G : Nat → Nat → Int} : ∀ q, (∀ p, p < q → F (p / 256) (p % 256) = G (p / 256) (p % 256)) → cn F q = cn G q
  | 0, _ => rfl
  | q + 1, h => by
    unfold cn
    rw [cn_congr q (fun p hp => h p (by omega)), h q (by omega)]
/-- The smallest automaton of an automaton. -/
structure Mi (n : Nat) (R : Nat → Nat → Int) (T : Nat → Int) (N : Nat) (F : Nat → Nat → Int) (U : Nat → Int) (K : Nat → Int) (met : List Nat) : Prop where
  kinds : Kinds n R T K
  mt : Mt n K met
  len : met.length = N
  rows : ∀ r b, r < N → b < 256 → Nm K met (R (met.getD r 0) b) (F r b)
  tags : ∀ r, r < N → U r = T (met.getD r 0)
  first : ∀ q, q < N * 256 → F (q / 256) (q % 256) ≤ (cn F q : Int)
  met_ : ∀ i, i < N → i < cn F (i * 256)
  all : cn F (N * 256) = N
theorem Kinds.step {x y : Int} (hr : rowsOk n R = true) (h : Kinds n R T K) (hx : At n x) (hy : At n y) (e : kof K x = kof K y) (b : UInt8) : kof K (step R x b) = kof K (step R y b) :=
  (h _ _ (at_step hr hx b) (at_step hr hy b)).2 fun l => by
    have := (h x y hx hy).1 e (b :: l)
    rwa [tg_cons, tg_cons] at this
theorem Kinds.tag {x y : Int} (h : Kinds n R T K) (hx : At n x) (hy : At n y) (e : kof K x = kof K y) : tagOf T x = tagOf T y := (h x y hx hy).1 e []
theorem kof_nat (s : Nat) : kof K (s : Int) = K s := by unfold kof; rw [if_neg (by omega)]; rfl
/-- A state of the smallest one stands for a state. -/
def Sim (K : Nat → Int) (met : List Nat) (p s : Int) : Prop := (p = -1 ∧ kof K s = -1) ∨ ∃ i : Nat, i < met.length ∧ p = (i : Int) ∧ K (met.getD i 0) = kof K s
theorem Mi.sim_step {N : Nat} {F : Nat → Nat → Int} {U : Nat → Int} {met : List Nat} (hr : rowsOk n R = true) (h : Mi n R T N F U K met) {p s : Int} (hs : At n s) (e : Sim K met p s) (b : UInt8) : Sim K met (step F p b) (step R s b) := by
  have none_at : At n (-1) := ⟨by omega, by omega⟩
  rcases e with ⟨rfl, e⟩ | ⟨i, hi, rfl, e⟩
  · left
    refine ⟨by simp [step], ?_⟩
    have := h.kinds.step hr hs none_at (by rw [e]; simp [kof]) b
    rw [this]; simp [step, kof]
  · have hm : At n ((met.getD i 0 : Nat) : Int) := ⟨by omega, by have := h.mt.lt i hi; omega⟩
    have h1 := h.kinds.step hr hm hs (by rw [kof_nat]; exact e) b
    have h2 : step R ((met.getD i 0 : Nat) : Int) b = R (met.getD i 0) b.toNat := by unfold step; rw [if_neg (by omega)]; rfl
    have h3 : step F (i : Int) b = F i b.toNat := by unfold step; rw [if_neg (by omega)]; rfl
    rw [h2] at h1
    rw [h3]
    rcases h.rows i b.toNat (by rw [← h.len]; exact hi) b.toNat_lt with ⟨g1, g2⟩ | ⟨-, j, g1, g2, g3⟩
    · exact Or.inl ⟨g2, by rw [← h1]; exact g1⟩
    · exact Or.inr ⟨j, g1, g2, by rw [g3, h1]⟩
theorem Mi.sim_tag {N : Nat} {F : Nat → Nat → Int} {U : Nat → Int} {met : List Nat} (h : Mi n R T N F U K met) {p s : Int} (hs : At n s) (e : Sim K met p s) : tagOf U p = tagOf T s := by
  rcases e with ⟨rfl, e⟩ | ⟨i, hi, rfl, e⟩
  · have := h.kinds.tag hs (y := -1) ⟨by omega, by omega⟩ (by rw [e]; simp [kof])
    rw [this]; simp [tagOf]
  · have hm : At n ((met.getD i 0 : Nat) : Int) := ⟨by omega, by have := h.mt.lt i hi; omega⟩
    have := h.kinds.tag hm hs (by rw [kof_nat]; exact e)
    rw [tagOf_nat] at this
    rw [tagOf_nat, h.tags i (by rw [← h.len]; exact hi), this]
theorem Mi.sim {N : Nat} {F : Nat → Nat → Int} {U : Nat → Int} {met : List Nat} (hr : rowsOk n R = true) (h : Mi n R T N F U K met) (l : List UInt8) : ∀ {p s : Int}, At n s → Sim K met p s → tg F U p l = tg R T s l := by
  induction l with
  | nil => intro p s hs e; exact h.sim_tag hs e
  | cons b l ih => intro p s hs e; rw [tg_cons, tg_cons]; exact ih (at_step hr hs b) (h.sim_step hr hs e b)
/-- The smallest one has the same tag of every text. -/
theorem Mi.means {N : Nat} {F : Nat → Nat → Int} {U : Nat → Int} {met : List Nat} (hr : rowsOk n R = true) (hn : 0 < n) (h : Mi n R T N F U K met) (l : List UInt8) : tg F U 0 l = tg R T 0 l :=
  h.sim hr l ⟨by omega, by omega⟩ (Or.inr ⟨0, h.mt.pos, rfl, by rw [h.mt.head]; exact (kof_nat (K := K) 0).symm⟩)
theorem Mi.few {N : Nat} {F : Nat → Nat → Int} {U : Nat → Int} {met : List Nat} (h : Mi n R T N F U K met) : 0 < N ∧ N ≤ n := ⟨by rw [← h.len]; exact h.mt.pos, by rw [← h.len]; exact h.mt.few⟩
theorem Mi.right {N : Nat} {F : Nat → Nat → Int} {U : Nat → Int} {met : List Nat} (hc : chk n n R T = 0) (h : Mi n R T N F U K met) : chk N N F U = 0 := by
  obtain ⟨h0, h1, -, h2, h3⟩ := chk_zero hc
  obtain ⟨g0, g1⟩ := h.few
  have hr : rowsOk N F = true := all_true fun i hi => all_true fun j hj => by
    rcases h.rows i j hi hj with ⟨-, e⟩ | ⟨-, q, q1, e, -⟩
    · rw [e]; simp [numOk]; omega
    · rw [e]; have := h.len; simp [numOk]; omega
  have ht : tagsOk N U = true := all_true fun i hi => by
    rw [h.tags i hi]
    exact all_at h3 _ (h.mt.lt i (by rw [h.len]; exact hi))
  unfold chk
  rw [if_neg (by omega), if_neg (by omega), if_pos ⟨hr, ht⟩]
end Go.Proofs.Ytlgcggfenljdnaa.Dfa
