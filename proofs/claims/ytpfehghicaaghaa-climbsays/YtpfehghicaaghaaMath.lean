/-
  Grammars, plainly: which are right (chk), the productions of a nonterminal (ofL), Bodies turned round (turn).
-/
namespace Go.Proofs.Ytpfehghicaaghaa
namespace Cg
abbrev Sy := Int × Int
abbrev Pd := Int × List Sy
def okN (n x : Int) : Bool := decide (0 ≤ x) && decide (x < n)
def okSy (t n : Int) (s : Sy) : Bool := if s.1 = 1 then okN t s.2 else if s.1 = 2 then okN n s.2 else false
def chkP (t n : Int) (p : Pd) : Int := if 8 < p.2.length then 2 else if okN n p.1 = true then (if p.2.all (okSy t n) = true then 0 else 1) else 1
def chkPs (t n : Int) : List Pd → Int
  | [] => 0
  | p :: ps => if chkP t n p = 0 then chkPs t n ps else chkP t n p
def okTN (t n : Int) : Bool := decide (0 ≤ t) && decide (t ≤ 30) && decide (1 ≤ n) && decide (n ≤ 20)
def chk (t n : Int) (ps : List Pd) : Int := if okTN t n = true then (if 40 < ps.length then 2 else chkPs t n ps) else 1
theorem chkPs_at {t n : Int} {ps : List Pd} (h : chkPs t n ps = 0) : ∀ p ∈ ps, chkP t n p = 0 := by
  induction ps with
  | nil => intro p hp; cases hp
  | cons q qs ih =>
    unfold chkPs at h
    split at h
    · rename_i h0
      intro p hp
      rcases List.mem_cons.1 hp with rfl | hp
      · exact h0
      · exact ih h p hp
    · rename_i h0; exact absurd h h0
theorem chkPs_of {t n : Int} {ps : List Pd} (h : ∀ p ∈ ps, chkP t n p = 0) : chkPs t n ps = 0 := by
  induction ps with
  | nil => rfl
  | cons q qs ih =>
    unfold chkPs
    rw [if_pos (h q (by simp))]
    exact ih fun p hp => h p (by simp [hp])
theorem chk_zero {t n : Int} {ps : List Pd} (h : chk t n ps = 0) : okTN t n = true ∧ ps.length ≤ 40 ∧ ∀ p ∈ ps, chkP t n p = 0 := by
  unfold chk at h
  split at h
  · rename_i h0
    split at h
    · omega
    · rename_i h1; exact ⟨h0, by omega, chkPs_at h⟩
  · omega
theorem chk_of {t n : Int} {ps : List Pd} (h0 : okTN t n = true) (h1 : ps.length ≤ 40) (h2 : ∀ p ∈ ps, chkP t n p = 0) : chk t n ps = 0 := by
  unfold chk; rw [if_pos h0, if_neg (by omega)]; exact chkPs_of h2
theorem chkP_zero {t n : Int} {p : Pd} (h : chkP t n p = 0) : p.2.length ≤ 8 ∧ okN n p.1 = true ∧ p.2.all (okSy t n) = true := by
  unfold chkP at h
  split at h
  · omega
  · rename_i h0
    split at h
    · rename_i h1
      split at h
      · rename_i h2; exact ⟨by omega, h1, h2⟩
      · omega
    · omega
theorem chkP_of {t n : Int} {p : Pd} (h0 : p.2.length ≤ 8) (h1 : okN n p.1 = true) (h2 : p.2.all (okSy t n) = true) : chkP t n p = 0 := by
  unfold chkP; rw [if_neg (by omega), if_pos h1, if_pos h2]
theorem okTN_le {t n : Int} (h : okTN t n = true) : 0 ≤ t ∧ t ≤ 30 ∧ 1 ≤ n ∧ n ≤ 20 := by
  unfold okTN at h; simp at h; omega
theorem okN_le {n x : Int} (h : okN n x = true) : 0 ≤ x ∧ x < n := by unfold okN at h; simp at h; omega
/-! Bodies turned round. -/
def turnP (p : Pd) : Pd := (p.1, p.2.reverse)
def turn (ps : List Pd) : List Pd := ps.map turnP
theorem turn_turn (ps : List Pd) : turn (turn ps) = ps := by
  unfold turn; rw [List.map_map]; conv => rhs; rw [← List.map_id ps]
  apply List.map_congr_left; intro p _; simp [turnP, Function.comp]
theorem turn_length (ps : List Pd) : (turn ps).length = ps.length := by simp [turn]
theorem turn_chkP {t n : Int} {p : Pd} (h : chkP t n p = 0) : chkP t n (turnP p) = 0 := by
  obtain ⟨h0, h1, h2⟩ := chkP_zero h
  exact chkP_of (by simpa [turnP] using h0) h1 (by simpa [turnP] using h2)
theorem turn_chk {t n : Int} {ps : List Pd} (h : chk t n ps = 0) : chk t n (turn ps) = 0 := by
  obtain ⟨h0, h1, h2⟩ := chk_zero h
  refine chk_of h0 (by rw [turn_length]; exact h1) fun p hp => ?_
  unfold turn at hp
  obtain ⟨q, hq, rfl⟩ := List.mem_map.1 hp
  exact turn_chkP (h2 q hq)
/-! The productions of a nonterminal. -/
def ofQ (ps : List Pd) (x : Int) (q : Nat) : List Int := ((List.range q).filter fun i => decide ((ps.getD i (0, [])).1 = x)).map fun (x : Nat) => (x : Int)
def ofL (ps : List Pd) (x : Int) : List Int := ofQ ps x ps.length
theorem ofQ_step (ps : List Pd) (x : Int) (q : Nat) (hq : q < ps.length) : ofQ ps x (q + 1) = ofQ ps x q ++ (if (ps[q]).1 = x then [(q : Int)] else []) := by
  have e : ps.getD q (0, []) = ps[q] := by rw [List.getD_eq_getElem?_getD, List.getElem?_eq_getElem hq]; rfl
  unfold ofQ
  rw [List.range_succ, List.filter_append, List.map_append]
  congr 1
  by_cases h : (ps[q]).1 = x
  · rw [if_pos h, List.filter_cons, e, if_pos (by simpa using h)]; rfl
  · rw [if_neg h, List.filter_cons, e, if_neg (by simpa using h)]; rfl
theorem ofQ_length (ps : List Pd) (x : Int) (q : Nat) : (ofQ ps x q).length ≤ q := by
  unfold ofQ; rw [List.length_map]; have := List.length_filter_le (fun i => decide ((ps.getD i (0, [])).1 = x)) (List.range q); simpa using this
theorem ofQ_mem {ps : List Pd} {x z : Int} {q : Nat} (hq : q ≤ ps.length) (h : z ∈ ofQ ps x q) : ∃ (y : Nat) (hy : y < ps.length), z = (y : Int) ∧ (ps[y]).1 = x := by
  unfold ofQ at h
  simp only [List.mem_map, List.mem_filter, List.mem_range] at h
  obtain ⟨y, ⟨h1, h2⟩, rfl⟩ := h
  refine ⟨y, by omega, rfl, ?_⟩
  rw [List.getD_eq_getElem?_getD, List.getElem?_eq_getElem (by omega)] at h2
  simpa using h2
/-- How many productions the nonterminals below k have. -/
def cntT (ps : List Pd) (q : Nat) : Nat → Nat
  | 0 => 0
  | k + 1 => cntT ps q k + (ofQ ps (k : Int) q).length
theorem cntT_zero (ps : List Pd) (k : Nat) : cntT ps 0 k = 0 := by
  induction k with
  | zero => rfl
  | succ k ih => unfold cntT; rw [ih]; rfl
theorem cntT_step (ps : List Pd) (q k : Nat) (hq : q < ps.length) : cntT ps (q + 1) k = cntT ps q k + (if 0 ≤ (ps[q]).1 ∧ (ps[q]).1 < (k : Int) then 1 else 0) := by
  induction k with
  | zero => rw [if_neg (by omega)]; rfl
  | succ k ih =>
    unfold cntT
    rw [ih, ofQ_step ps k q hq, List.length_append]
    by_cases h : (ps[q]).1 = (k : Int)
    · rw [if_pos h, if_neg (by omega), if_pos (by omega)]; simp; omega
    · rw [if_neg h]
      by_cases h2 : 0 ≤ (ps[q]).1 ∧ (ps[q]).1 < (k : Int)
      · rw [if_pos h2, if_pos (by omega)]; simp; omega
      · rw [if_neg h2, if_neg (by omega)]; simp
theorem cntT_all (ps : List Pd) (k : Nat) (h : ∀ p ∈ ps, 0 ≤ p.1 ∧ p.1 < (k : Int)) : ∀ q, q ≤ ps.length → cntT ps q k = q := by
  intro q
  induction q with
  | zero => intro _; exact cntT_zero ps k
  | succ q ih =>
    intro hq
    rw [cntT_step ps q k (by omega), ih (by omega), if_pos (h _ (List.getElem_mem _))]
theorem cntT_le (ps : List Pd) (q k : Nat) : cntT ps q k ≤ q * k := by
  induction k with
  | zero => simp [cntT]
  | succ k ih => unfold cntT; have := ofQ_length ps (k : Int) q; rw [Nat.mul_succ]; omega
end Cg
end Go.Proofs.Ytpfehghicaaghaa
