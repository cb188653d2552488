/-
  Trees of words, plainly: what is wrong with one first (thr), which have the right form (sh), their leaves, events and words.
-/
import Derived.Test.YtpfehghicaaghaaMath
namespace Go.Proofs.Ytpfehghicaaghaa
namespace Cg

/-- A tree as it is handed in. -/
inductive T where
  | mk (p k : Int) (kids : List T)
def T.p : T → Int | .mk p _ _ => p
def T.k : T → Int | .mk _ k _ => k
def T.kids : T → List T | .mk _ _ l => l
abbrev Ev := Int × Int
mutual
def T.sz : T → Nat
  | .mk _ _ l => szL l + 1
def szL : List T → Nat
  | [] => 0
  | t :: l => t.sz + szL l
end
mutual
def T.ht : T → Nat
  | .mk _ _ l => htL l + 1
def htL : List T → Nat
  | [] => 0
  | t :: l => max t.ht (htL l)
end
mutual
def evD : T → List Ev
  | .mk p k l => if p = -1 then [(2, k)] else (1, p) :: (evDL l ++ [(3, p)])
def evDL : List T → List Ev
  | [] => []
  | t :: l => evD t ++ evDL l
end
mutual
def evU : T → List Ev
  | .mk p k l => if p = -1 then [(2, k)] else evUL l ++ [(4, p)]
def evUL : List T → List Ev
  | [] => []
  | t :: l => evU t ++ evUL l
end
mutual
def tk : T → List Int
  | .mk p k l => if p = -1 then [k] else tkL l
def tkL : List T → List Int
  | [] => []
  | t :: l => tk t ++ tkL l
end
theorem szL_mem {s : T} : ∀ {l : List T}, s ∈ l → s.sz ≤ szL l
  | t :: l, h => by
    rw [szL]
    rcases List.mem_cons.1 h with rfl | h
    · omega
    · have := szL_mem h; omega
theorem T.sz_lt {t s : T} (h : s ∈ t.kids) : s.sz < t.sz := by
  cases t with
  | mk p k l => have := szL_mem (l := l) h; rw [T.sz]; omega
theorem T.sz_pos (t : T) : 0 < t.sz := by cases t; rw [T.sz]; omega
theorem evDL_append (a b : List T) : evDL (a ++ b) = evDL a ++ evDL b := by
  induction a with
  | nil => rfl
  | cons t a ih => simp [evDL, ih]
theorem evUL_append (a b : List T) : evUL (a ++ b) = evUL a ++ evUL b := by
  induction a with
  | nil => rfl
  | cons t a ih => simp [evUL, ih]
theorem tkL_append (a b : List T) : tkL (a ++ b) = tkL a ++ tkL b := by
  induction a with
  | nil => rfl
  | cons t a ih => simp [tkL, ih]
theorem szL_append (a b : List T) : szL (a ++ b) = szL a + szL b := by
  induction a with
  | nil => simp [szL]
  | cons t a ih => simp [szL, ih]; omega

def bodyOf (ps : List Pd) (p : Int) : List Sy := (ps.getD p.toNat (0, [])).2
def headOf (ps : List Pd) (p : Int) : Int := (ps.getD p.toNat (0, [])).1
def isPr (ps : List Pd) (p : Int) : Bool := decide (0 ≤ p) && decide (p < (ps.length : Int))
def isOf (ps : List Pd) (p : Int) (s : Sy) : Bool := if s.1 = 1 then decide (p = -1) else isPr ps p && decide (headOf ps p = s.2)
def may (ps : List Pd) (p k : Int) (nk : Nat) (s : Sy) (nw : Nat) : Bool := isOf ps p s && (if s.1 = 1 then decide (k = (nw : Int)) && decide (nk = 0) else decide (k = 0) && decide (nk = (bodyOf ps p).length))
theorem isPr_le {ps : List Pd} {p : Int} (h : isPr ps p = true) : 0 ≤ p ∧ p < (ps.length : Int) := by
  unfold isPr at h; simp at h; omega
mutual
/-- What is wrong first; how many nodes have been met, and the word so far. -/
def thr (ps : List Pd) : T → Sy → Nat → Nat → List Int → Nat × Nat × List Int
  | .mk p k l, s, d, n, ws => if 1000 < n + 1 then (2, n + 1, ws) else if 100 < d then (7, n + 1, ws) else if may ps p k l.length s ws.length = true then (if s.1 = 1 then (0, n + 1, ws ++ [s.2]) else thrL ps l (bodyOf ps p) (d + 1) (n + 1) ws) else (4, n + 1, ws)
def thrL (ps : List Pd) : List T → List Sy → Nat → Nat → List Int → Nat × Nat × List Int
  | [], _, _, n, ws => (0, n, ws)
  | t :: l, ss, d, n, ws => if (thr ps t (ss.headD (0, 0)) d n ws).1 = 0 then thrL ps l ss.tail d (thr ps t (ss.headD (0, 0)) d n ws).2.1 (thr ps t (ss.headD (0, 0)) d n ws).2.2 else thr ps t (ss.headD (0, 0)) d n ws
end
theorem thrL_cons (ps : List Pd) (t : T) (l : List T) (s : Sy) (ss : List Sy) (d n : Nat) (ws : List Int) : thrL ps (t :: l) (s :: ss) d n ws = if (thr ps t s d n ws).1 = 0 then thrL ps l ss d (thr ps t s d n ws).2.1 (thr ps t s d n ws).2.2 else thr ps t s d n ws := by
  rw [thrL]; rfl
theorem thrL_snoc (ps : List Pd) (l : List T) (t : T) (d : Nat) : ∀ (ss : List Sy) n ws, thrL ps (l ++ [t]) ss d n ws = if (thrL ps l ss d n ws).1 = 0 then thr ps t (ss.getD l.length (0, 0)) d (thrL ps l ss d n ws).2.1 (thrL ps l ss d n ws).2.2 else thrL ps l ss d n ws := by
  induction l with
  | nil =>
    intro ss n ws
    have e : ss.headD (0, 0) = ss.getD 0 (0, 0) := by cases ss <;> rfl
    simp only [List.nil_append, thrL, if_true, List.length_nil, e]
    split
    · rename_i h
      generalize thr ps t (ss.getD 0 (0, 0)) d n ws = r at h ⊢
      obtain ⟨r0, r1, r2⟩ := r
      simp only at h; subst h; rfl
    · rfl
  | cons u l ih =>
    intro ss n ws
    have e : ss.getD (l.length + 1) (0, 0) = ss.tail.getD l.length (0, 0) := by cases ss <;> simp
    simp only [List.cons_append, thrL, List.length_cons, e]
    split
    · rw [ih]
    · rename_i h; first | rfl | rw [if_neg h]
theorem thrL_stop (ps : List Pd) (l m : List T) (d : Nat) : ∀ (ss : List Sy) n ws, (thrL ps l ss d n ws).1 ≠ 0 → thrL ps (l ++ m) ss d n ws = thrL ps l ss d n ws := by
  induction l with
  | nil => intro ss n ws h; simp [thrL] at h
  | cons u l ih =>
    intro ss n ws h
    simp only [List.cons_append, thrL] at h ⊢
    split
    · rename_i h0
      rw [if_pos h0] at h
      exact ih _ _ _ h
    · rfl
mutual
/-- The right form for a symbol. -/
def sh (ps : List Pd) : T → Sy → Bool
  | .mk p k l, s => if s.1 = 1 then decide (p = -1) && l.isEmpty else isPr ps p && decide (headOf ps p = s.2) && decide (k = 0) && shL ps l (bodyOf ps p)
def shL (ps : List Pd) : List T → List Sy → Bool
  | [], ss => ss.isEmpty
  | t :: l, ss => !ss.isEmpty && sh ps t (ss.headD (0, 0)) && shL ps l ss.tail
end
mutual
def yl (ps : List Pd) : T → Sy → List Int
  | .mk p _ l, s => if s.1 = 1 then [s.2] else ylL ps l (bodyOf ps p)
def ylL (ps : List Pd) : List T → List Sy → List Int
  | [], _ => []
  | t :: l, ss => yl ps t (ss.headD (0, 0)) ++ ylL ps l ss.tail
end
def nums (a m : Nat) : List Int := (List.range m).map fun i => ((a + i : Nat) : Int)
theorem nums_length (a m : Nat) : (nums a m).length = m := by simp [nums]
theorem nums_append (a m n : Nat) : nums a (m + n) = nums a m ++ nums (a + m) n := by
  unfold nums
  rw [List.range_add, List.map_append, List.map_map]
  congr 1
  apply List.map_congr_left; intro i _; simp; omega
theorem nums_one (a : Nat) : nums a 1 = [(a : Int)] := by simp [nums]
theorem nums_split {x y : List Int} {a : Nat} (h : x ++ y = nums a (x ++ y).length) : x = nums a x.length ∧ y = nums (a + x.length) y.length := by
  rw [List.length_append, nums_append] at h
  exact List.append_inj h (by rw [nums_length])
theorem nums_join {x y : List Int} {a : Nat} (h : x = nums a x.length) (h2 : y = nums (a + x.length) y.length) : x ++ y = nums a (x ++ y).length := by
  rw [List.length_append, nums_append, ← h, ← h2]
theorem shL_length {ps : List Pd} : ∀ {l : List T} {ss : List Sy}, shL ps l ss = true → l.length = ss.length
  | [], ss, h => by rw [shL] at h; simp at h; subst h; rfl
  | t :: l, [], h => by rw [shL] at h; simp at h
  | t :: l, s :: ss, h => by
    rw [shL] at h; simp at h
    have := shL_length h.2
    simp [this]
mutual
theorem thr_fwd {ps : List Pd} : ∀ {t : T} {s : Sy} {d n n' : Nat} {ws ws' : List Int}, thr ps t s d n ws = (0, n', ws') → sh ps t s = true ∧ tk t = nums ws.length (tk t).length ∧ n' = n + t.sz ∧ n' ≤ 1000 ∧ d + t.ht ≤ 101 ∧ ws' = ws ++ yl ps t s ∧ (tk t).length = (yl ps t s).length
  | .mk p k l, s, d, n, n', ws, ws', h => by
    rw [thr] at h
    split at h
    · cases h
    · rename_i h1
      split at h
      · cases h
      · rename_i h2
        split at h
        · rename_i h3
          unfold may isOf at h3
          rw [sh, tk, T.sz, T.ht, yl]
          by_cases h4 : s.1 = 1
          · rw [if_pos h4] at h
            simp only [h4, if_true] at h3 ⊢
            simp at h3
            obtain ⟨rfl, rfl, rfl⟩ := h3
            simp at h
            obtain ⟨rfl, rfl⟩ := h
            simp [szL, htL, nums_one]
            omega
          · rw [if_neg h4] at h
            simp only [h4, if_false] at h3 ⊢
            simp at h3
            obtain ⟨⟨h5, h6⟩, rfl, h7⟩ := h3
            have hp : p ≠ -1 := by have := isPr_le h5; omega
            obtain ⟨g1, g2, g3, g4, g5, g6, g7⟩ := thrL_fwd h7 (by omega) (by omega) h
            simp only [hp, if_false]
            refine ⟨by simp [h5, h6, g1], g2, by omega, g4, by omega, g6, g7⟩
        · cases h
theorem thrL_fwd {ps : List Pd} : ∀ {l : List T} {ss : List Sy} {d n n' : Nat} {ws ws' : List Int}, l.length = ss.length → n ≤ 1000 → d ≤ 101 → thrL ps l ss d n ws = (0, n', ws') → shL ps l ss = true ∧ tkL l = nums ws.length (tkL l).length ∧ n' = n + szL l ∧ n' ≤ 1000 ∧ d + htL l ≤ 101 ∧ ws' = ws ++ ylL ps l ss ∧ (tkL l).length = (ylL ps l ss).length
  | [], ss, d, n, n', ws, ws', hl, hn, hd, h => by
    rw [thrL] at h
    simp at h
    obtain ⟨rfl, rfl⟩ := h
    have : ss = [] := List.length_eq_zero_iff.1 hl.symm
    subst this
    simp [shL, tkL, szL, htL, ylL, nums]
    omega
  | t :: l, [], d, n, n', ws, ws', hl, hn, hd, h => by simp at hl
  | t :: l, s :: ss, d, n, n', ws, ws', hl, hn, hd, h => by
    rw [thrL_cons] at h
    by_cases h0 : (thr ps t s d n ws).1 = 0
    · rw [if_pos h0] at h
      obtain ⟨a, b, c⟩ : ∃ a b, thr ps t s d n ws = (0, a, b) := ⟨_, _, by rw [← h0]⟩
      rw [c] at h
      obtain ⟨g1, g2, g3, g4, g5, g6, g7⟩ := thr_fwd c
      obtain ⟨k1, k2, k3, k4, k5, k6, k7⟩ := thrL_fwd (by simpa using hl) g4 hd h
      rw [shL, tkL, szL, htL, ylL]
      simp only [List.headD_cons, List.tail_cons]
      refine ⟨by simp [g1, k1], ?_, by omega, k4, by omega, by rw [k6, g6, List.append_assoc], by simp [g7, k7]⟩
      refine nums_join g2 ?_
      rw [g6, List.length_append, ← g7] at k2
      exact k2
    · rw [if_neg h0] at h
      rw [h] at h0
      exact absurd rfl h0
end
mutual
theorem thr_bwd {ps : List Pd} : ∀ {t : T} {s : Sy} {d n : Nat} {ws : List Int}, sh ps t s = true → tk t = nums ws.length (tk t).length → n + t.sz ≤ 1000 → d + t.ht ≤ 101 → thr ps t s d n ws = (0, n + t.sz, ws ++ yl ps t s) ∧ (tk t).length = (yl ps t s).length
  | .mk p k l, s, d, n, ws, h, htk, hs, hh => by
    rw [T.sz] at hs
    rw [T.ht] at hh
    rw [thr, if_neg (by omega), if_neg (by omega)]
    rw [sh] at h
    rw [tk] at htk
    rw [T.sz, yl, tk]
    unfold may isOf
    by_cases h4 : s.1 = 1
    · simp only [h4, if_true] at h ⊢
      simp at h
      obtain ⟨rfl, rfl⟩ := h
      simp [nums_one] at htk
      simp [htk, szL]
    · simp only [h4, if_false] at h ⊢
      simp at h
      obtain ⟨⟨⟨h5, h6⟩, rfl⟩, h7⟩ := h
      have hp : p ≠ -1 := by have := isPr_le h5; omega
      simp only [hp, if_false] at htk ⊢
      have hl := shL_length h7
      obtain ⟨g1, g2⟩ := thrL_bwd (d := d + 1) (n := n + 1) h7 htk (by omega) (by omega)
      rw [g1]
      simp [h5, h6, hl, g2]
      omega
theorem thrL_bwd {ps : List Pd} : ∀ {l : List T} {ss : List Sy} {d n : Nat} {ws : List Int}, shL ps l ss = true → tkL l = nums ws.length (tkL l).length → n + szL l ≤ 1000 → d + htL l ≤ 101 → thrL ps l ss d n ws = (0, n + szL l, ws ++ ylL ps l ss) ∧ (tkL l).length = (ylL ps l ss).length
  | [], ss, d, n, ws, h, htk, hs, hh => by simp [thrL, szL, ylL, tkL]
  | t :: l, [], d, n, ws, h, htk, hs, hh => by rw [shL] at h; simp at h
  | t :: l, s :: ss, d, n, ws, h, htk, hs, hh => by
    rw [shL] at h
    simp at h
    rw [tkL] at htk
    obtain ⟨q1, q2⟩ := nums_split htk
    rw [szL] at hs
    rw [htL] at hh
    obtain ⟨g1, g2⟩ := thr_bwd (d := d) (n := n) h.1 q1 (by omega) (by omega)
    obtain ⟨k1, k2⟩ := thrL_bwd (d := d) (n := n + t.sz) (ws := ws ++ yl ps t s) h.2 (by rw [List.length_append, ← g2]; exact q2) (by omega) (by omega)
    rw [thrL, szL, ylL, tkL]
    simp only [List.headD_cons, List.tail_cons, g1, k1, if_true]
    simp [g2, k2]
    omega
end
/-! A tree's form is told by the symbol alone. -/
theorem sh_leaf {ps : List Pd} {t : T} {s : Sy} (h : sh ps t s = true) : (t.p = -1 ↔ s.1 = 1) := by
  obtain ⟨p, k, l⟩ := t
  rw [sh] at h
  by_cases h4 : s.1 = 1
  · simp [h4] at h; simp [T.p, h4, h.1]
  · simp only [h4, if_false] at h
    simp at h
    have := isPr_le h.1.1.1
    simp [T.p, h4]; omega
theorem sh_neg {ps : List Pd} {t : T} {s : Sy} (h : sh ps t s = true) : (t.p < 0 ↔ s.1 = 1) := by
  obtain ⟨p, k, l⟩ := t
  rw [sh] at h
  by_cases h4 : s.1 = 1
  · simp [h4] at h; simp [T.p, h4, h.1]
  · simp only [h4, if_false] at h
    simp at h
    have := isPr_le h.1.1.1
    simp [T.p, h4]; omega
theorem sh_node {ps : List Pd} {p k : Int} {l : List T} {s : Sy} (h : sh ps (.mk p k l) s = true) (h4 : s.1 ≠ 1) : isPr ps p = true ∧ headOf ps p = s.2 ∧ k = 0 ∧ shL ps l (bodyOf ps p) = true := by
  rw [sh] at h
  simp only [h4, if_false] at h
  simp at h
  exact ⟨h.1.1.1, h.1.1.2, h.1.2, h.2⟩
theorem sh_of_node {ps : List Pd} {p : Int} {l : List T} {s : Sy} (h4 : s.1 ≠ 1) (h1 : isPr ps p = true) (h2 : headOf ps p = s.2) (h3 : shL ps l (bodyOf ps p) = true) : sh ps (.mk p 0 l) s = true := by
  rw [sh]; simp [h4, h1, h2, h3]
theorem sh_of_leaf {ps : List Pd} {k : Int} {s : Sy} (h4 : s.1 = 1) : sh ps (.mk (-1) k []) s = true := by
  rw [sh]; simp [h4]
theorem sh_is_leaf {ps : List Pd} {t : T} {s : Sy} (h : sh ps t s = true) (h4 : s.1 = 1) : t = .mk (-1) t.k [] := by
  obtain ⟨p, k, l⟩ := t
  rw [sh] at h; simp [h4] at h
  obtain ⟨rfl, rfl⟩ := h; rfl
theorem shL_at {ps : List Pd} : ∀ {l : List T} {ss : List Sy}, shL ps l ss = true → ∀ i (hi : i < l.length), sh ps l[i] (ss.getD i (0, 0)) = true
  | [], _, _ => fun i hi => absurd hi (Nat.not_lt_zero _)
  | t :: l, [], h => by rw [shL] at h; simp at h
  | t :: l, s :: ss, h => by
    rw [shL] at h; simp at h
    intro i hi
    cases i with
    | zero => exact h.1
    | succ i => simpa using shL_at h.2 i (by simpa using hi)
theorem shL_snoc {ps : List Pd} {t : T} {s : Sy} : ∀ {l : List T} {ss : List Sy}, shL ps l ss = true → sh ps t s = true → shL ps (l ++ [t]) (ss ++ [s]) = true
  | [], ss, h, h2 => by
    rw [shL] at h; simp at h; subst h
    simp [shL, h2]
  | u :: l, [], h, h2 => by rw [shL] at h; simp at h
  | u :: l, s' :: ss, h, h2 => by
    rw [shL] at h; simp at h
    have := shL_snoc h.2 h2
    simp [shL, h.1, this]
theorem shL_cons {ps : List Pd} {t : T} {s : Sy} {l : List T} {ss : List Sy} (h1 : sh ps t s = true) (h : shL ps l ss = true) : shL ps (t :: l) (s :: ss) = true := by
  rw [shL]; simp [h1, h]
/-! How long the events are. -/
mutual
theorem ev_len : ∀ (t : T), (evD t).length + (tk t).length = 2 * (evU t).length ∧ (evU t).length ≤ t.sz
  | .mk p k l => by
    rw [evD, evU, tk, T.sz]
    have := evL_len l
    split
    · simp
    · simp; omega
theorem evL_len : ∀ (l : List T), (evDL l).length + (tkL l).length = 2 * (evUL l).length ∧ (evUL l).length ≤ szL l
  | [] => by simp [evDL, evUL, tkL, szL]
  | t :: l => by
    have h1 := ev_len t
    have h2 := evL_len l
    rw [evDL, evUL, tkL, szL]
    simp; omega
end
end Cg
end Go.Proofs.Ytpfehghicaaghaa
