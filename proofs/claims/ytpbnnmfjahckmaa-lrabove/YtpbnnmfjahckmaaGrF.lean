/-
  Trees and LR plainly; rows of acts.
-/
import Derived.Test.YtpbnnmfjahckmaaGrA
import Derived.Test.YtpbnnmfjahckmaaLrHold
import Derived.Test.YtpbnnmfjahckmaaMkHold
namespace Go.Proofs.Ytpbnnmfjahckmaa
namespace Cg

/-- A tree as it is handed in. -/
inductive T where
  | mk (p k : Int) (kids : List T)
def T.p : T → Int | .mk p _ _ => p
def T.k : T → Int | .mk _ k _ => k
def T.kids : T → List T | .mk _ _ l => l
abbrev Ev := Int × Int
mutual
def T.sz : T → Nat
  | .mk _ _ l => szL l + 1
def szL : List T → Nat
  | [] => 0
  | t :: l => t.sz + szL l
end
mutual
def T.ht : T → Nat
  | .mk _ _ l => htL l + 1
def htL : List T → Nat
  | [] => 0
  | t :: l => max t.ht (htL l)
end
mutual
def evD : T → List Ev
  | .mk p k l => if p = -1 then [(2, k)] else (1, p) :: (evDL l ++ [(3, p)])
def evDL : List T → List Ev
  | [] => []
  | t :: l => evD t ++ evDL l
end
mutual
def evU : T → List Ev
  | .mk p k l => if p = -1 then [(2, k)] else evUL l ++ [(4, p)]
def evUL : List T → List Ev
  | [] => []
  | t :: l => evU t ++ evUL l
end
mutual
def tk : T → List Int
  | .mk p k l => if p = -1 then [k] else tkL l
def tkL : List T → List Int
  | [] => []
  | t :: l => tk t ++ tkL l
end
theorem szL_mem {s : T} : ∀ {l : List T}, s ∈ l → s.sz ≤ szL l
  | t :: l, h => by
    rw [szL]
    rcases List.mem_cons.1 h with rfl | h
    · omega
    · have := szL_mem h; omega
theorem T.sz_lt {t s : T} (h : s ∈ t.kids) : s.sz < t.sz := by
  cases t with
  | mk p k l => have := szL_mem (l := l) h; rw [T.sz]; omega
theorem T.sz_pos (t : T) : 0 < t.sz := by cases t; rw [T.sz]; omega
theorem evDL_append (a b : List T) : evDL (a ++ b) = evDL a ++ evDL b := by
  induction a with
  | nil => rfl
  | cons t a ih => simp [evDL, ih]
theorem evUL_append (a b : List T) : evUL (a ++ b) = evUL a ++ evUL b := by
  induction a with
  | nil => rfl
  | cons t a ih => simp [evUL, ih]
theorem tkL_append (a b : List T) : tkL (a ++ b) = tkL a ++ tkL b := by
  induction a with
  | nil => rfl
  | cons t a ih => simp [tkL, ih]
theorem szL_append (a b : List T) : szL (a ++ b) = szL a + szL b := by
  induction a with
  | nil => simp [szL]
  | cons t a ih => simp [szL, ih]; omega

def bodyOf (ps : List Pd) (p : Int) : List Sy := (ps.getD p.toNat (0, [])).2
def headOf (ps : List Pd) (p : Int) : Int := (ps.getD p.toNat (0, [])).1
def isPr (ps : List Pd) (p : Int) : Bool := decide (0 ≤ p) && decide (p < (ps.length : Int))
def isOf (ps : List Pd) (p : Int) (s : Sy) : Bool := if s.1 = 1 then decide (p = -1) else isPr ps p && decide (headOf ps p = s.2)
def may (ps : List Pd) (p k : Int) (nk : Nat) (s : Sy) (nw : Nat) : Bool := isOf ps p s && (if s.1 = 1 then decide (k = (nw : Int)) && decide (nk = 0) else decide (k = 0) && decide (nk = (bodyOf ps p).length))
theorem isPr_le {ps : List Pd} {p : Int} (h : isPr ps p = true) : 0 ≤ p ∧ p < (ps.length : Int) := by
  unfold isPr at h; simp at h; omega
mutual
/-- What is wrong first; how many nodes have been met, and the word so far. -/
def thr (ps : List Pd) : T → Sy → Nat → Nat → List Int → Nat × Nat × List Int
  | .mk p k l, s, d, n, ws => if 1000 < n + 1 then (2, n + 1, ws) else if 100 < d then (7, n + 1, ws) else if may ps p k l.length s ws.length = true then (if s.1 = 1 then (0, n + 1, ws ++ [s.2]) else thrL ps l (bodyOf ps p) (d + 1) (n + 1) ws) else (4, n + 1, ws)
def thrL (ps : List Pd) : List T → List Sy → Nat → Nat → List Int → Nat × Nat × List Int
  | [], _, _, n, ws => (0, n, ws)
  | t :: l, ss, d, n, ws => if (thr ps t (ss.headD (0, 0)) d n ws).1 = 0 then thrL ps l ss.tail d (thr ps t (ss.headD (0, 0)) d n ws).2.1 (thr ps t (ss.headD (0, 0)) d n ws).2.2 else thr ps t (ss.headD (0, 0)) d n ws
end
theorem thrL_cons (ps : List Pd) (t : T) (l : List T) (s : Sy) (ss : List Sy) (d n : Nat) (ws : List Int) : thrL ps (t :: l) (s :: ss) d n ws = if (thr ps t s d n ws).1 = 0 then thrL ps l ss d (thr ps t s d n ws).2.1 (thr ps t s d n ws).2.2 else thr ps t s d n ws := by
  rw [thrL]; rfl
theorem thrL_snoc (ps : List Pd) (l : List T) (t : T) (d : Nat) : ∀ (ss : List Sy) n ws, thrL ps (l ++ [t]) ss d n ws = if (thrL ps l ss d n ws).1 = 0 then thr ps t (ss.getD l.length (0, 0)) d (thrL ps l ss d n ws).2.1 (thrL ps l ss d n ws).2.2 else thrL ps l ss d n ws := by
  induction l with
  | nil =>
    intro ss n ws
    have e : ss.headD (0, 0) = ss.getD 0 (0, 0) := by cases ss <;> rfl
    simp only [List.nil_append, thrL, if_true, List.length_nil, e]
    split
    · rename_i h
      generalize thr ps t (ss.getD 0 (0, 0)) d n ws = r at h ⊢
      obtain ⟨r0, r1, r2⟩ := r
      simp only at h; subst h; rfl
    · rfl
  | cons u l ih =>
    intro ss n ws
    have e : ss.getD (l.length + 1) (0, 0) = ss.tail.getD l.length (0, 0) := by cases ss <;> simp
    simp only [List.cons_append, thrL, List.length_cons, e]
    split
    · rw [ih]
    · rename_i h; first | rfl | rw [if_neg h]
theorem thrL_stop (ps : List Pd) (l m : List T) (d : Nat) : ∀ (ss : List Sy) n ws, (thrL ps l ss d n ws).1 ≠ 0 → thrL ps (l ++ m) ss d n ws = thrL ps l ss d n ws := by
  induction l with
  | nil => intro ss n ws h; simp [thrL] at h
  | cons u l ih =>
    intro ss n ws h
    simp only [List.cons_append, thrL] at h ⊢
    split
    · rename_i h0
      rw [if_pos h0] at h
      exact ih _ _ _ h
    · rfl
mutual
/-- The right form for a symbol. -/
def sh (ps : List Pd) : T → Sy → Bool
  | .mk p k l, s => if s.1 = 1 then decide (p = -1) && l.isEmpty else isPr ps p && decide (headOf ps p = s.2) && decide (k = 0) && shL ps l (bodyOf ps p)
def shL (ps : List Pd) : List T → List Sy → Bool
  | [], ss => ss.isEmpty
  | t :: l, ss => !ss.isEmpty && sh ps t (ss.headD (0, 0)) && shL ps l ss.tail
end
mutual
def yl (ps : List Pd) : T → Sy → List Int
  | .mk p _ l, s => if s.1 = 1 then [s.2] else ylL ps l (bodyOf ps p)
def ylL (ps : List Pd) : List T → List Sy → List Int
  | [], _ => []
  | t :: l, ss => yl ps t (ss.headD (0, 0)) ++ ylL ps l ss.tail
end
def nums (a m : Nat) : List Int := (List.range m).map fun i => ((a + i : Nat) : Int)
theorem nums_length (a m : Nat) : (nums a m).length = m := by simp [nums]
theorem nums_append (a m n : Nat) : nums a (m + n) = nums a m ++ nums (a + m) n := by
  unfold nums
  rw [List.range_add, List.map_append, List.map_map]
  congr 1
  apply List.map_congr_left; intro i _; simp; omega
theorem nums_one (a : Nat) : nums a 1 = [(a : Int)] := by simp [nums]
theorem nums_split {x y : List Int} {a : Nat} (h : x ++ y = nums a (x ++ y).length) : x = nums a x.length ∧ y = nums (a + x.length) y.length := by
  rw [List.length_append, nums_append] at h
  exact List.append_inj h (by rw [nums_length])
theorem nums_join {x y : List Int} {a : Nat} (h : x = nums a x.length) (h2 : y = nums (a + x.length) y.length) : x ++ y = nums a (x ++ y).length := by
  rw [List.length_append, nums_append, ← h, ← h2]
theorem shL_length {ps : List Pd} : ∀ {l : List T} {ss : List Sy}, shL ps l ss = true → l.length = ss.length
  | [], ss, h => by rw [shL] at h; simp at h; subst h; rfl
  | t :: l, [], h => by rw [shL] at h; simp at h
  | t :: l, s :: ss, h => by
    rw [shL] at h; simp at h
    have := shL_length h.2
    simp [this]
mutual
theorem thr_fwd {ps : List Pd} : ∀ {t : T} {s : Sy} {d n n' : Nat} {ws ws' : List Int}, thr ps t s d n ws = (0, n', ws') → sh ps t s = true ∧ tk t = nums ws.length (tk t).length ∧ n' = n + t.sz ∧ n' ≤ 1000 ∧ d + t.ht ≤ 101 ∧ ws' = ws ++ yl ps t s ∧ (tk t).length = (yl ps t s).length
  | .mk p k l, s, d, n, n', ws, ws', h => by
    rw [thr] at h
    split at h
    · cases h
    · rename_i h1
      split at h
      · cases h
      · rename_i h2
        split at h
        · rename_i h3
          unfold may isOf at h3
          rw [sh, tk, T.sz, T.ht, yl]
          by_cases h4 : s.1 = 1
          · rw [if_pos h4] at h
            simp only [h4, if_true] at h3 ⊢
            simp at h3
            obtain ⟨rfl, rfl, rfl⟩ := h3
            simp at h
            obtain ⟨rfl, rfl⟩ := h
            simp [szL, htL, nums_one]
            omega
          · rw [if_neg h4] at h
            simp only [h4, if_false] at h3 ⊢
            simp at h3
            obtain ⟨⟨h5, h6⟩, rfl, h7⟩ := h3
            have hp : p ≠ -1 := by have := isPr_le h5; omega
            obtain ⟨g1, g2, g3, g4, g5, g6, g7⟩ := thrL_fwd h7 (by omega) (by omega) h
            simp only [hp, if_false]
            refine ⟨by simp [h5, h6, g1], g2, by omega, g4, by omega, g6, g7⟩
        · cases h
theorem thrL_fwd {ps : List Pd} : ∀ {l : List T} {ss : List Sy} {d n n' : Nat} {ws ws' : List Int}, l.length = ss.length → n ≤ 1000 → d ≤ 101 → thrL ps l ss d n ws = (0, n', ws') → shL ps l ss = true ∧ tkL l = nums ws.length (tkL l).length ∧ n' = n + szL l ∧ n' ≤ 1000 ∧ d + htL l ≤ 101 ∧ ws' = ws ++ ylL ps l ss ∧ (tkL l).length = (ylL ps l ss).length
  | [], ss, d, n, n', ws, ws', hl, hn, hd, h => by
    rw [thrL] at h
    simp at h
    obtain ⟨rfl, rfl⟩ := h
    have : ss = [] := List.length_eq_zero_iff.1 hl.symm
    subst this
    simp [shL, tkL, szL, htL, ylL, nums]
    omega
  | t :: l, [], d, n, n', ws, ws', hl, hn, hd, h => by simp at hl
  | t :: l, s :: ss, d, n, n', ws, ws', hl, hn, hd, h => by
    rw [thrL_cons] at h
    by_cases h0 : (thr ps t s d n ws).1 = 0
    · rw [if_pos h0] at h
      obtain ⟨a, b, c⟩ : ∃ a b, thr ps t s d n ws = (0, a, b) := ⟨_, _, by rw [← h0]⟩
      rw [c] at h
      obtain ⟨g1, g2, g3, g4, g5, g6, g7⟩ := thr_fwd c
      obtain ⟨k1, k2, k3, k4, k5, k6, k7⟩ := thrL_fwd (by simpa using hl) g4 hd h
      rw [shL, tkL, szL, htL, ylL]
      simp only [List.headD_cons, List.tail_cons]
      refine ⟨by simp [g1, k1], ?_, by omega, k4, by omega, by rw [k6, g6, List.append_assoc], by simp [g7, k7]⟩
      refine nums_join g2 ?_
      rw [g6, List.length_append, ← g7] at k2
      exact k2
    · rw [if_neg h0] at h
      rw [h] at h0
      exact absurd rfl h0
end
mutual
theorem thr_bwd {ps : List Pd} : ∀ {t : T} {s : Sy} {d n : Nat} {ws : List Int}, sh ps t s = true → tk t = nums ws.length (tk t).length → n + t.sz ≤ 1000 → d + t.ht ≤ 101 → thr ps t s d n ws = (0, n + t.sz, ws ++ yl ps t s) ∧ (tk t).length = (yl ps t s).length
  | .mk p k l, s, d, n, ws, h, htk, hs, hh => by
    rw [T.sz] at hs
    rw [T.ht] at hh
    rw [thr, if_neg (by omega), if_neg (by omega)]
    rw [sh] at h
    rw [tk] at htk
    rw [T.sz, yl, tk]
    unfold may isOf
    by_cases h4 : s.1 = 1
    · simp only [h4, if_true] at h ⊢
      simp at h
      obtain ⟨rfl, rfl⟩ := h
      simp [nums_one] at htk
      simp [htk, szL]
    · simp only [h4, if_false] at h ⊢
      simp at h
      obtain ⟨⟨⟨h5, h6⟩, rfl⟩, h7⟩ := h
      have hp : p ≠ -1 := by have := isPr_le h5; omega
      simp only [hp, if_false] at htk ⊢
      have hl := shL_length h7
      obtain ⟨g1, g2⟩ := thrL_bwd (d := d + 1) (n := n + 1) h7 htk (by omega) (by omega)
      rw [g1]
      simp [h5, h6, hl, g2]
      omega
theorem thrL_bwd {ps : List Pd} : ∀ {l : List T} {ss : List Sy} {d n : Nat} {ws : List Int}, shL ps l ss = true → tkL l = nums ws.length (tkL l).length → n + szL l ≤ 1000 → d + htL l ≤ 101 → thrL ps l ss d n ws = (0, n + szL l, ws ++ ylL ps l ss) ∧ (tkL l).length = (ylL ps l ss).length
  | [], ss, d, n, ws, h, htk, hs, hh => by simp [thrL, szL, ylL, tkL]
  | t :: l, [], d, n, ws, h, htk, hs, hh => by rw [shL] at h; simp at h
  | t :: l, s :: ss, d, n, ws, h, htk, hs, hh => by
    rw [shL] at h
    simp at h
    rw [tkL] at htk
    obtain ⟨q1, q2⟩ := nums_split htk
    rw [szL] at hs
    rw [htL] at hh
    obtain ⟨g1, g2⟩ := thr_bwd (d := d) (n := n) h.1 q1 (by omega) (by omega)
    obtain ⟨k1, k2⟩ := thrL_bwd (d := d) (n := n + t.sz) (ws := ws ++ yl ps t s) h.2 (by rw [List.length_append, ← g2]; exact q2) (by omega) (by omega)
    rw [thrL, szL, ylL, tkL]
    simp only [List.headD_cons, List.tail_cons, g1, k1, if_true]
    simp [g2, k2]
    omega
end
/-! A tree's form is told by the symbol alone. -/
theorem sh_leaf {ps : List Pd} {t : T} {s : Sy} (h : sh ps t s = true) : (t.p = -1 ↔ s.1 = 1) := by
  obtain ⟨p, k, l⟩ := t
  rw [sh] at h
  by_cases h4 : s.1 = 1
  · simp [h4] at h; simp [T.p, h4, h.1]
  · simp only [h4, if_false] at h
    simp at h
    have := isPr_le h.1.1.1
    simp [T.p, h4]; omega
theorem sh_neg {ps : List Pd} {t : T} {s : Sy} (h : sh ps t s = true) : (t.p < 0 ↔ s.1 = 1) := by
  obtain ⟨p, k, l⟩ := t
  rw [sh] at h
  by_cases h4 : s.1 = 1
  · simp [h4] at h; simp [T.p, h4, h.1]
  · simp only [h4, if_false] at h
    simp at h
    have := isPr_le h.1.1.1
    simp [T.p, h4]; omega
theorem sh_node {ps : List Pd} {p k : Int} {l : List T} {s : Sy} (h : sh ps (.mk p k l) s = true) (h4 : s.1 ≠ 1) : isPr ps p = true ∧ headOf ps p = s.2 ∧ k = 0 ∧ shL ps l (bodyOf ps p) = true := by
  rw [sh] at h
  simp only [h4, if_false] at h
  simp at h
  exact ⟨h.1.1.1, h.1.1.2, h.1.2, h.2⟩
theorem sh_of_node {ps : List Pd} {p : Int} {l : List T} {s : Sy} (h4 : s.1 ≠ 1) (h1 : isPr ps p = true) (h2 : headOf ps p = s.2) (h3 : shL ps l (bodyOf ps p) = true) : sh ps (.mk p 0 l) s = true := by
  rw [sh]; simp [h4, h1, h2, h3]
theorem sh_of_leaf {ps : List Pd} {k : Int} {s : Sy} (h4 : s.1 = 1) : sh ps (.mk (-1) k []) s = true := by
  rw [sh]; simp [h4]
theorem sh_is_leaf {ps : List Pd} {t : T} {s : Sy} (h : sh ps t s = true) (h4 : s.1 = 1) : t = .mk (-1) t.k [] := by
  obtain ⟨p, k, l⟩ := t
  rw [sh] at h; simp [h4] at h
  obtain ⟨rfl, rfl⟩ := h; rfl
theorem shL_at {ps : List Pd} : ∀ {l : List T} {ss : List Sy}, shL ps l ss = true → ∀ i (hi : i < l.length), sh ps l[i] (ss.getD i (0, 0)) = true
  | [], _, _ => fun i hi => absurd hi (Nat.not_lt_zero _)
  | t :: l, [], h => by rw [shL] at h; simp at h
  | t :: l, s :: ss, h => by
    rw [shL] at h; simp at h
    intro i hi
    cases i with
    | zero => exact h.1
    | succ i => simpa using shL_at h.2 i (by simpa using hi)
theorem shL_snoc {ps : List Pd} {t : T} {s : Sy} : ∀ {l : List T} {ss : List Sy}, shL ps l ss = true → sh ps t s = true → shL ps (l ++ [t]) (ss ++ [s]) = true
  | [], ss, h, h2 => by
    rw [shL] at h; simp at h; subst h
    simp [shL, h2]
  | u :: l, [], h, h2 => by rw [shL] at h; simp at h
  | u :: l, s' :: ss, h, h2 => by
    rw [shL] at h; simp at h
    have := shL_snoc h.2 h2
    simp [shL, h.1, this]
theorem shL_cons {ps : List Pd} {t : T} {s : Sy} {l : List T} {ss : List Sy} (h1 : sh ps t s = true) (h : shL ps l ss = true) : shL ps (t :: l) (s :: ss) = true := by
  rw [shL]; simp [h1, h]
/-! How long the events are. -/
mutual
theorem ev_len : ∀ (t : T), (evD t).length + (tk t).length = 2 * (evU t).length ∧ (evU t).length ≤ t.sz
  | .mk p k l => by
    rw [evD, evU, tk, T.sz]
    have := evL_len l
    split
    · simp
    · simp; omega
theorem evL_len : ∀ (l : List T), (evDL l).length + (tkL l).length = 2 * (evUL l).length ∧ (evUL l).length ≤ szL l
  | [] => by simp [evDL, evUL, tkL, szL]
  | t :: l => by
    have h1 := ev_len t
    have h2 := evL_len l
    rw [evDL, evUL, tkL, szL]
    simp; omega
end
end Cg
end Go.Proofs.Ytpbnnmfjahckmaa

namespace Go.Proofs.Ytpbnnmfjahckmaa
namespace Cg

/-- Do the last of these stand for the symbols of body? -/
def endsW (ps : List Pd) (st : List T) (body : List Sy) : Bool := decide (body.length ≤ st.length) && ((st.drop (st.length - body.length)).zip body).all fun x => isOf ps x.1.p x.2
def bstep (ps : List Pd) (st : List T) (lv : Nat) (e : Ev) : Option (List T × Nat) :=
  if e.1 = 2 ∧ e.2 = (lv : Int) then some (st ++ [.mk (-1) (lv : Int) []], lv + 1)
  else if e.1 = 4 ∧ isPr ps e.2 = true ∧ endsW ps st (bodyOf ps e.2) = true then some (st.take (st.length - (bodyOf ps e.2).length) ++ [.mk e.2 0 (st.drop (st.length - (bodyOf ps e.2).length))], lv)
  else none
def brun (ps : List Pd) : List Ev → List T → Nat → Option (List T × Nat)
  | [], st, lv => some (st, lv)
  | e :: l, st, lv => match bstep ps st lv e with
    | none => none
    | some r => brun ps l r.1 r.2
theorem brun_append (ps : List Pd) (b : List Ev) : ∀ (a : List Ev) st lv, brun ps (a ++ b) st lv = match brun ps a st lv with | none => none | some r => brun ps b r.1 r.2
  | [], st, lv => rfl
  | e :: a, st, lv => by
    rw [List.cons_append, brun, brun]
    cases bstep ps st lv e with
    | none => rfl
    | some r => exact brun_append ps b a r.1 r.2
/-- A tree of the right form, for whatever symbol it is. -/
def Gd (ps : List Pd) (t : T) : Prop := (t.p = -1 ∧ t.kids = []) ∨ (isPr ps t.p = true ∧ t.k = 0 ∧ shL ps t.kids (bodyOf ps t.p) = true)
theorem Gd.sh {ps : List Pd} {t : T} {s : Sy} (h : Gd ps t) (h2 : isOf ps t.p s = true) : sh ps t s = true := by
  obtain ⟨p, k, l⟩ := t
  unfold isOf at h2
  rcases h with ⟨h3, h4⟩ | ⟨h3, h4, h5⟩
  · simp only [T.p, T.kids] at h2 h3 h4
    subst h3 h4
    by_cases h6 : s.1 = 1
    · exact sh_of_leaf h6
    · rw [if_neg h6] at h2
      simp [isPr] at h2
  · simp only [T.p, T.k, T.kids] at h2 h3 h4 h5
    subst h4
    have := isPr_le h3
    by_cases h6 : s.1 = 1
    · rw [if_pos h6] at h2
      have := of_decide_eq_true h2; omega
    · rw [if_neg h6, h3, Bool.true_and] at h2
      exact sh_of_node h6 h3 (of_decide_eq_true h2) h5
theorem sh_gd {ps : List Pd} {t : T} {s : Sy} (h : sh ps t s = true) : Gd ps t ∧ isOf ps t.p s = true := by
  obtain ⟨p, k, l⟩ := t
  unfold Gd isOf
  by_cases h6 : s.1 = 1
  · rw [sh] at h
    simp [h6] at h
    simp [T.p, T.kids, h6, h.1, h.2]
  · obtain ⟨h1, h2, h3, h4⟩ := sh_node h h6
    simp [T.p, T.k, T.kids, h6, h1, h2, h3, h4]
theorem shL_of {ps : List Pd} : ∀ {l : List T} {ss : List Sy}, l.length = ss.length → (∀ t ∈ l, Gd ps t) → (l.zip ss).all (fun x => isOf ps x.1.p x.2) = true → shL ps l ss = true
  | [], [], _, _, _ => by rw [shL]; rfl
  | [], s :: ss, h, _, _ => by simp at h
  | t :: l, [], h, _, _ => by simp at h
  | t :: l, s :: ss, h, hg, ha => by
    simp only [List.zip_cons_cons, List.all_cons, Bool.and_eq_true] at ha
    exact shL_cons ((hg t (by simp)).sh ha.1) (shL_of (by simpa using h) (fun u hu => hg u (by simp [hu])) ha.2)
theorem shL_all {ps : List Pd} : ∀ {l : List T} {ss : List Sy}, shL ps l ss = true → (∀ t ∈ l, Gd ps t) ∧ (l.zip ss).all (fun x => isOf ps x.1.p x.2) = true
  | [], ss, h => by simp
  | t :: l, [], h => by rw [shL] at h; simp at h
  | t :: l, s :: ss, h => by
    rw [shL] at h
    simp at h
    obtain ⟨a, b⟩ := shL_all h.2
    obtain ⟨c, d⟩ := sh_gd h.1
    refine ⟨fun u hu => ?_, by simp [d]; simpa using b⟩
    rcases List.mem_cons.1 hu with rfl | hu
    · exact c
    · exact a u hu
/-- What is true all along. -/
def Binv (ps : List Pd) (l : List Ev) (st : List T) (lv : Nat) : Prop := (∀ t ∈ st, Gd ps t) ∧ evUL st = l ∧ tkL st = nums 0 lv
theorem Binv.start (ps : List Pd) : Binv ps [] [] 0 := ⟨fun t h => (by simp at h), rfl, rfl⟩
theorem Binv.step {ps : List Pd} {l : List Ev} {st : List T} {lv : Nat} {e : Ev} {r : List T × Nat} (h : Binv ps l st lv) (hs : bstep ps st lv e = some r) : Binv ps (l ++ [e]) r.1 r.2 := by
  obtain ⟨h1, h2, h3⟩ := h
  obtain ⟨k, x⟩ := e
  unfold bstep at hs
  split at hs
  · rename_i hc
    obtain ⟨rfl, rfl⟩ := hc
    simp at hs
    subst hs
    refine ⟨fun t ht => ?_, ?_, ?_⟩
    · rcases List.mem_append.1 ht with h | h
      · exact h1 t h
      · simp at h; subst h; exact Or.inl ⟨rfl, rfl⟩
    · rw [evUL_append, h2]; simp [evUL, evU]
    · rw [tkL_append, h3, nums_append]; simp [tkL, tk, nums]
  · split at hs
    · rename_i _ hc
      obtain ⟨rfl, hp, he⟩ := hc
      simp at hs
      subst hs
      simp only at hp he
      unfold endsW at he
      simp only [Bool.and_eq_true, decide_eq_true_eq] at he
      have hsp := List.take_append_drop (st.length - (bodyOf ps x).length) st
      have hpm := isPr_le hp
      have hx1 : x ≠ -1 := by omega
      refine ⟨fun t ht => ?_, ?_, ?_⟩
      · rcases List.mem_append.1 ht with h | h
        · exact h1 t (List.mem_of_mem_take h)
        · simp at h
          subst h
          exact Or.inr ⟨hp, rfl, shL_of (by simp [T.kids, T.p]; omega) (fun t ht => h1 t (List.mem_of_mem_drop ht)) he.2⟩
      · rw [evUL_append, evUL, evUL, evU, if_neg hx1, List.append_nil, ← List.append_assoc, ← evUL_append, hsp, h2]
      · rw [tkL_append, tkL, tkL, tk, if_neg hx1, List.append_nil, ← tkL_append, hsp, h3]
    · cases hs
theorem Binv.run {ps : List Pd} : ∀ {m : List Ev} {l : List Ev} {st : List T} {lv : Nat} {r : List T × Nat}, Binv ps l st lv → brun ps m st lv = some r → Binv ps (l ++ m) r.1 r.2
  | [], l, st, lv, r, h, hr => by
    rw [brun] at hr; simp at hr; subst hr; simpa using h
  | e :: m, l, st, lv, r, h, hr => by
    rw [brun] at hr
    cases hb : bstep ps st lv e with
    | none => rw [hb] at hr; cases hr
    | some q =>
      rw [hb] at hr
      have := Binv.run (h.step hb) hr
      simpa using this
mutual
theorem brun_tree {ps : List Pd} : ∀ {t : T} {s : Sy} {st : List T} {lv : Nat} {rest : List Ev}, sh ps t s = true → tk t = nums lv (tk t).length → brun ps (evU t ++ rest) st lv = brun ps rest (st ++ [t]) (lv + (tk t).length)
  | .mk p k l, s, st, lv, rest, h, ht => by
    by_cases h4 : s.1 = 1
    · have h5 := sh_is_leaf h h4
      injection h5 with e1 e2 e3
      subst e1 e3
      have : k = (lv : Int) := by
        rw [tk] at ht
        simp [nums] at ht
        exact ht
      subst this
      simp [evU, tk, brun, bstep]
    · obtain ⟨h1, h2, h3, h5⟩ := sh_node h h4
      subst h3
      have hpm := isPr_le h1
      have hx1 : p ≠ -1 := by omega
      rw [tk, if_neg hx1] at ht ⊢
      rw [evU, if_neg hx1, List.append_assoc, brun_list h5 ht, List.singleton_append, brun]
      have hl := shL_length h5
      obtain ⟨-, h7⟩ := shL_all h5
      have e1 : (st ++ l).length - (bodyOf ps p).length = st.length := by rw [List.length_append, hl]; omega
      have he : endsW ps (st ++ l) (bodyOf ps p) = true := by
        unfold endsW
        rw [e1, List.drop_left, h7, List.length_append, hl]
        simp
      unfold bstep
      simp only [he, h1, e1]
      simp
theorem brun_list {ps : List Pd} : ∀ {l : List T} {ss : List Sy} {st : List T} {lv : Nat} {rest : List Ev}, shL ps l ss = true → tkL l = nums lv (tkL l).length → brun ps (evUL l ++ rest) st lv = brun ps rest (st ++ l) (lv + (tkL l).length)
  | [], ss, st, lv, rest, h, ht => by simp [evUL, tkL]
  | t :: l, [], st, lv, rest, h, ht => by rw [shL] at h; simp at h
  | t :: l, s :: ss, st, lv, rest, h, ht => by
    rw [shL] at h
    simp at h
    rw [tkL] at ht ⊢
    obtain ⟨q1, q2⟩ := nums_split ht
    rw [evUL, List.append_assoc, brun_tree h.1 q1, brun_list h.2 q2]
    simp [Nat.add_assoc]
end
/-- What is built of events from below. -/
def built (ps : List Pd) (l : List Ev) : Option T := match brun ps l [] 0 with
  | some ([t], _) => if isOf ps t.p (2, 0) = true then some t else none
  | _ => none
/-- Which tree is of the right form, whatever its size. -/
def Ok (ps : List Pd) (t : T) : Prop := sh ps t (2, 0) = true ∧ tk t = nums 0 (tk t).length
theorem built_iff {ps : List Pd} {l : List Ev} {t : T} : built ps l = some t ↔ Ok ps t ∧ evU t = l := by
  constructor
  · intro h
    unfold built at h
    split at h
    · rename_i u lv hb
      split at h
      · rename_i hi
        simp at h
        subst h
        obtain ⟨h1, h2, h3⟩ := (Binv.start ps).run hb
        simp only [evUL, tkL, List.append_nil, List.nil_append] at h2 h3
        refine ⟨⟨(h1 u (by simp)).sh hi, ?_⟩, h2⟩
        rw [h3, nums_length]
      · cases h
    · cases h
  · rintro ⟨⟨h1, h2⟩, rfl⟩
    have := brun_tree (st := []) (rest := []) h1 h2
    rw [List.append_nil, brun] at this
    unfold built
    rw [this]
    simp [(sh_gd h1).2]
/-- Events from the top as such from below. -/
def ends1 (e : Ev) : List Ev := if e.1 = 1 then [] else if e.1 = 3 then [(4, e.2)] else [e]
def ends (l : List Ev) : List Ev := l.flatMap ends1
theorem ends_append (a b : List Ev) : ends (a ++ b) = ends a ++ ends b := by simp [ends]
theorem ends_len (l : List Ev) : (ends l).length ≤ l.length := by
  induction l with
  | nil => simp [ends]
  | cons e l ih =>
    simp only [ends, List.flatMap_cons, List.length_append, List.length_cons] at ih ⊢
    have : (ends1 e).length ≤ 1 := by unfold ends1; split; simp; split <;> simp
    omega
mutual
theorem ends_evD : ∀ (t : T), ends (evD t) = evU t
  | .mk p k l => by
    rw [evD, evU]
    split
    · simp [ends, ends1]
    · have := ends_evDL l
      have e : ends ((1, p) :: (evDL l ++ [(3, p)])) = ends (evDL l) ++ [(4, p)] := by
        rw [show ((1, p) :: (evDL l ++ [(3, p)]) : List Ev) = [(1, p)] ++ (evDL l ++ [(3, p)]) from rfl, ends_append, ends_append]
        simp [ends, ends1]
      rw [e, this]
theorem ends_evDL : ∀ (l : List T), ends (evDL l) = evUL l
  | [] => by simp [evDL, evUL, ends]
  | t :: l => by rw [evDL, evUL, ends_append, ends_evD t, ends_evDL l]
end
/-- What OfUp and OfDown have, but for size and depth. -/
def ofU (ps : List Pd) (l : List Ev) : Option T := built ps l
def ofD (ps : List Pd) (l : List Ev) : Option T := match built ps (ends l) with
  | some t => if evD t = l then some t else none
  | none => none
theorem ofD_iff {ps : List Pd} {l : List Ev} {t : T} : ofD ps l = some t ↔ Ok ps t ∧ evD t = l := by
  constructor
  · intro h
    unfold ofD at h
    split at h
    · rename_i u hb
      split at h
      · rename_i hi
        simp at h
        subst h
        exact ⟨(built_iff.1 hb).1, hi⟩
      · cases h
    · cases h
  · rintro ⟨h1, rfl⟩
    unfold ofD
    rw [ends_evD, built_iff.2 ⟨h1, rfl⟩]
    simp
/-! Events tell their tree. -/
mutual
theorem evD_one {ps : List Pd} : ∀ {t u : T} {s : Sy} {r q : List Ev}, sh ps t s = true → sh ps u s = true → evD t ++ r = evD u ++ q → t = u ∧ r = q
  | .mk p k l, .mk p2 k2 l2, s, r, q, h, h2, e => by
    by_cases h4 : s.1 = 1
    · have a1 := sh_is_leaf h h4
      have a2 := sh_is_leaf h2 h4
      injection a1 with e1 e2 e3
      injection a2 with f1 f2 f3
      subst e1 e3 f1 f3
      simp [evD] at e
      obtain ⟨rfl, rfl⟩ := e
      exact ⟨rfl, rfl⟩
    · obtain ⟨a1, a2, a3, a4⟩ := sh_node h h4
      obtain ⟨b1, b2, b3, b4⟩ := sh_node h2 h4
      have m1 := isPr_le a1
      have m2 := isPr_le b1
      rw [evD, evD, if_neg (by omega), if_neg (by omega)] at e
      simp only [List.cons_append, List.append_assoc, List.cons.injEq, Prod.mk.injEq, true_and] at e
      obtain ⟨rfl, e⟩ := e
      obtain ⟨rfl, e2⟩ := evDL_one a4 b4 e
      subst a3 b3
      simp at e2
      exact ⟨rfl, e2⟩
theorem evDL_one {ps : List Pd} : ∀ {t u : List T} {s : List Sy} {r q : List Ev}, shL ps t s = true → shL ps u s = true → evDL t ++ r = evDL u ++ q → t = u ∧ r = q
  | [], [], s, r, q, h, h2, e => by simpa [evDL] using e
  | [], u :: us, [], r, q, h, h2, e => by rw [shL] at h2; simp at h2
  | [], u :: us, s :: ss, r, q, h, h2, e => by rw [shL] at h; simp at h
  | t :: ts, [], [], r, q, h, h2, e => by rw [shL] at h; simp at h
  | t :: ts, [], s :: ss, r, q, h, h2, e => by rw [shL] at h2; simp at h2
  | t :: ts, u :: us, [], r, q, h, h2, e => by rw [shL] at h; simp at h
  | t :: ts, u :: us, s :: ss, r, q, h, h2, e => by
    rw [shL] at h h2
    simp at h h2
    rw [evDL, evDL, List.append_assoc, List.append_assoc] at e
    obtain ⟨rfl, e2⟩ := evD_one h.1 h2.1 e
    obtain ⟨rfl, e3⟩ := evDL_one h.2 h2.2 e2
    exact ⟨rfl, e3⟩
end
theorem shL_append {ps : List Pd} {m : List T} {rr : List Sy} : ∀ {l : List T} {ss : List Sy}, l.length = ss.length → shL ps (l ++ m) (ss ++ rr) = (shL ps l ss && shL ps m rr)
  | [], [], _ => by simp [shL]
  | [], s :: ss, h => by simp at h
  | t :: l, [], h => by simp at h
  | t :: l, s :: ss, h => by
    have := shL_append (ps := ps) (m := m) (rr := rr) (l := l) (ss := ss) (by simpa using h)
    rw [List.cons_append, List.cons_append, shL, shL]
    simp only [List.headD_cons, List.tail_cons, List.isEmpty_cons, Bool.not_false, Bool.true_and, this, Bool.and_assoc]
theorem shL_one {ps : List Pd} {t : T} {s : Sy} : shL ps [t] [s] = sh ps t s := by
  rw [shL, shL]; simp
theorem evUL_one {ps : List Pd} : ∀ (n : Nat) {l l2 : List T} {ss : List Sy} {r q : List Ev}, l.length = n → shL ps l ss = true → shL ps l2 ss = true → (∀ t ∈ l, ∀ u s r q, sh ps t s = true → sh ps u s = true → r ++ evU t = q ++ evU u → t = u ∧ r = q) → r ++ evUL l = q ++ evUL l2 → l = l2 ∧ r = q := by
  intro n
  induction n with
  | zero =>
    intro l l2 ss r q hn h h2 hu e
    have := shL_length h
    have := shL_length h2
    obtain rfl : l = [] := List.length_eq_zero_iff.1 hn
    obtain rfl : l2 = [] := List.length_eq_zero_iff.1 (by omega)
    simpa [evUL] using e
  | succ n ih =>
    intro l l2 ss r q hn h h2 hu e
    have k1 := shL_length h
    have k2 := shL_length h2
    rcases List.eq_nil_or_concat l with rfl | ⟨l', t, rfl⟩
    · simp at hn
    rcases List.eq_nil_or_concat l2 with rfl | ⟨l2', u, rfl⟩
    · simp at k1 k2; omega
    rcases List.eq_nil_or_concat ss with rfl | ⟨ss', s, rfl⟩
    · simp at k1
    simp only [List.concat_eq_append, List.length_append, List.length_cons, List.length_nil] at *
    rw [shL_append (by omega), shL_one] at h h2
    simp only [Bool.and_eq_true] at h h2
    rw [evUL_append, evUL_append, evUL, evUL, evUL, evUL, List.append_nil, List.append_nil, ← List.append_assoc, ← List.append_assoc] at e
    obtain ⟨rfl, e2⟩ := hu t (by simp) u s _ _ h.2 h2.2 e
    obtain ⟨rfl, e3⟩ := ih (by omega) h.1 h2.1 (fun t ht => hu t (by simp [ht])) e2
    exact ⟨rfl, e3⟩
theorem evU_one {ps : List Pd} (m : Nat) : ∀ {t u : T} {s : Sy} {r q : List Ev}, t.sz ≤ m → sh ps t s = true → sh ps u s = true → r ++ evU t = q ++ evU u → t = u ∧ r = q := by
  induction m with
  | zero => intro t u s r q hm; have := t.sz_pos; omega
  | succ m ih =>
    intro t u s r q hm h h2 e
    obtain ⟨p, k, l⟩ := t
    obtain ⟨p2, k2, l2⟩ := u
    by_cases h4 : s.1 = 1
    · have a1 := sh_is_leaf h h4
      have a2 := sh_is_leaf h2 h4
      injection a1 with e1 e2 e3
      injection a2 with f1 f2 f3
      subst e1 e3 f1 f3
      simp only [evU, if_true] at e
      obtain ⟨e1, e2⟩ := List.append_inj' e rfl
      simp at e2
      subst e1 e2
      exact ⟨rfl, rfl⟩
    · obtain ⟨a1, a2, a3, a4⟩ := sh_node h h4
      obtain ⟨b1, b2, b3, b4⟩ := sh_node h2 h4
      have m1 := isPr_le a1
      have m2 := isPr_le b1
      rw [evU, evU, if_neg (by omega), if_neg (by omega), ← List.append_assoc, ← List.append_assoc] at e
      obtain ⟨e1, e2⟩ := List.append_inj' e rfl
      simp at e2
      subst e2 a3 b3
      obtain ⟨rfl, e3⟩ := evUL_one l.length rfl a4 b4 (fun t ht u s r q g1 g2 g3 => ih (by have := T.sz_lt (t := .mk p 0 l) ht; omega) g1 g2 g3) e1
      exact ⟨rfl, e3⟩
/-! The tokens among events are those of the tree. -/
def toks (l : List Ev) : List Int := (l.filter fun e => decide (e.1 = 2)).map Prod.snd
theorem toks_append (a b : List Ev) : toks (a ++ b) = toks a ++ toks b := by simp [toks]
mutual
theorem toks_evD : ∀ (t : T), toks (evD t) = tk t
  | .mk p k l => by
    rw [evD, tk]
    split
    · simp [toks]
    · have := toks_evDL l
      rw [show ((1, p) :: (evDL l ++ [(3, p)]) : List Ev) = [(1, p)] ++ (evDL l ++ [(3, p)]) from rfl, toks_append, toks_append, this]
      simp [toks]
theorem toks_evDL : ∀ (l : List T), toks (evDL l) = tkL l
  | [] => by simp [evDL, tkL, toks]
  | t :: l => by rw [evDL, tkL, toks_append, toks_evD t, toks_evDL l]
end
mutual
theorem toks_evU : ∀ (t : T), toks (evU t) = tk t
  | .mk p k l => by
    rw [evU, tk]
    split
    · simp [toks]
    · rw [toks_append, toks_evUL l]
      simp [toks]
theorem toks_evUL : ∀ (l : List T), toks (evUL l) = tkL l
  | [] => by simp [evUL, tkL, toks]
  | t :: l => by rw [evUL, tkL, toks_append, toks_evU t, toks_evUL l]
end
/-- Are all tokens numbered from 0 on? -/
def ord (l : List Ev) : Prop := toks l = nums 0 (toks l).length
end Cg
end Go.Proofs.Ytpbnnmfjahckmaa

namespace Go.Proofs.Ytpbnnmfjahckmaa
namespace Cg

/-- What comes next: a terminal, or the end. -/
def nx : List Int → Wd
  | [] => endW
  | x :: _ => 1#64 <<< x.toNat
/-- Only terminals and nonterminals. -/
def Ts (l : List Sy) : Prop := ∀ s ∈ l, s.1 = 1 ∨ s.1 = 2
theorem body_mem {ps : List Pd} {p : Int} (h : isPr ps p = true) : ∃ q ∈ ps, q.1 = headOf ps p ∧ q.2 = bodyOf ps p := by
  have h2 := isPr_le h
  have hl : p.toNat < ps.length := by omega
  have eg : ps.getD p.toNat (0, []) = ps[p.toNat] := by rw [List.getD_eq_getElem?_getD, List.getElem?_eq_getElem hl]; rfl
  exact ⟨ps[p.toNat], List.getElem_mem hl, by unfold headOf; rw [eg], by unfold bodyOf; rw [eg]⟩
mutual
theorem made_sh {ps : List Pd} {M : Nat → Bool} (hM : ClM ps true M) : ∀ {t : T} {s : Sy}, sh ps t s = true → s.1 ≠ 1 → M s.2.toNat = true
  | .mk p k l, s, h, h4 => by
    obtain ⟨h1, h2, h3, h5⟩ := sh_node h h4
    obtain ⟨q, hq, e1, e2⟩ := body_mem h1
    have := hM q hq (by rw [e2]; exact made_shL hM h5)
    rw [e1, h2] at this
    exact this
theorem made_shL {ps : List Pd} {M : Nat → Bool} (hM : ClM ps true M) : ∀ {l : List T} {ss : List Sy}, shL ps l ss = true → amk M true ss = true
  | [], ss, h => by rw [shL] at h; simp at h; subst h; rfl
  | t :: l, [], h => by rw [shL] at h; simp at h
  | t :: l, s :: ss, h => by
    rw [shL] at h; simp at h
    have h2 := made_shL hM h.2
    unfold amk at *
    simp only [List.all_cons, Bool.and_eq_true]
    refine ⟨?_, h2⟩
    unfold mks
    by_cases h4 : s.1 = 1
    · simp [h4]
    · rw [made_sh hM h.1 h4]; simp
end
mutual
theorem empty_sh {ps : List Pd} {E : Nat → Bool} (hE : ClM ps false E) : ∀ {t : T} {s : Sy}, sh ps t s = true → s.1 ≠ 1 → yl ps t s = [] → E s.2.toNat = true
  | .mk p k l, s, h, h4, hy => by
    obtain ⟨h1, h2, h3, h5⟩ := sh_node h h4
    obtain ⟨q, hq, e1, e2⟩ := body_mem h1
    rw [yl, if_neg h4] at hy
    have := hE q hq (by rw [e2]; exact empty_shL hE h5 hy)
    rw [e1, h2] at this
    exact this
theorem empty_shL {ps : List Pd} {E : Nat → Bool} (hE : ClM ps false E) : ∀ {l : List T} {ss : List Sy}, shL ps l ss = true → ylL ps l ss = [] → amk E false ss = true
  | [], ss, h, _ => by rw [shL] at h; simp at h; subst h; rfl
  | t :: l, [], h, _ => by rw [shL] at h; simp at h
  | t :: l, s :: ss, h, hy => by
    rw [shL] at h; simp at h
    rw [ylL] at hy
    simp only [List.headD_cons, List.tail_cons, List.append_eq_nil_iff] at hy
    have h2 := empty_shL hE h.2 hy.2
    unfold amk at *
    simp only [List.all_cons, Bool.and_eq_true]
    refine ⟨?_, h2⟩
    unfold mks
    by_cases h4 : s.1 = 1
    · have h6 := sh_is_leaf h.1 h4
      have h7 := hy.1
      rw [h6, yl, if_pos h4] at h7
      simp at h7
    · rw [empty_sh hE h.1 h4 hy.1]; simp [h4]
end
mutual
theorem first_sh {ps : List Pd} {M E : Nat → Bool} {F : Nat → Wd} (hM : ClM ps true M) (hE : ClM ps false E) (hF : ClF ps M E F) : ∀ {t : T} {s : Sy} {x : Int} {r : List Int}, sh ps t s = true → s.1 ≠ 1 → yl ps t s = x :: r → le (1#64 <<< x.toNat) (F s.2.toNat)
  | .mk p k l, s, x, r, h, h4, hy => by
    obtain ⟨h1, h2, h3, h5⟩ := sh_node h h4
    obtain ⟨q, hq, e1, e2⟩ := body_mem h1
    rw [yl, if_neg h4] at hy
    have h6 := hF q hq (by rw [e2]; exact made_shL hM h5)
    rw [e1, h2, e2] at h6
    have h7 := next_shL hM hE hF h5 [] 0#64 (Or.inl (by rw [hy]; simp))
    rw [List.append_nil, hy] at h7
    exact le_trans h7 h6
theorem next_shL {ps : List Pd} {M E : Nat → Bool} {F : Nat → Wd} (hM : ClM ps true M) (hE : ClM ps false E) (hF : ClF ps M E F) : ∀ {l : List T} {ss : List Sy}, shL ps l ss = true → ∀ (post : List Int) (b : Wd), (ylL ps l ss ≠ [] ∨ le (nx post) b) → le (nx (ylL ps l ss ++ post)) (bg E F ss b)
  | [], ss, h, post, b, hb => by
    rw [shL] at h; simp at h; subst h
    rcases hb with hb | hb
    · simp [ylL] at hb
    · simpa [ylL, bg] using hb
  | t :: l, [], h, post, b, hb => by rw [shL] at h; simp at h
  | t :: l, s :: ss, h, post, b, hb => by
    rw [shL] at h; simp at h
    rw [ylL, bg]
    rw [ylL] at hb
    simp only [List.headD_cons, List.tail_cons] at hb ⊢
    by_cases h4 : s.1 = 1
    · rw [if_pos h4]
      have h6 := sh_is_leaf h.1 h4
      rw [h6, yl, if_pos h4]
      exact le_refl _
    · rw [if_neg h4]
      cases hy : yl ps t s with
      | cons x r => exact le_trans (first_sh hM hE hF h.1 h4 hy) (le_orl _ _)
      | nil =>
        rw [hy] at hb
        rw [empty_sh hE h.1 h4 hy, if_pos rfl, List.nil_append]
        rw [List.nil_append] at hb
        exact le_trans (next_shL hM hE hF h.2 post b hb) (le_orr _ _)
end
end Cg
end Go.Proofs.Ytpbnnmfjahckmaa

namespace Go.Proofs.Ytpbnnmfjahckmaa
namespace Cg
/-- Where a set has what a column stands for. -/
def bc (T col : Nat) : Nat := if col = T then 63 else col
/-- The sets at which the productions may be taken. -/
def sts (ps : List Pd) (E : Nat → Bool) (F V : Nat → Wd) (i : Nat) : Wd := bg E F (ps.getD i (0, [])).2 (V (ps.getD i (0, [])).1.toNat)
theorem sts_at {ps : List Pd} {E : Nat → Bool} {F V : Nat → Wd} {i : Nat} (h : i < ps.length) : sts ps E F V i = bg E F ps[i].2 (V ps[i].1.toNat) := by
  have e : ps.getD i (0, []) = ps[i] := by rw [List.getD_eq_getElem?_getD, List.getElem?_eq_getElem h]; rfl
  unfold sts; rw [e]
def mayB (ps : List Pd) (S : Nat → Wd) (T non col i : Nat) : Bool := decide ((ps.getD i (0, [])).1 = (non : Int)) && (S i).getLsbD (bc T col)
theorem mayB_at {ps : List Pd} {S : Nat → Wd} {T non col i : Nat} (h : i < ps.length) : mayB ps S T non col i = (decide (ps[i].1 = (non : Int)) && (S i).getLsbD (bc T col)) := by
  have e : ps.getD i (0, []) = ps[i] := by rw [List.getD_eq_getElem?_getD, List.getElem?_eq_getElem h]; rfl
  unfold mayB; rw [e]
def mayQ (ps : List Pd) (S : Nat → Wd) (T non col q : Nat) : List Int := ((List.range q).filter (mayB ps S T non col)).map fun (x : Nat) => (x : Int)
theorem mayQ_step (ps : List Pd) (S : Nat → Wd) (T non col q : Nat) : mayQ ps S T non col (q + 1) = mayQ ps S T non col q ++ (if mayB ps S T non col q = true then [(q : Int)] else []) := by
  unfold mayQ
  rw [List.range_succ, List.filter_append, List.map_append]
  congr 1
  by_cases h : mayB ps S T non col q = true
  · rw [if_pos h, List.filter_cons, if_pos h]; rfl
  · rw [if_neg h, List.filter_cons, if_neg h]; rfl
theorem mayQ_true {ps : List Pd} {S : Nat → Wd} {T non col q : Nat} (h : mayB ps S T non col q = true) : mayQ ps S T non col (q + 1) = mayQ ps S T non col q ++ [(q : Int)] := by rw [mayQ_step, if_pos h]
theorem mayQ_false {ps : List Pd} {S : Nat → Wd} {T non col q : Nat} (h : mayB ps S T non col q = false) : mayQ ps S T non col (q + 1) = mayQ ps S T non col q := by rw [mayQ_step, if_neg (by rw [h]; decide), List.append_nil]
theorem mayQ_length (ps : List Pd) (S : Nat → Wd) (T non col q : Nat) : (mayQ ps S T non col q).length ≤ q := by
  unfold mayQ; rw [List.length_map]; have := List.length_filter_le (mayB ps S T non col) (List.range q); simpa using this
theorem mayQ_ge {ps : List Pd} {S : Nat → Wd} {T non col q : Nat} : ∀ x ∈ mayQ ps S T non col q, 0 ≤ x := fun x hx => by
  unfold mayQ at hx
  obtain ⟨y, _, rfl⟩ := List.mem_map.1 hx
  omega
def hdI (l : List Int) : Int := l.headD (-1)
theorem hdI_nil : hdI [] = -1 := rfl
theorem hdI_app {l : List Int} (h : l ≠ []) (m : List Int) : hdI (l ++ m) = hdI l := by
  cases l with
  | nil => exact absurd rfl h
  | cons a l => rfl
theorem tl_app {l : List Int} (h : l ≠ []) (m : List Int) : (l ++ m).tail = l.tail ++ m := by
  cases l with
  | nil => exact absurd rfl h
  | cons a l => rfl
theorem hdI_neg {l : List Int} (h : ∀ x ∈ l, 0 ≤ x) : (hdI l == -1) = true ↔ l = [] := by
  cases l with
  | nil => simp [hdI]
  | cons a l =>
    have := h a (by simp)
    simp [hdI]; omega
abbrev Cl := Int × Int × Int × Int
def mayL (ps : List Pd) (S : Nat → Wd) (T non col : Nat) : List Int := mayQ ps S T non col ps.length
def clsC (ps : List Pd) (S : Nat → Wd) (T non col : Nat) : List Cl := (mayL ps S T non col).tail.map fun b => ((non : Int), (col : Int), hdI (mayL ps S T non col), b)
def clsR (ps : List Pd) (S : Nat → Wd) (T non : Nat) : Nat → List Cl
  | 0 => []
  | k + 1 => clsR ps S T non k ++ clsC ps S T non k
def clsN (ps : List Pd) (S : Nat → Wd) (T : Nat) : Nat → List Cl
  | 0 => []
  | k + 1 => clsN ps S T k ++ clsR ps S T k (T + 1)
def rowA (ps : List Pd) (S : Nat → Wd) (T non col : Nat) : Int := hdI (mayL ps S T non col)
def rowL (ps : List Pd) (S : Nat → Wd) (T non k : Nat) : List Int := (List.range k).map (rowA ps S T non)
def rowsL (ps : List Pd) (S : Nat → Wd) (T k : Nat) : List (List Int) := (List.range k).map fun non => rowL ps S T non (T + 1)
theorem rowL_succ (ps : List Pd) (S : Nat → Wd) (T non k : Nat) : rowL ps S T non (k + 1) = rowL ps S T non k ++ [rowA ps S T non k] := by
  unfold rowL; rw [List.range_succ, List.map_append]; rfl
theorem rowsL_succ (ps : List Pd) (S : Nat → Wd) (T k : Nat) : rowsL ps S T (k + 1) = rowsL ps S T k ++ [rowL ps S T k (T + 1)] := by
  unfold rowsL; rw [List.range_succ, List.map_append]; rfl
theorem rowL_length (ps : List Pd) (S : Nat → Wd) (T non k : Nat) : (rowL ps S T non k).length = k := by simp [rowL]
theorem rowsL_length (ps : List Pd) (S : Nat → Wd) (T k : Nat) : (rowsL ps S T k).length = k := by simp [rowsL]
theorem mayL_le (ps : List Pd) (S : Nat → Wd) (T non col : Nat) : (mayL ps S T non col).length ≤ ps.length := mayQ_length _ _ _ _ _ _
theorem clsC_le (ps : List Pd) (S : Nat → Wd) (T non col : Nat) : (clsC ps S T non col).length ≤ ps.length := by
  unfold clsC; rw [List.length_map, List.length_tail]; have := mayL_le ps S T non col; omega
theorem clsR_le (ps : List Pd) (S : Nat → Wd) (T non k : Nat) : (clsR ps S T non k).length ≤ k * ps.length := by
  induction k with
  | zero => simp [clsR]
  | succ k ih => unfold clsR; rw [List.length_append, Nat.succ_mul]; have := clsC_le ps S T non k; omega
theorem clsN_le (ps : List Pd) (S : Nat → Wd) (T k : Nat) : (clsN ps S T k).length ≤ k * ((T + 1) * ps.length) := by
  induction k with
  | zero => simp [clsN]
  | succ k ih => unfold clsN; rw [List.length_append, Nat.succ_mul]; have := clsR_le ps S T k (T + 1); omega
/-- All are few. -/
theorem cls_few {ps : List Pd} {S : Nat → Wd} {T k non : Nat} (hp : ps.length ≤ 40) (hT : T ≤ 30) (hn : k ≤ 20) (c : Nat) (hc : c ≤ T + 1) : (clsN ps S T k ++ clsR ps S T non c).length ≤ 30000 := by
  rw [List.length_append]
  have h1 := clsN_le ps S T k
  have h2 := clsR_le ps S T non c
  have h3 : (T + 1) * ps.length ≤ 31 * 40 := Nat.mul_le_mul (by omega) hp
  have h4 : k * ((T + 1) * ps.length) ≤ 20 * (31 * 40) := Nat.mul_le_mul hn h3
  have h5 : c * ps.length ≤ 31 * 40 := Nat.mul_le_mul (by omega) hp
  omega
/-- The sets of a grammar: the only ones. -/
def TK (ps : List Pd) (S : Nat → Wd) : Prop := ∃ E F V R M, Fa ps E F V R M ∧ S = sts ps E F V
theorem TK.uniq {ps : List Pd} {S S' : Nat → Wd} (h : TK ps S) (k : TK ps S') : S = S' := by
  obtain ⟨E, F, V, R, M, h1, rfl⟩ := h
  obtain ⟨E', F', V', R', M', k1, rfl⟩ := k
  obtain ⟨rfl, rfl, rfl, rfl, rfl⟩ := h1.uniq k1
  rfl
/-! Rows that were handed in. -/
def okP (ps : List Pd) (non x : Int) : Bool := decide (0 ≤ x) && decide (x < (ps.length : Int)) && decide ((ps.getD x.toNat (0, [])).1 = non)
def okX (ps : List Pd) (non x : Int) : Bool := (x == -1) || okP ps non x
def okRow (t : Int) (ps : List Pd) (non : Int) (row : List Int) : Bool := decide ((row.length : Int) = t + 1) && row.all (okX ps non)
def okRows (t : Int) (ps : List Pd) : Nat → List (List Int) → Bool
  | _, [] => true
  | k, r :: l => okRow t ps (k : Int) r && okRows t ps (k + 1) l
def chkR (t n : Int) (ps : List Pd) (rows : List (List Int)) : Int := if chk t n ps = 0 then (if (rows.length : Int) = n then (if okRows t ps 0 rows = true then 0 else 1) else 1) else chk t n ps
theorem okRows_at {t : Int} {ps : List Pd} {rows : List (List Int)} {k : Nat} (h : k < rows.length) : okRows t ps k (rows.drop k) = (okRow t ps (k : Int) rows[k] && okRows t ps (k + 1) (rows.drop (k + 1))) := by
  rw [List.drop_eq_getElem_cons h]; rfl
end Cg
end Go.Proofs.Ytpbnnmfjahckmaa

namespace Go.Proofs.Ytpbnnmfjahckmaa
namespace Cg

/-- The column of what comes next. -/
def colOf (T : Nat) : List Int → Nat
  | [] => T
  | x :: _ => x.toNat
theorem may_node {ps : List Pd} {E : Nat → Bool} {F V : Nat → Wd} {R M : Nat → Bool} (hfa : Fa ps E F V R M) {kids : List T} {z hd T : Nat} {k : Int} {s : Sy} {post : List Int} (hT : T ≤ 60) (h : sh ps (.mk (z : Int) k kids) s = true) (h4 : s.1 ≠ 1) (hs : s.2 = (hd : Int)) (hV : le (nx post) (V hd)) (hx : ∀ x ∈ yl ps (.mk (z : Int) k kids) s ++ post, 0 ≤ x ∧ x < (T : Int)) : z < ps.length ∧ mayB ps (sts ps E F V) T hd (colOf T (yl ps (.mk (z : Int) k kids) s ++ post)) z = true := by
  obtain ⟨h1, h2, h3, h5⟩ := sh_node h h4
  have hz := isPr_le h1
  have hzl : z < ps.length := by omega
  refine ⟨hzl, ?_⟩
  have eg : ps.getD z (0, []) = ps[z] := by rw [List.getD_eq_getElem?_getD, List.getElem?_eq_getElem hzl]; rfl
  have eh : ps[z].1 = (hd : Int) := by rw [← hs, ← h2]; unfold headOf; rw [Int.toNat_natCast, eg]
  have eb : ps[z].2 = bodyOf ps (z : Int) := by unfold bodyOf; rw [Int.toNat_natCast, eg]
  rw [mayB_at hzl, sts_at hzl, eh, eb]
  simp only [decide_true, Bool.true_and, Int.toNat_natCast]
  have hn := next_shL hfa.m.cl hfa.e.cl hfa.f.cl h5 post (V hd) (Or.inr hV)
  rw [yl, if_neg h4] at hx ⊢
  refine le_bits.1 hn _ ?_
  cases hy : ylL ps kids (bodyOf ps (z : Int)) ++ post with
  | nil => simp [colOf, nx, bc, endW]
  | cons x r =>
    rw [hy] at hx
    have := hx x (by simp)
    have hb : bc T x.toNat = x.toNat := by unfold bc; rw [if_neg (by omega)]
    simp only [colOf, nx, hb]
    have h6 : x.toNat < 64 := by omega
    simp [h6]
theorem clsR_nil {ps : List Pd} {S : Nat → Wd} {T non : Nat} : ∀ {k : Nat}, clsR ps S T non k = [] → ∀ c, c < k → clsC ps S T non c = []
  | 0, _, c, hc => absurd hc (Nat.not_lt_zero _)
  | k + 1, h, c, hc => by
    unfold clsR at h
    obtain ⟨h1, h2⟩ := List.append_eq_nil_iff.1 h
    by_cases e : c = k
    · subst e; exact h2
    · exact clsR_nil h1 c (by omega)
theorem clsN_nil {ps : List Pd} {S : Nat → Wd} {T : Nat} : ∀ {k : Nat}, clsN ps S T k = [] → ∀ non, non < k → ∀ c, c < T + 1 → clsC ps S T non c = []
  | 0, _, non, hn => absurd hn (Nat.not_lt_zero _)
  | k + 1, h, non, hn => by
    unfold clsN at h
    obtain ⟨h1, h2⟩ := List.append_eq_nil_iff.1 h
    by_cases e : non = k
    · subst e; exact clsR_nil h2
    · exact clsN_nil h1 non (by omega)
theorem row_one {ps : List Pd} {S : Nat → Wd} {T n non col z : Nat} (h : clsN ps S T n = []) (hn : non < n) (hc : col < T + 1) (hz : z < ps.length) (hm : mayB ps S T non col z = true) : rowA ps S T non col = (z : Int) := by
  have h1 := clsN_nil h non hn col hc
  unfold clsC at h1
  have h2 : (mayL ps S T non col).tail = [] := List.map_eq_nil_iff.1 h1
  have h3 : (z : Int) ∈ mayL ps S T non col := by
    unfold mayL mayQ
    exact List.mem_map.2 ⟨z, List.mem_filter.2 ⟨List.mem_range.2 hz, hm⟩, rfl⟩
  unfold rowA
  cases hl : mayL ps S T non col with
  | nil => rw [hl] at h3; cases h3
  | cons a l =>
    rw [hl] at h2 h3
    simp only [List.tail_cons] at h2
    subst h2
    simp at h3
    subst h3
    rfl
end Cg
end Go.Proofs.Ytpbnnmfjahckmaa

namespace Go.Proofs.Ytpbnnmfjahckmaa
namespace Cg

/-- What comes next, the end as the bit behind all terminals. -/
def nx2 (nt : Nat) (l : List Int) : Wd := 1#64 <<< colOf nt l
mutual
theorem first2 {ps : List Pd} {M E : Nat → Bool} {F : Nat → Wd} (nt : Nat) (hM : ClM ps true M) (hE : ClM ps false E) (hF : ClF ps M E F) : ∀ {l : List T} {ss : List Sy}, shL ps l ss = true → ∀ (post : List Int) (b : Wd), (ylL ps l ss ≠ [] ∨ le (nx2 nt post) b) → le (nx2 nt (ylL ps l ss ++ post)) (bg E F ss b)
  | [], ss, h, post, b, hb => by
    rw [shL] at h; simp at h; subst h
    rcases hb with hb | hb
    · simp [ylL] at hb
    · simpa [ylL, bg] using hb
  | t :: l, [], h, post, b, hb => by rw [shL] at h; simp at h
  | t :: l, s :: ss, h, post, b, hb => by
    rw [shL] at h; simp at h
    rw [ylL, bg]
    rw [ylL] at hb
    simp only [List.headD_cons, List.tail_cons] at hb ⊢
    by_cases h4 : s.1 = 1
    · rw [if_pos h4]
      have h6 := sh_is_leaf h.1 h4
      rw [h6, yl, if_pos h4]
      exact le_refl _
    · rw [if_neg h4]
      cases hy : yl ps t s with
      | cons x r => exact le_trans (first_sh hM hE hF h.1 h4 hy) (le_orl _ _)
      | nil =>
        rw [hy] at hb
        rw [empty_sh hE h.1 h4 hy, if_pos rfl, List.nil_append]
        rw [List.nil_append] at hb
        exact le_trans (first2 nt hM hE hF h.2 post b hb) (le_orr _ _)
end
/-- An item is in the state to which these symbols lead. -/
inductive Vi (nt : Nat) (ps : List Pd) (E : Nat → Bool) (F : Nat → Wd) : List Sy → It → Prop where
  | start : Vi nt ps E F [] (ps.length, 0, nt)
  | open (γ : List Sy) (x y : It) : Vi nt ps E F γ x → Opn nt ps E F x y → Vi nt ps E F γ y
  | move (γ : List Sy) (x : It) (s : Sy) (tl : List Sy) : Vi nt ps E F γ x → rst ps x = s :: tl → Vi nt ps E F (γ ++ [s]) (x.1, x.2.1 + 1, x.2.2)
/-- No state has two acts for one terminal, or for the end. -/
structure Nf (nt : Nat) (ps : List Pd) (E : Nat → Bool) (F : Nat → Wd) : Prop where
  rr : ∀ γ x y, Vi nt ps E F γ x → Vi nt ps E F γ y → rst ps x = [] → rst ps y = [] → x.2.2 = y.2.2 → x.1 = y.1
  sr : ∀ γ x y tl, Vi nt ps E F γ x → Vi nt ps E F γ y → rst ps x = [] → rst ps y = (1, (x.2.2 : Int)) :: tl → False
/-- One act: symbols had, what is to come, how many tokens were had. -/
inductive Ac (nt : Nat) (ps : List Pd) (E : Nat → Bool) (F : Nat → Wd) : Ev → List Sy → List Int → Nat → List Sy → List Int → Nat → Prop where
  | shift (γ : List Sy) (c : Int) (r r' : List Int) (lv : Nat) (y : It) (tl : List Sy) (hr : r = c :: r') : Vi nt ps E F γ y → rst ps y = (1, c) :: tl → Ac nt ps E F (2, (lv : Int)) γ r lv (γ ++ [(1, c)]) r' (lv + 1)
  | reduce (γ γ0 : List Sy) (p : Nat) (r : List Int) (lv : Nat) (y : It) (hg : γ = γ0 ++ bod ps p) : Vi nt ps E F γ y → rst ps y = [] → y.1 = p → p < ps.length → y.2.2 = colOf nt r → Ac nt ps E F (4, (p : Int)) γ r lv (γ0 ++ [(2, (ps.getD p (0, [])).1)]) r lv
inductive Acs (nt : Nat) (ps : List Pd) (E : Nat → Bool) (F : Nat → Wd) : List Ev → List Sy → List Int → Nat → List Sy → List Int → Nat → Prop where
  | nil (γ : List Sy) (r : List Int) (lv : Nat) : Acs nt ps E F [] γ r lv γ r lv
  | cons (e : Ev) (l : List Ev) (γ γ' γ'' : List Sy) (r r' r'' : List Int) (a b c : Nat) : Ac nt ps E F e γ r a γ' r' b → Acs nt ps E F l γ' r' b γ'' r'' c → Acs nt ps E F (e :: l) γ r a γ'' r'' c
theorem Acs.app {nt : Nat} {ps : List Pd} {E : Nat → Bool} {F : Nat → Wd} {l m : List Ev} {γ γ' γ'' : List Sy} {r r' r'' : List Int} {a b c : Nat} (h : Acs nt ps E F l γ r a γ' r' b) (k : Acs nt ps E F m γ' r' b γ'' r'' c) : Acs nt ps E F (l ++ m) γ r a γ'' r'' c := by
  induction h with
  | nil => simpa using k
  | cons e l γ γ' γ3 r r' r3 a b c h1 _ ih => exact .cons e _ _ _ _ _ _ _ _ _ _ h1 (ih k)
/-- What comes next is a terminal, or the end. -/
def Rg2 (nt : Nat) (l : List Int) : Prop := ∀ x ∈ l, 0 ≤ x ∧ x < (nt : Int)
theorem col_le {nt : Nat} {l : List Int} (h : Rg2 nt l) : colOf nt l ≤ nt := by
  cases l with
  | nil => exact Nat.le_refl _
  | cons x r => have := h x (by simp); simp only [colOf]; omega
mutual
theorem acs_sh {ps : List Pd} {M E : Nat → Bool} {F : Nat → Wd} {nt : Nat} (hnt : nt < 64) (hM : ClM ps true M) (hE : ClM ps false E) (hF : ClF ps M E F) (hok : ∀ p ∈ ps, ∀ s ∈ p.2, s.1 = 1 ∨ s.1 = 2) : ∀ {t : T} {s : Sy} (γ : List Sy) (x : It) (tl : List Sy) (post : List Int) (lv : Nat), sh ps t s = true → (s.1 = 1 ∨ s.1 = 2) → tk t = nums lv (tk t).length → Vi nt ps E F γ x → rst ps x = s :: tl → le (nx2 nt post) (bg E F tl (1#64 <<< x.2.2)) → Rg2 nt (yl ps t s ++ post) → Acs nt ps E F (evU t) γ (yl ps t s ++ post) lv (γ ++ [s]) post (lv + (tk t).length)
  | .mk p k l, s, γ, x, tl, post, lv, h, hk, htk, hv, hr, hn, hx => by
    by_cases h4 : s.1 = 1
    · have e := sh_is_leaf h h4
      injection e with e1 e2 e3
      subst e1 e3
      rw [tk, if_pos rfl] at htk ⊢
      simp [nums] at htk
      subst htk
      obtain ⟨s1, s2⟩ := s
      simp only at h4
      subst h4
      rw [yl, if_pos rfl, evU, if_pos rfl]
      exact .cons _ _ _ _ _ _ _ _ _ _ _ (.shift γ s2 _ post lv x tl rfl hv hr) (.nil _ _ _)
    · obtain ⟨h1, h2, h3, h5⟩ := sh_node h h4
      have hle := isPr_le h1
      subst h3
      obtain ⟨z, rfl⟩ : ∃ z : Nat, p = (z : Int) := ⟨p.toNat, by omega⟩
      have hz : z < ps.length := by omega
      have hs2 : s.1 = 2 := hk.resolve_left h4
      obtain ⟨s1, s2⟩ := s
      simp only at hs2 h2
      subst hs2
      rw [yl, if_neg h4] at hx ⊢
      rw [tk, if_neg (by omega)] at htk ⊢
      have hcl : colOf nt post ≤ nt := col_le fun y hy => hx y (List.mem_append_right _ hy)
      have hbody : bodyOf ps (z : Int) = (ps.getD z (0, [])).2 := by unfold bodyOf; rw [Int.toNat_natCast]
      have hbod : bod ps z = bodyOf ps (z : Int) := by unfold bod; rw [if_neg (by omega), hbody]
      have hhead : (ps.getD z (0, [])).1 = s2 := by unfold headOf at h2; rw [Int.toNat_natCast] at h2; exact h2
      have hopen : Vi nt ps E F γ (z, 0, colOf nt post) := by
        refine .open γ x _ hv ⟨s2, tl, hr, hz, hhead, rfl, hcl, ?_⟩
        refine le_bits.1 hn _ ?_
        unfold nx2
        simp
        omega
      have hall : ∀ s ∈ bodyOf ps (z : Int), s.1 = 1 ∨ s.1 = 2 := fun s hs => hok (ps.getD z (0, [])) (by rw [List.getD_eq_getElem?_getD, List.getElem?_eq_getElem hz]; exact List.getElem_mem hz) s (by rw [← hbody]; exact hs)
      have hk := acs_shL hnt hM hE hF hok γ z 0 (colOf nt post) post lv h5 (by rw [hbod, List.drop_zero]) (Nat.zero_le _) hall htk (by rw [List.take_zero, List.append_nil]; exact hopen) (by exact le_refl _) hx
      rw [List.take_zero, List.append_nil] at hk
      rw [evU, if_neg (by omega)]
      refine hk.1.app (.cons _ _ _ _ _ _ _ _ _ _ _ ?_ (.nil _ _ _))
      have hred := Ac.reduce (nt := nt) (E := E) (F := F) (γ ++ bod ps z) γ z post (lv + (tkL l).length) (z, (bod ps z).length, colOf nt post) rfl hk.2 (by unfold rst; exact List.drop_length) rfl hz rfl
      rw [hhead] at hred
      exact hred
theorem acs_shL {ps : List Pd} {M E : Nat → Bool} {F : Nat → Wd} {nt : Nat} (hnt : nt < 64) (hM : ClM ps true M) (hE : ClM ps false E) (hF : ClF ps M E F) (hok : ∀ p ∈ ps, ∀ s ∈ p.2, s.1 = 1 ∨ s.1 = 2) : ∀ {l : List T} {ss : List Sy} (γ : List Sy) (z d look : Nat) (post : List Int) (lv : Nat), shL ps l ss = true → (bod ps z).drop d = ss → d ≤ (bod ps z).length → (∀ s ∈ ss, s.1 = 1 ∨ s.1 = 2) → tkL l = nums lv (tkL l).length → Vi nt ps E F (γ ++ (bod ps z).take d) (z, d, look) → le (nx2 nt post) (1#64 <<< look) → Rg2 nt (ylL ps l ss ++ post) → Acs nt ps E F (evUL l) (γ ++ (bod ps z).take d) (ylL ps l ss ++ post) lv (γ ++ bod ps z) post (lv + (tkL l).length) ∧ Vi nt ps E F (γ ++ bod ps z) (z, (bod ps z).length, look)
  | [], ss, γ, z, d, look, post, lv, h, hd, hdl, hks, htk, hv2, hn, hx => by
    rw [shL] at h; simp at h; subst h
    have e : d = (bod ps z).length := by have := congrArg List.length hd; simp at this; omega
    subst e
    rw [List.take_length] at hv2 ⊢
    exact ⟨by simpa [evUL, ylL, tkL] using Acs.nil (nt := nt) (ps := ps) (E := E) (F := F) (γ ++ bod ps z) post lv, hv2⟩
  | t :: l, [], γ, z, d, look, post, lv, h, hd, hdl, hks, htk, hv2, hn, hx => by rw [shL] at h; simp at h
  | t :: l, s :: ss, γ, z, d, look, post, lv, h, hd, hdl, hks, htk, hv2, hn, hx => by
    rw [shL] at h; simp at h
    have hlt : d < (bod ps z).length := by
      rcases Nat.lt_or_ge d (bod ps z).length with h' | h'
      · exact h'
      · rw [List.drop_eq_nil_of_le h'] at hd; cases hd
    have hd2 := hd
    rw [List.drop_eq_getElem_cons hlt] at hd2
    simp only [List.cons.injEq] at hd2
    obtain ⟨hs, hss⟩ := hd2
    rw [tkL] at htk
    obtain ⟨q1, q2⟩ := nums_split htk
    rw [ylL] at hx ⊢
    simp only [List.headD_cons, List.tail_cons, List.append_assoc] at hx ⊢
    have hrst : rst ps (z, d, look) = s :: ss := hd
    have hnx := first2 nt hM hE hF h.2 post (1#64 <<< look) (Or.inr hn)
    have a1 := acs_sh hnt hM hE hF hok (γ ++ (bod ps z).take d) (z, d, look) ss (ylL ps l ss ++ post) lv h.1 (hks s (by simp)) q1 hv2 hrst hnx hx
    have hv3 : Vi nt ps E F (γ ++ (bod ps z).take (d + 1)) (z, d + 1, look) := by
      have := Vi.move (γ ++ (bod ps z).take d) (z, d, look) s ss hv2 hrst
      rw [List.append_assoc, ← hs, ← List.take_succ_eq_append_getElem hlt] at this
      exact this
    obtain ⟨a2, a3⟩ := acs_shL hnt hM hE hF hok γ z (d + 1) look post (lv + (tk t).length) h.2 hss hlt (fun u hu => hks u (by simp [hu])) q2 hv3 hn (fun x hm => hx x (List.mem_append_right _ hm))
    refine ⟨?_, a3⟩
    rw [evUL, tkL, List.length_append, ← Nat.add_assoc]
    refine a1.app ?_
    rw [List.take_succ_eq_append_getElem hlt, hs, ← List.append_assoc] at a2
    exact a2
end
/-- There is one act at most. -/
theorem ac_det {nt : Nat} {ps : List Pd} {E : Nat → Bool} {F : Nat → Wd} (hn : Nf nt ps E F) {e e' : Ev} {γ γ1 γ2 : List Sy} {r r1 r2 : List Int} {a b c : Nat} (hr : Rg2 nt r) (h : Ac nt ps E F e γ r a γ1 r1 b) (k : Ac nt ps E F e' γ r a γ2 r2 c) : e = e' ∧ γ1 = γ2 ∧ r1 = r2 ∧ b = c ∧ Rg2 nt r1 := by
  cases h with
  | shift _ c1 _ _ _ y tl h1 h2 h3 =>
    subst h1
    cases k with
    | shift _ c2 _ _ _ y' tl' k1 k2 k3 =>
      simp only [List.cons.injEq] at k1
      obtain ⟨rfl, rfl⟩ := k1
      exact ⟨rfl, rfl, rfl, rfl, fun x hx => hr x (by simp [hx])⟩
    | reduce _ γ0 p _ _ y' k1 k2 k3 k4 k5 k6 =>
      have hc := hr c1 (by simp)
      have e : ((y'.2.2 : Nat) : Int) = c1 := by rw [k6]; simp only [colOf]; omega
      exact (hn.sr γ y' y tl k2 h2 k3 (by rw [e]; exact h3)).elim
  | reduce _ γ0 p _ _ y h1 h2 h3 h4 h5 h6 =>
    cases k with
    | shift _ c2 _ _ _ y' tl' k1 k2 k3 =>
      subst k1
      have hc := hr c2 (by simp)
      have e : ((y.2.2 : Nat) : Int) = c2 := by rw [h6]; simp only [colOf]; omega
      exact (hn.sr γ y y' tl' h2 k2 h3 (by rw [e]; exact k3)).elim
    | reduce _ γ0' p' _ _ y' k1 k2 k3 k4 k5 k6 =>
      have ep := hn.rr γ y y' h2 k2 h3 k3 (by rw [h6, k6])
      have e2 : p = p' := by rw [← h4, ← k4]; exact ep
      subst e2
      rw [h1] at k1
      have e3 := List.append_cancel_right k1
      subst e3
      exact ⟨rfl, rfl, rfl, rfl, hr⟩
theorem acs_det {nt : Nat} {ps : List Pd} {E : Nat → Bool} {F : Nat → Wd} (hn : Nf nt ps E F) {l : List Ev} {γ γ1 : List Sy} {r r1 : List Int} {a b : Nat} (h : Acs nt ps E F l γ r a γ1 r1 b) : Rg2 nt r → ∀ {m : List Ev} {γ2 : List Sy} {r2 : List Int} {c : Nat}, Acs nt ps E F m γ r a γ2 r2 c → (∃ k, m = l ++ k ∧ Acs nt ps E F k γ1 r1 b γ2 r2 c) ∨ (∃ k, l = m ++ k ∧ Acs nt ps E F k γ2 r2 c γ1 r1 b) := by
  induction h with
  | nil γ r a => exact fun _ _ _ _ _ k => Or.inl ⟨_, rfl, k⟩
  | cons e l γ γ' γ'' r r' r'' a b c h1 h2 ih =>
    intro hr m γ2 r2 c2 k
    cases k with
    | nil => exact Or.inr ⟨e :: l, rfl, .cons e l _ _ _ _ _ _ _ _ _ h1 h2⟩
    | cons e' l' _ δ _ _ s' _ _ b' _ k1 k2 =>
      obtain ⟨rfl, rfl, rfl, rfl, hr'⟩ := ac_det hn hr h1 k1
      rcases ih hr' k2 with ⟨k, rfl, hk⟩ | ⟨k, rfl, hk⟩
      · exact Or.inl ⟨k, rfl, hk⟩
      · exact Or.inr ⟨k, rfl, hk⟩
/-- KNUTH. -/
theorem lr_one {nt : Nat} {ps : List Pd} {M E : Nat → Bool} {F : Nat → Wd} (hn : Nf nt ps E F) (hnt : nt < 64) (hM : ClM ps true M) (hE : ClM ps false E) (hF : ClF ps M E F) (hok : ∀ p ∈ ps, ∀ s ∈ p.2, s.1 = 1 ∨ s.1 = 2) {t u : T} (h : sh ps t (2, 0) = true) (h' : sh ps u (2, 0) = true) (ht : tk t = nums 0 (tk t).length) (ht' : tk u = nums 0 (tk u).length) (e : yl ps t (2, 0) = yl ps u (2, 0)) (hx : Rg2 nt (yl ps t (2, 0))) : t = u := by
  have hst : Vi nt ps E F [] (ps.length, 0, nt) := .start
  have hr0 : rst ps (ps.length, 0, nt) = [(2, 0)] := by unfold rst bod; simp
  have hend : Vi nt ps E F [(2, 0)] (ps.length, 1, nt) := by
    have := Vi.move [] (ps.length, 0, nt) (2, 0) [] hst hr0
    simpa using this
  have hr1 : rst ps (ps.length, 1, nt) = [] := by unfold rst bod; simp
  have run : ∀ {v : T}, sh ps v (2, 0) = true → tk v = nums 0 (tk v).length → yl ps v (2, 0) = yl ps t (2, 0) → Acs nt ps E F (evU v) [] (yl ps t (2, 0)) 0 [(2, 0)] [] (tk v).length := fun {v} hv hv2 hy => by
    have := acs_sh hnt hM hE hF hok [] (ps.length, 0, nt) [] [] 0 hv (Or.inr rfl) hv2 hst hr0 (le_refl _) (by rw [hy, List.append_nil]; exact hx)
    rw [hy] at this
    simpa using this
  have stop : ∀ {k : List Ev} {c : Nat} {δ : List Sy} {r : List Int} {d : Nat}, Acs nt ps E F k [(2, 0)] [] c δ r d → k = [] := fun {k c δ r d} hk => by
    cases hk with
    | nil => rfl
    | cons e' l' _ δ _ _ s' _ _ b' _ k1 k2 =>
      cases k1 with
      | shift _ c2 _ _ _ y' tl' q1 q2 q3 => cases q1
      | reduce _ γ0' p' _ _ y' q1 q2 q3 q4 q5 q6 =>
        have := hn.rr _ y' (ps.length, 1, nt) q2 hend q3 hr1 (by rw [q6]; rfl)
        simp only at this
        omega
  have hev : evU t = evU u := by
    rcases acs_det hn (run h ht rfl) hx (run h' ht' e.symm) with ⟨k, h1, h2⟩ | ⟨k, h1, h2⟩
    · rw [stop h2, List.append_nil] at h1; exact h1.symm
    · rw [stop h2, List.append_nil] at h1; exact h1
  exact (evU_one t.sz (r := []) (q := []) (Nat.le_refl _) h h' (by rw [hev])).1
end Cg
end Go.Proofs.Ytpbnnmfjahckmaa

namespace Go.Proofs.Ytpbnnmfjahckmaa
namespace Cg

theorem rst_nil {T : Nat} {ps : List Pd} {x : It} (h : OkIt T ps x) : rst ps x = [] ↔ x.2.1 = (bod ps x.1).length := by
  unfold rst
  have := h.d
  rw [List.drop_eq_nil_iff]
  omega
theorem actX_inj {ps : List Pd} {p q : Nat} (h : actX ps p = actX ps q) : p = q := by
  unfold actX at h
  by_cases e1 : p = ps.length
  · by_cases e2 : q = ps.length
    · rw [e1, e2]
    · rw [if_pos e1, if_neg e2] at h
      simp at h
  · by_cases e2 : q = ps.length
    · rw [if_neg e1, if_pos e2] at h
      simp at h
    · rw [if_neg e1, if_neg e2] at h
      simp at h
      omega
theorem symAt_inj {T i j : Nat} (h : symAt T i = symAt T j) : i = j := by
  unfold symAt at h
  by_cases e1 : i < T
  · by_cases e2 : j < T
    · rw [if_pos e1, if_pos e2] at h; simp at h; omega
    · rw [if_pos e1, if_neg e2] at h; simp at h
  · by_cases e2 : j < T
    · rw [if_neg e1, if_pos e2] at h; simp at h
    · rw [if_neg e1, if_neg e2] at h; simp at h; omega
theorem sym_col {T n : Nat} {l : List Sy} (h : OkL (T : Int) n l) {s : Sy} (hs : s ∈ l) : ∃ j, j < T + n ∧ symAt T j = s := by
  obtain ⟨s1, s2⟩ := s
  rcases h _ hs with ⟨h1, h2, h3⟩ | ⟨h1, h2, h3⟩
  · simp only at h1 h2 h3
    refine ⟨s2.toNat, by omega, ?_⟩
    unfold symAt
    rw [if_pos (by omega)]
    exact Prod.ext (by simp [h1]) (by simp; omega)
  · simp only at h1 h2 h3
    refine ⟨T + s2.toNat, by omega, ?_⟩
    unfold symAt
    rw [if_neg (by omega)]
    exact Prod.ext (by simp [h1]) (by simp; omega)
/-- To which state symbols lead. -/
inductive Gs (T : Nat) (nx : List (List Int)) : List Sy → Nat → Prop where
  | nil : Gs T nx [] 0
  | snoc (γ : List Sy) (i k j : Nat) (r : List Int) : Gs T nx γ i → nx[i]? = some r → r[j]? = some (k : Int) → Gs T nx (γ ++ [symAt T j]) k
theorem Gs.inv {T : Nat} {nx : List (List Int)} {δ : List Sy} {k : Nat} (h : Gs T nx δ k) : (δ = [] ∧ k = 0) ∨ ∃ γ i j r, δ = γ ++ [symAt T j] ∧ Gs T nx γ i ∧ nx[i]? = some r ∧ r[j]? = some (k : Int) := by
  cases h with
  | nil => exact Or.inl ⟨rfl, rfl⟩
  | snoc γ i k j r h1 h2 h3 => exact Or.inr ⟨γ, i, j, r, rfl, h1, h2, h3⟩
theorem Gs.det {T : Nat} {nx : List (List Int)} {δ : List Sy} {k : Nat} (h : Gs T nx δ k) : ∀ {k' : Nat}, Gs T nx δ k' → k = k' := by
  induction h with
  | nil =>
    intro k' h'
    rcases h'.inv with ⟨-, e⟩ | ⟨γ, i, j, r, e, -⟩
    · exact e.symm
    · have := congrArg List.length e; simp at this
  | snoc γ i k j r h1 h2 h3 ih =>
    intro k' h'
    rcases h'.inv with ⟨e, -⟩ | ⟨γ', i', j', r', e, g1, g2, g3⟩
    · have := congrArg List.length e; simp at this
    · obtain ⟨e1, e2⟩ := List.append_inj' e rfl
      subst e1
      simp at e2
      have ej := symAt_inj e2
      subst ej
      have ei := ih g1
      subst ei
      rw [h2] at g2
      cases g2
      rw [h3] at g3
      simp at g3
      omega
theorem nd_idx {α : Type} {l : List α} (h : l.Nodup) {i j : Nat} (hi : i < l.length) (hj : j < l.length) (e : l[i] = l[j]) : i = j := by
  rcases Nat.lt_trichotomy i j with h1 | h1 | h1
  · exact absurd e (List.pairwise_iff_getElem.1 h i j hi hj h1)
  · exact h1
  · exact absurd e.symm (List.pairwise_iff_getElem.1 h j i hj hi h1)
/-- All states, and where their symbols lead. -/
structure Au (T n : Nat) (ps : List Pd) (E : Nat → Bool) (F : Nat → Wd) (ks ss : List (List It)) (nx : List (List Int)) : Prop where
  aw : Auw T n ps E F ks ss nx
  all : nx.length = ks.length
  hk : chk (T : Int) (n : Int) ps = 0
section
variable {T n : Nat} {ps : List Pd} {E : Nat → Bool} {F : Nat → Wd} {ks ss : List (List It)} {nx : List (List Int)}
theorem Au.st_at (h : Au T n ps E F ks ss nx) {i : Nat} (hi : i < ks.length) : ∃ s, ss[i]? = some s := ⟨_, List.getElem?_eq_getElem (by rw [h.aw.st.len]; exact hi)⟩
theorem Au.clsd (h : Au T n ps E F ks ss nx) {i : Nat} {s : List It} (hs : ss[i]? = some s) : ∃ k, ks[i]? = some k ∧ Clsd T ps E F k s := by
  have h1 : i < ks.length := by rw [← h.aw.st.len]; exact (List.getElem?_eq_some_iff.1 hs).1
  exact ⟨_, List.getElem?_eq_getElem h1, h.aw.st.cl i _ s (List.getElem?_eq_getElem h1) hs⟩
theorem Au.syok (h : Au T n ps E F ks ss nx) {i : Nat} {s : List It} (hs : ss[i]? = some s) {x : It} (hx : x ∈ s) : OkL (T : Int) n (rst ps x) := rst_ok h.hk (h.aw.st.sok hs x hx)
/-- A move. -/
theorem Au.move (h : Au T n ps E F ks ss nx) {i : Nat} {s : List It} (hs : ss[i]? = some s) {j : Nat} (hj : j < T + n) : ∃ r z, nx[i]? = some r ∧ r[j]? = some z ∧ To ks (mvd ps (symAt T j) s) z := by
  have h1 : i < nx.length := by rw [h.all, ← h.aw.st.len]; exact (List.getElem?_eq_some_iff.1 hs).1
  obtain ⟨a1, u, a2, a3⟩ := h.aw.rw i _ (List.getElem?_eq_getElem h1)
  rw [hs] at a2
  cases a2
  have h2 : j < (nx[i]).length := by omega
  exact ⟨_, _, List.getElem?_eq_getElem h1, List.getElem?_eq_getElem h2, a3 j _ (List.getElem?_eq_getElem h2)⟩
theorem vi_gs (h : Au T n ps E F ks ss nx) {γ : List Sy} {x : It} (hv : Vi T ps E F γ x) : ∃ i s, Gs T nx γ i ∧ ss[i]? = some s ∧ x ∈ s := by
  induction hv with
  | start =>
    have h0 := h.aw.st.k0
    have hl := (List.getElem?_eq_some_iff.1 h0).1
    obtain ⟨s, hs⟩ := h.st_at hl
    obtain ⟨k, hk1, hk2⟩ := h.clsd hs
    rw [h0] at hk1
    cases hk1
    exact ⟨0, s, .nil, hs, (hk2.2 _).2 (.base _ (by simp))⟩
  | «open» γ x y _ ho ih =>
    obtain ⟨i, s, h1, h2, h3⟩ := ih
    obtain ⟨k, -, hk2⟩ := h.clsd h2
    exact ⟨i, s, h1, h2, (hk2.2 _).2 (.step x y ((hk2.2 _).1 h3) ho)⟩
  | move γ x a tl _ hr ih =>
    obtain ⟨i, s, h1, h2, h3⟩ := ih
    obtain ⟨j, hj, e⟩ := sym_col (h.syok h2 h3) (s := a) (by rw [hr]; simp)
    obtain ⟨r, z, m1, m2, m3⟩ := h.move h2 hj
    rw [e] at m3
    have hmem : (x.1, x.2.1 + 1, x.2.2) ∈ mvd ps a s := mem_mvd.2 ⟨x, h3, ⟨tl, hr⟩, rfl⟩
    rcases m3 with ⟨m3, -⟩ | ⟨-, k, rfl, m4⟩
    · rw [m3] at hmem; simp at hmem
    · obtain ⟨s2, hs2⟩ := h.st_at (List.getElem?_eq_some_iff.1 m4).1
      obtain ⟨k2, q1, q2⟩ := h.clsd hs2
      rw [m4] at q1
      cases q1
      refine ⟨k, s2, ?_, hs2, (q2.2 _).2 (.base _ hmem)⟩
      rw [← e]
      exact .snoc γ i k j r h1 m1 m2
theorem gs_vi (h : Au T n ps E F ks ss nx) {γ : List Sy} {i : Nat} (hg : Gs T nx γ i) : ∀ {s : List It} {x : It}, ss[i]? = some s → x ∈ s → Vi T ps E F γ x := by
  induction hg with
  | nil =>
    intro s x hs hx
    obtain ⟨k, hk1, hk2⟩ := h.clsd hs
    rw [h.aw.st.k0] at hk1
    cases hk1
    have hc := (hk2.2 x).1 hx
    clear hx
    induction hc with
    | base x h1 => simp at h1; subst h1; exact .start
    | step x y _ h2 ih => exact .open _ x y ih h2
  | snoc γ i k j r hg1 hr hz ih =>
    intro s x hs hx
    have hi : i < nx.length := (List.getElem?_eq_some_iff.1 hr).1
    obtain ⟨s0, hs0⟩ := h.st_at (i := i) (by rw [← h.all]; exact hi)
    obtain ⟨a1, u, a2, a3⟩ := h.aw.rw i r hr
    rw [hs0] at a2
    cases a2
    have hto := a3 j _ hz
    rcases hto with ⟨-, e⟩ | ⟨-, m, e, m2⟩
    · omega
    · have : m = k := by omega
      subst this
      obtain ⟨k2, q1, q2⟩ := h.clsd hs
      rw [m2] at q1
      cases q1
      have hc := (q2.2 x).1 hx
      clear hx
      induction hc with
      | base x h1 =>
        obtain ⟨y, hy, ⟨tl, hr2⟩, rfl⟩ := mem_mvd.1 h1
        exact .move γ y _ tl (ih hs0 hy) hr2
      | step x y _ h2 ih2 => exact .open _ x y ih2 h2
theorem gs_reach (h : Au T n ps E F ks ss nx) : ∀ (N i : Nat), i < N → i < ks.length → ∃ γ, Gs T nx γ i
  | 0, i, hi, _ => by omega
  | N + 1, 0, _, _ => ⟨[], .nil⟩
  | N + 1, i + 1, hi, hl => by
    obtain ⟨k, hk⟩ : ∃ k, ks[i + 1]? = some k := ⟨_, List.getElem?_eq_getElem hl⟩
    obtain ⟨j, s, hj, hs, x, e⟩ := h.aw.st.fr i k hk
    obtain ⟨γ, hg⟩ := gs_reach h N j (by omega) (by omega)
    have hne := h.aw.st.ne k (List.mem_of_getElem? hk)
    obtain ⟨y, hy⟩ := List.exists_mem_of_ne_nil k hne
    rw [e] at hy
    obtain ⟨y0, hy0, ⟨tl, hr⟩, -⟩ := mem_mvd.1 hy
    obtain ⟨c, hc, ec⟩ := sym_col (h.syok hs hy0) (s := x) (by rw [hr]; simp)
    obtain ⟨r, z, m1, m2, m3⟩ := h.move hs hc
    rw [ec, ← e] at m3
    rcases m3 with ⟨m3, -⟩ | ⟨-, m, rfl, m4⟩
    · exact absurd m3 hne
    · have hml := (List.getElem?_eq_some_iff.1 m4).1
      have : m = i + 1 := by
        have e1 : ks[m] = ks[i + 1] := by
          have a := List.getElem?_eq_getElem hml
          have b := List.getElem?_eq_getElem hl
          rw [a] at m4
          rw [b] at hk
          exact (Option.some.inj m4).trans (Option.some.inj hk).symm
        exact nd_idx h.aw.st.nd hml hl e1
      subst this
      exact ⟨_, .snoc γ j (i + 1) c r hg m1 m2⟩
theorem ftR_nil {k : Nat} : ∀ {c : Nat}, ftR T ps ss nx k c = [] ↔ ∀ j, j < c → ftC T ps ss nx k j = []
  | 0 => by simp [ftR]
  | c + 1 => by
    rw [ftR, List.append_eq_nil_iff, ftR_nil (c := c)]
    constructor
    · rintro ⟨h1, h2⟩ j hj
      by_cases e : j = c
      · rw [e]; exact h2
      · exact h1 j (by omega)
    · intro h; exact ⟨fun j hj => h j (by omega), h c (by omega)⟩
theorem ftN_nil : ∀ {k : Nat}, ftN T ps ss nx k = [] ↔ ∀ i, i < k → ∀ c, c < T + 1 → (cd T ps ss nx i c).length ≤ 1
  | 0 => by simp [ftN]
  | k + 1 => by
    rw [ftN, List.append_eq_nil_iff, ftN_nil (k := k), ftR_nil]
    have key : ∀ c, ftC T ps ss nx k c = [] ↔ (cd T ps ss nx k c).length ≤ 1 := fun c => by
      unfold ftC
      rw [List.map_eq_nil_iff]
      cases cd T ps ss nx k c with
      | nil => simp
      | cons a l => cases l with
        | nil => simp
        | cons b m => simp
    constructor
    · rintro ⟨h1, h2⟩ i hi c hc
      by_cases e : i = k
      · rw [e]; exact (key c).1 (h2 c hc)
      · exact h1 i (by omega) c hc
    · intro h; exact ⟨fun i hi => h i (by omega), fun c hc => (key c).2 (h k (by omega) c hc)⟩
/-- The shift. -/
theorem sh_at (h : Au T n ps E F ks ss nx) {i : Nat} {s : List It} (hs : ss[i]? = some s) {c : Nat} (hc : c < T) : (mvd ps (1, (c : Int)) s = [] ∧ shA T (nx.getD i []) c = []) ∨ (mvd ps (1, (c : Int)) s ≠ [] ∧ ∃ k : Nat, shA T (nx.getD i []) c = [(1, (k : Int))] ∧ ks[k]? = some (mvd ps (1, (c : Int)) s) ∧ ∃ r, nx[i]? = some r ∧ r[c]? = some (k : Int)) := by
  obtain ⟨r, z, m1, m2, m3⟩ := h.move hs (j := c) (by omega)
  have e1 : symAt T c = (1, (c : Int)) := by unfold symAt; rw [if_pos hc]
  have e2 : (nx.getD i []) = r := by rw [List.getD_eq_getElem?_getD, m1]; rfl
  have e3 : r.getD c (-1) = z := by rw [List.getD_eq_getElem?_getD, m2]; rfl
  rw [e1] at m3
  rcases m3 with ⟨m3, m4⟩ | ⟨m3, k, m4, m5⟩
  · refine Or.inl ⟨m3, ?_⟩
    unfold shA
    rw [e2, e3, if_neg (fun e => e.2 m4)]
  · refine Or.inr ⟨m3, k, ?_, m5, r, m1, by rw [m2, m4]⟩
    unfold shA
    rw [e2, e3, if_pos ⟨hc, by omega⟩, m4]
theorem ss_getD {i : Nat} {s : List It} (hs : ss[i]? = some s) : ss.getD i [] = s := by rw [List.getD_eq_getElem?_getD, hs]; rfl
theorem nf_of (h : Au T n ps E F ks ss nx) (hf : ftN T ps ss nx ks.length = []) : Nf T ps E F := by
  have h1 := ftN_nil.1 hf
  have two : ∀ {l : List Sy} {a b : Sy}, l.length ≤ 1 → a ∈ l → b ∈ l → a = b := fun {l a b} hl ha hb => by
    match l with
    | [] => simp at ha
    | [x] => simp at ha hb; rw [ha, hb]
    | x :: y :: m => simp at hl
  refine ⟨fun γ x y hx hy hrx hry hl => ?_, fun γ x y tl hx hy hrx hry => ?_⟩
  · obtain ⟨i, s, g1, g2, g3⟩ := vi_gs h hx
    obtain ⟨i', s', k1, k2, k3⟩ := vi_gs h hy
    have := g1.det k1
    subst this
    rw [g2] at k2
    cases k2
    have hi : i < ks.length := by rw [← h.aw.st.len]; exact (List.getElem?_eq_some_iff.1 g2).1
    have okx := h.aw.st.sok g2 x g3
    have oky := h.aw.st.sok g2 y k3
    have hb := h1 i hi x.2.2 (by have := okx.k; omega)
    unfold cd cnd at hb
    rw [ss_getD g2] at hb
    exact actX_inj (two hb (List.mem_append_right _ (mem_rdL.2 ⟨x, g3, (rst_nil okx).1 hrx, rfl, rfl⟩)) (List.mem_append_right _ (mem_rdL.2 ⟨y, k3, (rst_nil oky).1 hry, hl.symm, rfl⟩)))
  · obtain ⟨i, s, g1, g2, g3⟩ := vi_gs h hx
    obtain ⟨i', s', k1, k2, k3⟩ := vi_gs h hy
    have := g1.det k1
    subst this
    rw [g2] at k2
    cases k2
    have hi : i < ks.length := by rw [← h.aw.st.len]; exact (List.getElem?_eq_some_iff.1 g2).1
    have okx := h.aw.st.sok g2 x g3
    have hsy := h.syok g2 k3 (1, (x.2.2 : Int)) (by rw [hry]; simp)
    have hc : x.2.2 < T := by
      rcases hsy with ⟨-, -, h3⟩ | ⟨h3, -⟩
      · simp at h3; omega
      · simp at h3
    have hb := h1 i hi x.2.2 (by omega)
    rcases sh_at h g2 hc with ⟨e, -⟩ | ⟨-, k, e, -⟩
    · have hmem : (y.1, y.2.1 + 1, y.2.2) ∈ mvd ps (1, (x.2.2 : Int)) s := mem_mvd.2 ⟨y, k3, ⟨tl, hry⟩, rfl⟩
      rw [e] at hmem; simp at hmem
    · unfold cd cnd at hb
      rw [ss_getD g2, e] at hb
      have ha := two hb (a := (1, (k : Int))) (b := actX ps x.1) (by simp) (List.mem_append_right _ (mem_rdL.2 ⟨x, g3, (rst_nil okx).1 hrx, rfl, rfl⟩))
      unfold actX at ha
      split at ha <;> simp at ha
theorem of_nf (h : Au T n ps E F ks ss nx) (hn : Nf T ps E F) : ftN T ps ss nx ks.length = [] := by
  refine ftN_nil.2 fun i hi c hc => ?_
  obtain ⟨s, hs⟩ := h.st_at hi
  obtain ⟨γ, hg⟩ := gs_reach h (i + 1) i (by omega) hi
  obtain ⟨k, -, hcl⟩ := h.clsd hs
  unfold cd cnd
  rw [ss_getD hs, List.length_append]
  have hred : (rdL ps s c).length ≤ 1 := by
    unfold rdL
    rw [List.length_map]
    have hnd : (s.filter fun x => doneI ps x && decide (x.2.2 = c)).Nodup := (rise_nodup hcl.1).filter _
    generalize hfl : (s.filter fun x => doneI ps x && decide (x.2.2 = c)) = l at hnd
    match l, hnd with
    | [], _ => simp
    | [_], _ => simp
    | a :: b :: m, hnd =>
      exfalso
      have ha : a ∈ s.filter fun x => doneI ps x && decide (x.2.2 = c) := by rw [hfl]; simp
      have hb : b ∈ s.filter fun x => doneI ps x && decide (x.2.2 = c) := by rw [hfl]; simp
      rw [List.mem_filter] at ha hb
      simp only [doneI, Bool.and_eq_true, decide_eq_true_eq] at ha hb
      obtain ⟨a1, a2, a3⟩ := ha
      obtain ⟨b1, b2, b3⟩ := hb
      have e := hn.rr γ a b (gs_vi h hg hs a1) (gs_vi h hg hs b1) ((rst_nil (h.aw.st.sok hs a a1)).2 a2) ((rst_nil (h.aw.st.sok hs b b1)).2 b2) (by rw [a3, b3])
      have e2 : a = b := Prod.ext e (Prod.ext (by rw [a2, b2, e]) (by rw [a3, b3]))
      rw [List.nodup_cons] at hnd
      exact hnd.1 (by rw [e2]; simp)
  by_cases hT : c < T
  · rcases sh_at h hs hT with ⟨-, e⟩ | ⟨hne, k, e, -⟩
    · rw [e]; simpa using hred
    · rw [e]
      have : rdL ps s c = [] := by
        cases e2 : rdL ps s c with
        | nil => rfl
        | cons a l =>
          exfalso
          have ha : a ∈ rdL ps s c := by rw [e2]; simp
          obtain ⟨x, hx, x1, x2, -⟩ := mem_rdL.1 ha
          obtain ⟨y, hy⟩ := List.exists_mem_of_ne_nil _ hne
          obtain ⟨y0, hy0, ⟨tl, hr⟩, -⟩ := mem_mvd.1 hy
          exact hn.sr γ x y0 tl (gs_vi h hg hs hx) (gs_vi h hg hs hy0) ((rst_nil (h.aw.st.sok hs x hx)).2 x1) (by rw [x2]; exact hr)
      rw [this]; simp
  · have : shA T (nx.getD i []) c = [] := by unfold shA; rw [if_neg (fun e => hT e.1)]
    rw [this]; simpa using hred
end
end Cg
end Go.Proofs.Ytpbnnmfjahckmaa

namespace Go.Proofs.Ytpbnnmfjahckmaa
namespace Cg
/-- May an act stand at a terminal, or at the end? -/
def okAct (S pl : Int) (atEnd : Bool) (a : Sy) : Bool :=
  if a.1 = 0 then a.2 == 0 else if a.1 = 1 then !atEnd && okN S a.2 else if a.1 = 2 then okN pl a.2 else if a.1 = 3 then atEnd && a.2 == 0 else false
/-- Acts from column q on. -/
def okFrom (t S pl : Int) : Nat → List Sy → Bool
  | _, [] => true
  | q, a :: l => okAct S pl ((q : Int) == t) a && okFrom t S pl (q + 1) l
def okActs (t S pl : Int) (l : List Sy) : Bool := decide ((l.length : Int) = t + 1) && okFrom t S pl 0 l
def okTo (S x : Int) : Bool := x == -1 || okN S x
def okNext (n S : Int) (l : List Int) : Bool := decide ((l.length : Int) = n) && l.all (okTo S)
def okTab (t n S pl : Int) : List (List Sy) → List (List Int) → Bool
  | a :: al, g :: gs => okActs t S pl a && okNext n S g && okTab t n S pl al gs
  | _, _ => true
def chkT (t n : Int) (ps : List Pd) (al : List (List Sy)) (gs : List (List Int)) : Int :=
  if chk t n ps = 0 then (if 200 < al.length then 2 else if al.length = 0 then 1 else if gs.length = al.length then (if okTab t n al.length ps.length al gs = true then 0 else 1) else 1) else chk t n ps
theorem okFrom_at {t S pl : Int} {l : List Sy} {q : Nat} (h : q < l.length) : okFrom t S pl q (l.drop q) = (okAct S pl ((q : Int) == t) l[q] && okFrom t S pl (q + 1) (l.drop (q + 1))) := by
  rw [List.drop_eq_getElem_cons h]; rfl
theorem okTab_at {t n S pl : Int} {al : List (List Sy)} {gs : List (List Int)} {q : Nat} (h : q < al.length) (h2 : q < gs.length) : okTab t n S pl (al.drop q) (gs.drop q) = (okActs t S pl al[q] && okNext n S gs[q] && okTab t n S pl (al.drop (q + 1)) (gs.drop (q + 1))) := by
  rw [List.drop_eq_getElem_cons h, List.drop_eq_getElem_cons h2]; rfl
theorem okTab_end {t n S pl : Int} {al : List (List Sy)} {gs : List (List Int)} {q : Nat} (h : al.length ≤ q) : okTab t n S pl (al.drop q) (gs.drop q) = true := by
  rw [List.drop_of_length_le h]; rfl
end Cg
end Go.Proofs.Ytpbnnmfjahckmaa

namespace Go.Proofs.Ytpbnnmfjahckmaa
open Go.ChangeShapes Go.WideShapes Go.ChangeAt Go.RowKit
open Cg

theorem kcells84 : Try.prog.cellsOf 84 = 1 := by kernel_rfl
theorem kcells29 : Try.prog.cellsOf 29 = 1 := by kernel_rfl
theorem kcells104 : Try.prog.cellsOf 104 = 2 := by kernel_rfl
theorem kcells25 : Try.prog.cellsOf 25 = 1 := by kernel_rfl
theorem kcells26 : Try.prog.cellsOf 26 = 1 := by kernel_rfl
theorem kcells28 : Try.prog.cellsOf 28 = 2 := by kernel_rfl
/-- A value is a slice that holds these rows of numbers. -/
def Rws (w : World) (v : Value) (l : List (List Int)) : Prop :=
  ∃ ao cap, v = .slice ao l.length cap ∧ l.length ≤ 9223372036854775807 ∧ (l = [] ∨ ∃ b o, ao = some ⟨b, o, none⟩ ∧ b < w.heap.size ∧ ∀ i (hi : i < l.length), ∃ u, w.cell? ⟨b, o + i, none⟩ = some u ∧ Ints w u l[i])
/-- .. these rows of acts (two numbers each). -/
def Ars (w : World) (v : Value) (l : List (List Sy)) : Prop :=
  ∃ ao cap, v = .slice ao l.length cap ∧ l.length ≤ 9223372036854775807 ∧ (l = [] ∨ ∃ b o, ao = some ⟨b, o, none⟩ ∧ b < w.heap.size ∧ ∀ i (hi : i < l.length), ∃ u, w.cell? ⟨b, o + i, none⟩ = some u ∧ Syms w u l[i])
theorem Rws.below {w w' : World} {v : Value} {l : List (List Int)} (h : Rws w v l) (hb : Below w.heap.size w w') : Rws w' v l := by
  obtain ⟨ao, cap, hv, hm, h | ⟨b, o, h1, h2, h3⟩⟩ := h
  · exact ⟨ao, cap, hv, hm, Or.inl h⟩
  · refine ⟨ao, cap, hv, hm, Or.inr ⟨b, o, h1, Nat.lt_of_lt_of_le h2 hb.size, fun i hi => ?_⟩⟩
    obtain ⟨u, g1, g2⟩ := h3 i hi
    exact ⟨u, (hb.cell (p := ⟨b, o + i, none⟩) h2).trans g1, g2.below hb⟩
theorem Ars.below {w w' : World} {v : Value} {l : List (List Sy)} (h : Ars w v l) (hb : Below w.heap.size w w') : Ars w' v l := by
  obtain ⟨ao, cap, hv, hm, h | ⟨b, o, h1, h2, h3⟩⟩ := h
  · exact ⟨ao, cap, hv, hm, Or.inl h⟩
  · refine ⟨ao, cap, hv, hm, Or.inr ⟨b, o, h1, Nat.lt_of_lt_of_le h2 hb.size, fun i hi => ?_⟩⟩
    obtain ⟨u, g1, g2⟩ := h3 i hi
    exact ⟨u, (hb.cell (p := ⟨b, o + i, none⟩) h2).trans g1, g2.below hb⟩
/-- A grammar's box and a table's. -/
structure Tb (w0 : World) (g q : Nat) (t n : Int) (pv : Value) (ps : List Pd) (av gv : Value) (w : World) : Prop where
  gb : Gb w0 g t n pv ps w
  lt : q < w.heap.size
  d0 : w.cell? ⟨q, 0, none⟩ = some av
  d1 : w.cell? ⟨q, 1, none⟩ = some gv
theorem Tb.next {w0 : World} {g q : Nat} {t n : Int} {pv : Value} {ps : List Pd} {av gv : Value} {w : World} (h : Tb w0 g q t n pv ps av gv w) {w' : World} (hb : Below w.heap.size w w') : Tb w0 g q t n pv ps av gv w' :=
  ⟨h.gb.next hb, Nat.lt_of_lt_of_le h.lt hb.size, (hb.cell (p := ⟨q, 0, none⟩) h.lt).trans h.d0, (hb.cell (p := ⟨q, 1, none⟩) h.lt).trans h.d1⟩
theorem Tb.box {w : World} {pv : Value} {ps : List Pd} (h : Pds w pv ps) (t n : Int) (av gv : Value) : Tb w w.heap.size (w.heap.size + 1) t n pv ps av gv ((w.alloc (Obj.cells #[.int .i64 t, .int .i64 n, pv] 24)).alloc (Obj.cells #[av, gv] 28)) := by
  have h1 := Gb.box h t n
  have e : (w.alloc (Obj.cells #[.int .i64 t, .int .i64 n, pv] 24)).heap.size = w.heap.size + 1 := by simp
  refine ⟨h1.next (below_alloc _ _), by simp, ?_, ?_⟩
  · rw [← e]; exact cell_new _ _ 28 0
  · rw [← e]; exact cell_new _ _ 28 1

variable {H : Type} {enc : TypeId × Value → H}
set_option maxRecDepth 20000 in
theorem open_acts {W : World} {fuel : Nat} {cs : List Value} {y : DataW H × List MemPlace} (hf : DataW.trod enc Try.prog W 0 (fun _ => true) true fuel 84 cs = some y) : ∃ v l, cs = [v] ∧ Syms W v l := by
  obtain ⟨ao, n, cap, rfl, hm, h⟩ := open_seq Try.underlying84 kcells104 (by omega) hf
  rcases h with h | ⟨b, o, h1, h2, h3⟩
  · exact ⟨_, [], rfl, ao, cap, by rw [h]; rfl, by simp, Or.inl rfl⟩
  · obtain ⟨l, g1, g2⟩ := list_of n (fun i (z : Sy) => W.cell? ⟨b, o + i * 2, none⟩ = some (.int .i64 z.1) ∧ W.cell? ⟨b, o + i * 2 + 1, none⟩ = some (.int .i64 z.2)) fun i hi => by
      obtain ⟨fu, cs', y', k1, k2, k3⟩ := h3 i hi
      obtain ⟨xs, n', hn, _, hl, hxl, hf'⟩ := DataW.trod_struct Try.underlying104 k3
      match cs', k2 with
      | [x0, x1], _ =>
        match xs, hxl with
        | [y0, y1], _ =>
          have f0 := hf' 0 _ rfl
          have f1 := hf' 1 _ rfl
          simp [kcells3] at f0 f1
          obtain ⟨z0, e0, _, _⟩ := DataW.trod_int Try.underlying3 f0
          obtain ⟨z1, e1, _, _⟩ := DataW.trod_int Try.underlying3 f1
          simp at e0 e1
          subst e0 e1
          exact ⟨(z0, z1), by simp, by simp⟩
    exact ⟨_, l, rfl, ao, cap, by rw [g1], by omega, Or.inr ⟨b, o, h1, h2, g2⟩⟩
set_option maxRecDepth 20000 in
theorem open_ints {W : World} {fuel : Nat} {cs : List Value} {y : DataW H × List MemPlace} (hf : DataW.trod enc Try.prog W 0 (fun _ => true) true fuel 29 cs = some y) : ∃ v l, cs = [v] ∧ Ints W v l := by
  obtain ⟨ao, n, cap, rfl, hm, h⟩ := open_seq Try.underlying29 kcells3 (by omega) hf
  rcases h with h | ⟨b, o, h1, h2, h3⟩
  · exact ⟨_, [], rfl, ao, cap, by rw [h]; rfl, by simp, Or.inl rfl⟩
  · obtain ⟨l, g1, g2⟩ := list_of n (fun i (z : Int) => W.cell? ⟨b, o + i, none⟩ = some (.int .i64 z)) fun i hi => by
      obtain ⟨fu, cs', y', k1, k2, k3⟩ := h3 i hi
      obtain ⟨z0, e0, _, _⟩ := DataW.trod_int Try.underlying3 k3
      subst e0
      exact ⟨z0, by simpa using k1 0 (by omega)⟩
    exact ⟨_, l, rfl, ao, cap, by rw [g1], by omega, Or.inr ⟨b, o, h1, h2, g2⟩⟩
set_option maxRecDepth 20000 in
theorem open_rws {W : World} {fuel : Nat} {cs : List Value} {y : DataW H × List MemPlace} (hf : DataW.trod enc Try.prog W 0 (fun _ => true) true fuel 26 cs = some y) : ∃ v l, cs = [v] ∧ Rws W v l := by
  obtain ⟨ao, n, cap, rfl, hm, h⟩ := open_seq Try.underlying26 kcells29 (by omega) hf
  rcases h with h | ⟨b, o, h1, h2, h3⟩
  · exact ⟨_, [], rfl, ao, cap, by rw [h]; rfl, by simp, Or.inl rfl⟩
  · obtain ⟨l, g1, g2⟩ := list_of n (fun i (z : List Int) => ∃ u, W.cell? ⟨b, o + i, none⟩ = some u ∧ Ints W u z) fun i hi => by
      obtain ⟨fu, cs', y', k1, k2, k3⟩ := h3 i hi
      obtain ⟨u, l1, e1, g1⟩ := open_ints k3
      subst e1
      exact ⟨l1, u, by simpa using k1 0 (by omega), g1⟩
    exact ⟨_, l, rfl, ao, cap, by rw [g1], by omega, Or.inr ⟨b, o, h1, h2, g2⟩⟩
set_option maxRecDepth 20000 in
theorem open_ars {W : World} {fuel : Nat} {cs : List Value} {y : DataW H × List MemPlace} (hf : DataW.trod enc Try.prog W 0 (fun _ => true) true fuel 25 cs = some y) : ∃ v l, cs = [v] ∧ Ars W v l := by
  obtain ⟨ao, n, cap, rfl, hm, h⟩ := open_seq Try.underlying25 kcells84 (by omega) hf
  rcases h with h | ⟨b, o, h1, h2, h3⟩
  · exact ⟨_, [], rfl, ao, cap, by rw [h]; rfl, by simp, Or.inl rfl⟩
  · obtain ⟨l, g1, g2⟩ := list_of n (fun i (z : List Sy) => ∃ u, W.cell? ⟨b, o + i, none⟩ = some u ∧ Syms W u z) fun i hi => by
      obtain ⟨fu, cs', y', k1, k2, k3⟩ := h3 i hi
      obtain ⟨u, l1, e1, g1⟩ := open_acts k3
      subst e1
      exact ⟨l1, u, by simpa using k1 0 (by omega), g1⟩
    exact ⟨_, l, rfl, ao, cap, by rw [g1], by omega, Or.inr ⟨b, o, h1, h2, g2⟩⟩
set_option maxRecDepth 20000 in
theorem open_table {W : World} {r : Reach} {b0 : Nat} {v : Value} {d : DataW H} {p : List MemPlace} (hv : Value.okWide Try.prog W r b0 28 v) (h : DataW.Trod enc Try.prog W 0 (fun _ => true) true 28 v d p) :
    ∃ av gv al gs, v = .agg #[av, gv] ∧ Ars W av al ∧ Rws W gv gs := by
  obtain ⟨cs, rfl, hsz⟩ := okWide_struct Try.underlying28 hv
  obtain ⟨fuel, hf⟩ := h
  obtain ⟨xs, n, hn, _, hl, hxl, hf⟩ := DataW.trod_struct Try.underlying28 hf
  rw [kcells28] at hl
  simp only [Value.cells] at hl hf
  obtain ⟨L⟩ := cs
  simp only at hl hf
  match L, hl with
  | [x0, x1], _ =>
    match xs, hxl with
    | [y0, y1], _ =>
      have f0 := hf 0 _ rfl
      have f1 := hf 1 _ rfl
      simp [kcells25, kcells26] at f0 f1
      obtain ⟨av, al, e0, g0⟩ := open_ars f0
      obtain ⟨gv, gs, e1, g1⟩ := open_rws f1
      simp at e0 e1
      subst e0 e1
      exact ⟨_, _, _, _, rfl, g0, g1⟩
end Go.Proofs.Ytpbnnmfjahckmaa

namespace Go.Proofs.Ytpbnnmfjahckmaa
open Go.RowKit
open Cg

def Far (B : Nat) (v : Value) : Prop := ∀ q, v.ownBlock = some q → B ≤ q
def ArsF (B : Nat) (w : World) (v : Value) (l : List (List Sy)) : Prop :=
  ∃ ao cap, v = .slice ao l.length cap ∧ l.length ≤ 9223372036854775807 ∧ (l = [] ∨ ∃ b o, ao = some ⟨b, o, none⟩ ∧ B ≤ b ∧ b < w.heap.size ∧ ∀ i (hi : i < l.length), ∃ u, w.cell? ⟨b, o + i, none⟩ = some u ∧ Syms w u l[i] ∧ Far B u)
def RwsF (B : Nat) (w : World) (v : Value) (l : List (List Int)) : Prop :=
  ∃ ao cap, v = .slice ao l.length cap ∧ l.length ≤ 9223372036854775807 ∧ (l = [] ∨ ∃ b o, ao = some ⟨b, o, none⟩ ∧ B ≤ b ∧ b < w.heap.size ∧ ∀ i (hi : i < l.length), ∃ u, w.cell? ⟨b, o + i, none⟩ = some u ∧ Ints w u l[i] ∧ Far B u)
theorem ArsF.ars {B : Nat} {w : World} {v : Value} {l : List (List Sy)} (h : ArsF B w v l) : Ars w v l := by
  obtain ⟨ao, cap, hv, hm, h | ⟨b, o, h1, -, h2, h3⟩⟩ := h
  · exact ⟨ao, cap, hv, hm, Or.inl h⟩
  · exact ⟨ao, cap, hv, hm, Or.inr ⟨b, o, h1, h2, fun i hi => by obtain ⟨u, g1, g2, -⟩ := h3 i hi; exact ⟨u, g1, g2⟩⟩⟩
theorem RwsF.rws {B : Nat} {w : World} {v : Value} {l : List (List Int)} (h : RwsF B w v l) : Rws w v l := by
  obtain ⟨ao, cap, hv, hm, h | ⟨b, o, h1, -, h2, h3⟩⟩ := h
  · exact ⟨ao, cap, hv, hm, Or.inl h⟩
  · exact ⟨ao, cap, hv, hm, Or.inr ⟨b, o, h1, h2, fun i hi => by obtain ⟨u, g1, g2, -⟩ := h3 i hi; exact ⟨u, g1, g2⟩⟩⟩
theorem syms_keep {w w' : World} {u : Value} {l : List Sy} (h : Syms w u l) (hb : ∀ q, u.ownBlock = some q → q < w.heap.size → w'.heap[q]? = w.heap[q]?) (hs : w.heap.size ≤ w'.heap.size) : Syms w' u l := by
  obtain ⟨ao, cap, hv, hm, h | ⟨b, o, h1, h2, h3⟩⟩ := h
  · exact ⟨ao, cap, hv, hm, Or.inl h⟩
  · refine ⟨ao, cap, hv, hm, Or.inr ⟨b, o, h1, Nat.lt_of_lt_of_le h2 hs, fun i hi => ?_⟩⟩
    have e : ∀ j, w'.cell? ⟨b, j, none⟩ = w.cell? ⟨b, j, none⟩ := fun j => World.cell?_of_block (a := ⟨b, j, none⟩) (hb b (by rw [hv, h1]; rfl) h2)
    rw [e, e]; exact h3 i hi
theorem ints_keep {w w' : World} {u : Value} {l : List Int} (h : Ints w u l) (hb : ∀ q, u.ownBlock = some q → q < w.heap.size → w'.heap[q]? = w.heap[q]?) (hs : w.heap.size ≤ w'.heap.size) : Ints w' u l := by
  obtain ⟨ao, cap, hv, hm, h | ⟨b, o, h1, h2, h3⟩⟩ := h
  · exact ⟨ao, cap, hv, hm, Or.inl h⟩
  · refine ⟨ao, cap, hv, hm, Or.inr ⟨b, o, h1, Nat.lt_of_lt_of_le h2 hs, fun i hi => ?_⟩⟩
    have e : ∀ j, w'.cell? ⟨b, j, none⟩ = w.cell? ⟨b, j, none⟩ := fun j => World.cell?_of_block (a := ⟨b, j, none⟩) (hb b (by rw [hv, h1]; rfl) h2)
    rw [e]; exact h3 i hi
theorem ArsF.keep {B : Nat} {w w' : World} {v : Value} {l : List (List Sy)} (h : ArsF B w v l) (hb : ∀ q, B ≤ q → q < w.heap.size → w'.heap[q]? = w.heap[q]?) (hs : w.heap.size ≤ w'.heap.size) : ArsF B w' v l := by
  obtain ⟨ao, cap, hv, hm, h | ⟨b, o, h1, h0, h2, h3⟩⟩ := h
  · exact ⟨ao, cap, hv, hm, Or.inl h⟩
  · refine ⟨ao, cap, hv, hm, Or.inr ⟨b, o, h1, h0, Nat.lt_of_lt_of_le h2 hs, fun i hi => ?_⟩⟩
    obtain ⟨u, g1, g2, g3⟩ := h3 i hi
    exact ⟨u, (World.cell?_of_block (a := ⟨b, o + i, none⟩) (hb b h0 h2)).trans g1, syms_keep g2 (fun q hq hl => hb q (g3 q hq) hl) hs, g3⟩
theorem RwsF.keep {B : Nat} {w w' : World} {v : Value} {l : List (List Int)} (h : RwsF B w v l) (hb : ∀ q, B ≤ q → q < w.heap.size → w'.heap[q]? = w.heap[q]?) (hs : w.heap.size ≤ w'.heap.size) : RwsF B w' v l := by
  obtain ⟨ao, cap, hv, hm, h | ⟨b, o, h1, h0, h2, h3⟩⟩ := h
  · exact ⟨ao, cap, hv, hm, Or.inl h⟩
  · refine ⟨ao, cap, hv, hm, Or.inr ⟨b, o, h1, h0, Nat.lt_of_lt_of_le h2 hs, fun i hi => ?_⟩⟩
    obtain ⟨u, g1, g2, g3⟩ := h3 i hi
    exact ⟨u, (World.cell?_of_block (a := ⟨b, o + i, none⟩) (hb b h0 h2)).trans g1, ints_keep g2 (fun q hq hl => hb q (g3 q hq) hl) hs, g3⟩
end Go.Proofs.Ytpbnnmfjahckmaa
