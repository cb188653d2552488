/-
  Tables for one who climbs down, plainly: which productions may be taken where, the rows, the clashes; which rows have the right form.
-/
import Derived.Test.YtpfehghicaaghaaFcMath
namespace Go.Proofs.Ytpfehghicaaghaa
namespace Cg
/-- Where a set has what a column stands for. -/
def bc (T col : Nat) : Nat := if col = T then 63 else col
/-- The sets at which the productions may be taken. -/
def sts (ps : List Pd) (E : Nat → Bool) (F V : Nat → Wd) (i : Nat) : Wd := bg E F (ps.getD i (0, [])).2 (V (ps.getD i (0, [])).1.toNat)
theorem sts_at {ps : List Pd} {E : Nat → Bool} {F V : Nat → Wd} {i : Nat} (h : i < ps.length) : sts ps E F V i = bg E F ps[i].2 (V ps[i].1.toNat) := by
  have e : ps.getD i (0, []) = ps[i] := by rw [List.getD_eq_getElem?_getD, List.getElem?_eq_getElem h]; rfl
  unfold sts; rw [e]
def mayB (ps : List Pd) (S : Nat → Wd) (T non col i : Nat) : Bool := decide ((ps.getD i (0, [])).1 = (non : Int)) && (S i).getLsbD (bc T col)
theorem mayB_at {ps : List Pd} {S : Nat → Wd} {T non col i : Nat} (h : i < ps.length) : mayB ps S T non col i = (decide (ps[i].1 = (non : Int)) && (S i).getLsbD (bc T col)) := by
  have e : ps.getD i (0, []) = ps[i] := by rw [List.getD_eq_getElem?_getD, List.getElem?_eq_getElem h]; rfl
  unfold mayB; rw [e]
def mayQ (ps : List Pd) (S : Nat → Wd) (T non col q : Nat) : List Int := ((List.range q).filter (mayB ps S T non col)).map fun (x : Nat) => (x : Int)
theorem mayQ_step (ps : List Pd) (S : Nat → Wd) (T non col q : Nat) : mayQ ps S T non col (q + 1) = mayQ ps S T non col q ++ (if mayB ps S T non col q = true then [(q : Int)] else []) := by
  unfold mayQ
  rw [List.range_succ, List.filter_append, List.map_append]
  congr 1
  by_cases h : mayB ps S T non col q = true
  · rw [if_pos h, List.filter_cons, if_pos h]; rfl
  · rw [if_neg h, List.filter_cons, if_neg h]; rfl
theorem mayQ_true {ps : List Pd} {S : Nat → Wd} {T non col q : Nat} (h : mayB ps S T non col q = true) : mayQ ps S T non col (q + 1) = mayQ ps S T non col q ++ [(q : Int)] := by rw [mayQ_step, if_pos h]
theorem mayQ_false {ps : List Pd} {S : Nat → Wd} {T non col q : Nat} (h : mayB ps S T non col q = false) : mayQ ps S T non col (q + 1) = mayQ ps S T non col q := by rw [mayQ_step, if_neg (by rw [h]; decide), List.append_nil]
theorem mayQ_length (ps : List Pd) (S : Nat → Wd) (T non col q : Nat) : (mayQ ps S T non col q).length ≤ q := by
  unfold mayQ; rw [List.length_map]; have := List.length_filter_le (mayB ps S T non col) (List.range q); simpa using this
theorem mayQ_ge {ps : List Pd} {S : Nat → Wd} {T non col q : Nat} : ∀ x ∈ mayQ ps S T non col q, 0 ≤ x := fun x hx => by
  unfold mayQ at hx
  obtain ⟨y, _, rfl⟩ := List.mem_map.1 hx
  omega
def hdI (l : List Int) : Int := l.headD (-1)
theorem hdI_nil : hdI [] = -1 := rfl
theorem hdI_app {l : List Int} (h : l ≠ []) (m : List Int) : hdI (l ++ m) = hdI l := by
  cases l with
  | nil => exact absurd rfl h
  | cons a l => rfl
theorem tl_app {l : List Int} (h : l ≠ []) (m : List Int) : (l ++ m).tail = l.tail ++ m := by
  cases l with
  | nil => exact absurd rfl h
  | cons a l => rfl
theorem hdI_neg {l : List Int} (h : ∀ x ∈ l, 0 ≤ x) : (hdI l == -1) = true ↔ l = [] := by
  cases l with
  | nil => simp [hdI]
  | cons a l =>
    have := h a (by simp)
    simp [hdI]; omega
abbrev Cl := Int × Int × Int × Int
def mayL (ps : List Pd) (S : Nat → Wd) (T non col : Nat) : List Int := mayQ ps S T non col ps.length
def clsC (ps : List Pd) (S : Nat → Wd) (T non col : Nat) : List Cl := (mayL ps S T non col).tail.map fun b => ((non : Int), (col : Int), hdI (mayL ps S T non col), b)
def clsR (ps : List Pd) (S : Nat → Wd) (T non : Nat) : Nat → List Cl
  | 0 => []
  | k + 1 => clsR ps S T non k ++ clsC ps S T non k
def clsN (ps : List Pd) (S : Nat → Wd) (T : Nat) : Nat → List Cl
  | 0 => []
  | k + 1 => clsN ps S T k ++ clsR ps S T k (T + 1)
def rowA (ps : List Pd) (S : Nat → Wd) (T non col : Nat) : Int := hdI (mayL ps S T non col)
def rowL (ps : List Pd) (S : Nat → Wd) (T non k : Nat) : List Int := (List.range k).map (rowA ps S T non)
def rowsL (ps : List Pd) (S : Nat → Wd) (T k : Nat) : List (List Int) := (List.range k).map fun non => rowL ps S T non (T + 1)
theorem rowL_succ (ps : List Pd) (S : Nat → Wd) (T non k : Nat) : rowL ps S T non (k + 1) = rowL ps S T non k ++ [rowA ps S T non k] := by
  unfold rowL; rw [List.range_succ, List.map_append]; rfl
theorem rowsL_succ (ps : List Pd) (S : Nat → Wd) (T k : Nat) : rowsL ps S T (k + 1) = rowsL ps S T k ++ [rowL ps S T k (T + 1)] := by
  unfold rowsL; rw [List.range_succ, List.map_append]; rfl
theorem rowL_length (ps : List Pd) (S : Nat → Wd) (T non k : Nat) : (rowL ps S T non k).length = k := by simp [rowL]
theorem rowsL_length (ps : List Pd) (S : Nat → Wd) (T k : Nat) : (rowsL ps S T k).length = k := by simp [rowsL]
theorem mayL_le (ps : List Pd) (S : Nat → Wd) (T non col : Nat) : (mayL ps S T non col).length ≤ ps.length := mayQ_length _ _ _ _ _ _
theorem clsC_le (ps : List Pd) (S : Nat → Wd) (T non col : Nat) : (clsC ps S T non col).length ≤ ps.length := by
  unfold clsC; rw [List.length_map, List.length_tail]; have := mayL_le ps S T non col; omega
theorem clsR_le (ps : List Pd) (S : Nat → Wd) (T non k : Nat) : (clsR ps S T non k).length ≤ k * ps.length := by
  induction k with
  | zero => simp [clsR]
  | succ k ih => unfold clsR; rw [List.length_append, Nat.succ_mul]; have := clsC_le ps S T non k; omega
theorem clsN_le (ps : List Pd) (S : Nat → Wd) (T k : Nat) : (clsN ps S T k).length ≤ k * ((T + 1) * ps.length) := by
  induction k with
  | zero => simp [clsN]
  | succ k ih => unfold clsN; rw [List.length_append, Nat.succ_mul]; have := clsR_le ps S T k (T + 1); omega
/-- All are few. -/
theorem cls_few {ps : List Pd} {S : Nat → Wd} {T k non : Nat} (hp : ps.length ≤ 40) (hT : T ≤ 30) (hn : k ≤ 20) (c : Nat) (hc : c ≤ T + 1) : (clsN ps S T k ++ clsR ps S T non c).length ≤ 30000 := by
  rw [List.length_append]
  have h1 := clsN_le ps S T k
  have h2 := clsR_le ps S T non c
  have h3 : (T + 1) * ps.length ≤ 31 * 40 := Nat.mul_le_mul (by omega) hp
  have h4 : k * ((T + 1) * ps.length) ≤ 20 * (31 * 40) := Nat.mul_le_mul hn h3
  have h5 : c * ps.length ≤ 31 * 40 := Nat.mul_le_mul (by omega) hp
  omega
/-- The sets of a grammar: the only ones. -/
def TK (ps : List Pd) (S : Nat → Wd) : Prop := ∃ E F V R M, Fa ps E F V R M ∧ S = sts ps E F V
theorem TK.uniq {ps : List Pd} {S S' : Nat → Wd} (h : TK ps S) (k : TK ps S') : S = S' := by
  obtain ⟨E, F, V, R, M, h1, rfl⟩ := h
  obtain ⟨E', F', V', R', M', k1, rfl⟩ := k
  obtain ⟨rfl, rfl, rfl, rfl, rfl⟩ := h1.uniq k1
  rfl
/-! Rows that were handed in. -/
def okP (ps : List Pd) (non x : Int) : Bool := decide (0 ≤ x) && decide (x < (ps.length : Int)) && decide ((ps.getD x.toNat (0, [])).1 = non)
def okX (ps : List Pd) (non x : Int) : Bool := (x == -1) || okP ps non x
def okRow (t : Int) (ps : List Pd) (non : Int) (row : List Int) : Bool := decide ((row.length : Int) = t + 1) && row.all (okX ps non)
def okRows (t : Int) (ps : List Pd) : Nat → List (List Int) → Bool
  | _, [] => true
  | k, r :: l => okRow t ps (k : Int) r && okRows t ps (k + 1) l
def chkR (t n : Int) (ps : List Pd) (rows : List (List Int)) : Int := if chk t n ps = 0 then (if (rows.length : Int) = n then (if okRows t ps 0 rows = true then 0 else 1) else 1) else chk t n ps
theorem okRows_at {t : Int} {ps : List Pd} {rows : List (List Int)} {k : Nat} (h : k < rows.length) : okRows t ps k (rows.drop k) = (okRow t ps (k : Int) rows[k] && okRows t ps (k + 1) (rows.drop (k + 1))) := by
  rw [List.drop_eq_getElem_cons h]; rfl
end Cg
end Go.Proofs.Ytpfehghicaaghaa
