/-
  A node read from its events from behind: what is there, or that there is none: plainly; a row of trees in the making. No function is walked here.
-/
import Derived.Test.YtldfiofgknmcgaaTrRead
import Derived.Laws.MakeOwn
namespace Go.Proofs.Ytldfiofgknmcgaa
open Go.RowKit
open Cg

/-- A node of that symbol whose events end there, and where they begin. -/
def RdU (ps : List Pd) (l : List Ev) (s : Sy) (en : Nat) (t : T) (a : Nat) : Prop := sh ps t s = true ∧ a < en ∧ l.take en = l.take a ++ evU t
def NoU (ps : List Pd) (l : List Ev) (s : Sy) (en : Nat) : Prop := ∀ t, sh ps t s = true → ∀ pre, l.take en ≠ pre ++ evU t
theorem Cg.evU_pos (t : T) {ps : List Pd} {s : Sy} (_ : sh ps t s = true) : evU t ≠ [] := by
  obtain ⟨p, k, l⟩ := t
  rw [evU]; split <;> simp
theorem NoU.zero {ps : List Pd} {l : List Ev} {s : Sy} : NoU ps l s 0 := fun t ht pre e => by
  rw [List.take_zero] at e
  exact evU_pos t ht (List.append_eq_nil_iff.1 e.symm).2
theorem take_at {l : List Ev} {i : Nat} (h : i < l.length) : l.take (i + 1) = l.take i ++ [l[i]] := List.take_succ_eq_append_getElem h
theorem evU_node {ps : List Pd} {t : T} {s : Sy} (h : sh ps t s = true) (h4 : s.1 ≠ 1) : ∃ z : Nat, isPr ps (z : Int) = true ∧ headOf ps (z : Int) = s.2 ∧ ∃ kids, t = .mk (z : Int) 0 kids ∧ shL ps kids (bodyOf ps (z : Int)) = true ∧ evU t = evUL kids ++ [(4, (z : Int))] := by
  obtain ⟨p, k, l⟩ := t
  obtain ⟨h1, h2, h3, h5⟩ := sh_node h h4
  have hle := isPr_le h1
  obtain ⟨z, rfl⟩ : ∃ z : Nat, p = (z : Int) := ⟨p.toNat, by omega⟩
  subst h3
  exact ⟨z, h1, h2, l, rfl, h5, by rw [evU, if_neg (by omega)]⟩
theorem last_one {a b : List Ev} {x y : Ev} (h : a ++ [x] = b ++ [y]) : a = b ∧ x = y := by
  have h1 := List.append_inj' h rfl
  exact ⟨h1.1, by simpa using h1.2⟩
theorem NoU.kind {ps : List Pd} {l : List Ev} {s : Sy} {en : Nat} (hl : en < l.length) (h4 : s.1 ≠ 1) (h : ¬ (l[en].1 = 4 ∧ isPr ps l[en].2 = true ∧ headOf ps l[en].2 = s.2)) : NoU ps l s (en + 1) := fun t ht pre e => by
  obtain ⟨z, h1, h2, kids, rfl, h5, h6⟩ := evU_node ht h4
  rw [take_at hl, h6, ← List.append_assoc] at e
  have e2 := (last_one e).2
  exact h ⟨by rw [e2], by rw [e2]; exact h1, by rw [e2]; exact h2⟩
theorem NoU.leaf {ps : List Pd} {l : List Ev} {s : Sy} {en : Nat} (hl : en < l.length) (h4 : s.1 = 1) (h : l[en].1 ≠ 2) : NoU ps l s (en + 1) := fun t ht pre e => by
  rw [take_at hl, sh_is_leaf ht h4, evU, if_pos rfl] at e
  exact h (by rw [(last_one e).2])
theorem RdU.leaf {ps : List Pd} {l : List Ev} {s : Sy} {en : Nat} (hl : en < l.length) (h4 : s.1 = 1) (h : l[en].1 = 2) : RdU ps l s (en + 1) (.mk (-1) l[en].2 []) en := by
  refine ⟨sh_of_leaf h4, by omega, ?_⟩
  rw [take_at hl]
  have e : evU (.mk (-1) l[en].2 []) = [(2, l[en].2)] := by simp [evU]
  have e2 : l[en] = (2, l[en].2) := by rw [← h]
  rw [e, ← e2]
/-- Some Kids have been read, from behind. -/
structure RuL (ps : List Pd) (l : List Ev) (en : Nat) (body : List Sy) (q to1 : Nat) (ks : List T) : Prop where
  s0 : shL ps ks (body.drop q) = true
  dr : l.take en = l.take to1 ++ evUL ks
  le : to1 ≤ en
theorem RuL.start {ps : List Pd} {l : List Ev} {en : Nat} {body : List Sy} : RuL ps l en body body.length en [] := ⟨by simp [shL], by simp [evUL], Nat.le_refl _⟩
theorem RuL.next {ps : List Pd} {l : List Ev} {en q to1 : Nat} {body : List Sy} {ks : List T} (h : RuL ps l en body (q + 1) to1 ks) (hq : q < body.length) {t : T} {a : Nat} (ht : RdU ps l body[q] to1 t a) : RuL ps l en body q a (t :: ks) := by
  obtain ⟨h1, h2, h3⟩ := ht
  refine ⟨?_, ?_, by have := h.le; omega⟩
  · rw [List.drop_eq_getElem_cons hq]; exact shL_cons h1 h.s0
  · rw [h.dr, h3, evUL, List.append_assoc]
theorem shL_drop {ps : List Pd} : ∀ (i : Nat) {l : List T} {ss : List Sy}, shL ps l ss = true → shL ps (l.drop i) (ss.drop i) = true
  | 0, l, ss, h => by simpa using h
  | i + 1, [], ss, h => by rw [shL] at h; simp at h; subst h; simp [shL]
  | i + 1, t :: l, [], h => by rw [shL] at h; simp at h
  | i + 1, t :: l, s :: ss, h => by
    rw [shL] at h; simp at h
    rw [List.drop_succ_cons, List.drop_succ_cons]
    exact shL_drop i h.2
theorem RuL.stop {ps : List Pd} {l : List Ev} {s : Sy} {en z q to1 : Nat} {ks : List T} (h : RuL ps l en (bodyOf ps (z : Int)) (q + 1) to1 ks) (hl : en < l.length) (h4 : s.1 ≠ 1) (hz : l[en] = (4, (z : Int))) (hq : q < (bodyOf ps (z : Int)).length) (hn : NoU ps l (bodyOf ps (z : Int))[q] to1) : NoU ps l s (en + 1) := fun t ht pre e => by
  obtain ⟨z2, h1, h2, kids, rfl, h5, h6⟩ := evU_node ht h4
  rw [take_at hl, h6, ← List.append_assoc, hz] at e
  obtain ⟨e1, e2⟩ := last_one e
  have ez : z2 = z := by simp at e2; omega
  subst ez
  rw [h.dr, ← List.take_append_drop (q + 1) kids, evUL_append, ← List.append_assoc] at e1
  obtain ⟨e3, e4⟩ := evUL_one _ rfl h.s0 (shL_drop (q + 1) h5) (fun t _ u s r q a b c => evU_one t.sz (Nat.le_refl _) a b c) e1
  have hkl := shL_length h5
  have hqk : q < kids.length := by omega
  rw [List.take_succ_eq_append_getElem hqk, evUL_append, ← List.append_assoc] at e4
  have h7 := shL_at h5 q hqk
  rw [List.getD_eq_getElem?_getD, List.getElem?_eq_getElem hq] at h7
  have e5 : evUL [kids[q]] = evU kids[q] := by simp [evUL]
  rw [e5] at e4
  exact hn _ h7 _ e4
theorem RuL.done {ps : List Pd} {l : List Ev} {s : Sy} {en z to1 : Nat} {ks : List T} (h : RuL ps l en (bodyOf ps (z : Int)) 0 to1 ks) (hl : en < l.length) (h4 : s.1 ≠ 1) (hz : l[en] = (4, (z : Int))) (hp : isPr ps (z : Int) = true) (hh : headOf ps (z : Int) = s.2) : RdU ps l s (en + 1) (.mk (z : Int) 0 ks) to1 := by
  have hle := isPr_le hp
  have hs := h.s0
  rw [List.drop_zero] at hs
  refine ⟨sh_of_node h4 hp hh hs, by have := h.le; omega, ?_⟩
  rw [take_at hl, hz, h.dr, evU, if_neg (by omega), List.append_assoc]
/-- Three cells of a row written. -/
def set3o (W : World) (g o : Nat) (x y z : Value) : World := ((W.setCell ⟨g, o, none⟩ x).setCell ⟨g, o + 1, none⟩ y).setCell ⟨g, o + 2, none⟩ z
theorem set3o_eq (W : World) (g o : Nat) (x y z : Value) : set3o W g o x y z = ((W.setCell ⟨g, o, none⟩ x).setCell ⟨g, o + 1, none⟩ y).setCell ⟨g, o + 2, none⟩ z := rfl
theorem set3o_apart {W : World} {g o b : Nat} {x y z : Value} (h : b ≠ g) : (set3o W g o x y z).heap[b]? = W.heap[b]? := by
  unfold set3o
  rw [Below.heap_setCell _ _ _ _ (by simpa using h), Below.heap_setCell _ _ _ _ (by simpa using h), Below.heap_setCell _ _ _ _ (by simpa using h)]
theorem set3o_bel {w W : World} {g o : Nat} {x y z : Value} {B : Nat} (h : Below B w W) (hg : B ≤ g) : Below B w (set3o W g o x y z) := ((h.setCell (p := ⟨g, o, none⟩) hg x).setCell (p := ⟨g, o + 1, none⟩) hg y).setCell (p := ⟨g, o + 2, none⟩) hg z
theorem set3o_size (W : World) (g o : Nat) (x y z : Value) : (set3o W g o x y z).heap.size = W.heap.size := by simp [set3o, World.setCell]
/-- A row of n trees, those from q on made. -/
def Ko (W : World) (kb n q : Nat) (vals : Nat → Value) : Prop := ∃ cur, W.heap[kb]? = some (.cells cur 27) ∧ cur.size = n * 3 ∧ ∀ j, q ≤ j → j < n → ∀ c, c < 3 → cur[j * 3 + c]? = (vals j).cells[c]?
theorem Ko.next {W W' : World} {kb n q : Nat} {vals : Nat → Value} (h : Ko W kb n q vals) (hb : Below W.heap.size W W') : Ko W' kb n q vals := by
  obtain ⟨cur, h1, h2, h3⟩ := h
  exact ⟨cur, tbox_next h1 hb, h2, h3⟩
theorem Ko.at {W : World} {kb n q : Nat} {vals : Nat → Value} (h : Ko W kb n q vals) (j : Nat) (hj : j < n * 3) : ∃ u, W.cell? ⟨kb, j, none⟩ = some u ∧ W.frozen? ⟨kb, j, none⟩ = false := by
  obtain ⟨cur, h1, h2, h3⟩ := h
  have hj2 : j < cur.size := by omega
  exact ⟨cur[j], by rw [tcell_blk h1]; exact Array.getElem?_eq_getElem hj2, tfrozen_blk h1 j⟩
theorem Ko.set {W : World} {kb n q : Nat} {vals : Nat → Value} (h : Ko W kb n (q + 1) vals) (hq : q < n) (x y z : Value) (h0 : (Value.agg #[x, y, z]).cells = #[x, y, z]) : Ko (set3o W kb (q * 3) x y z) kb n q (fun j => if j = q then .agg #[x, y, z] else vals j) := by
  obtain ⟨cur, h1, h2, h3⟩ := h
  have k1 := tblock_store (i := q * 3) h1 x
  have k2 := tblock_store (i := q * 3 + 1) k1 y
  have k3 := tblock_store (i := q * 3 + 2) k2 z
  refine ⟨_, k3, by simp [h2], fun j hj hn c hc => ?_⟩
  by_cases e : j = q
  · subst e
    show _ = (if j = j then Value.agg #[x, y, z] else vals j).cells[c]?
    rw [if_pos rfl, h0]
    have : c = 0 ∨ c = 1 ∨ c = 2 := by omega
    rcases this with rfl | rfl | rfl
    · rw [Array.getElem?_setIfInBounds_ne (by omega), Array.getElem?_setIfInBounds_ne (by omega), Nat.add_zero, Array.getElem?_setIfInBounds_self_of_lt (by omega)]; rfl
    · rw [Array.getElem?_setIfInBounds_ne (by omega), Array.getElem?_setIfInBounds_self_of_lt (by simp; omega)]; rfl
    · rw [Array.getElem?_setIfInBounds_self_of_lt (by simp; omega)]; rfl
  · show _ = (if j = q then Value.agg #[x, y, z] else vals j).cells[c]?
    rw [if_neg e, Array.getElem?_setIfInBounds_ne (by omega), Array.getElem?_setIfInBounds_ne (by omega), Array.getElem?_setIfInBounds_ne (by omega)]
    exact h3 j (by omega) hn c hc
theorem Ko.made (w : World) (n : Nat) (z : Array Value) (vals : Nat → Value) : Ko (w.alloc (.cells (madeCells z (n * 3)) 27)) w.heap.size n n vals := ⟨_, heap_alloc_new _ _, size_madeCells _ _, fun j h1 h2 => by omega⟩
theorem make27 (n : Nat) (h : n ≤ 1000) (w : World) : (Instr.makeSlice 25 (.int .i64 (n : Int)) (.int .i64 (n : Int))).run Try.prog w = .ok (.slice (some ⟨w.heap.size, 0, none⟩) n n) (w.alloc (.cells (madeCells #[.int .i64 0, .int .i64 0, .slice none 0 0] (n * 3)) 27)) := by
  obtain ⟨i1, hi1, hy0, hy1, hy2⟩ := info_parts info27
  have hr := run_make (P := Try.prog) w 25 27 i1 _ Try.underlying25 hi1 hy0 .i64 .i64 n n (by omega) (Int.le_refl _) (by rw [hy2]; omega) (by omega)
  simp only [Int.toNat_natCast, hy1] at hr
  exact hr
end Go.Proofs.Ytldfiofgknmcgaa
