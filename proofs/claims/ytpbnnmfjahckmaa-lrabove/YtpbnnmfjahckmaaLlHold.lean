/-
  What ll.Make holds in memory: the grammar's box, the sets, the rows made so far, the clashes told so far. No function is walked here.
-/
import Derived.Test.YtpbnnmfjahckmaaLlChoose
namespace Go.Proofs.Ytpbnnmfjahckmaa
open Go.RowKit
open Cg

theorem row_own_ne {W : World} {a n base size m : Nat} {t e : TypeId} {f : Nat → Value} {v : Value} {xs : List Value} (h : W.rowIs a t n f) (k : W.ownsRow base e size v m xs) (hte : t ≠ e) : v.ownBlock ≠ some a := fun he => by
  obtain ⟨c, fz, h2⟩ := Go.Lib.ownsRow_kind k a he
  obtain ⟨c', h1, _⟩ := h
  rw [h1] at h2
  cases h2
  exact hte rfl
structure LM (w : World) (T n : Nat) (pv : Value) (ps : List Pd) (bs : Nat) (S : Nat → Wd) (br k : Nat) (rb : Nat → Nat) (A : Nat → Nat → Int) (cv : Value) (C : List Cl) (W : World) : Prop where
  gb : Gb w w.heap.size (T : Int) (n : Int) pv ps W
  rs : Rw W bs ps.length S
  rr : W.rowIs br 29 n (fun i => if i < k then .slice (some ⟨rb i, 0, none⟩) (T + 1) (T + 1) else .slice none 0 0)
  ri : ∀ i, i < k → W.rowIs (rb i) 3 (T + 1) (fun j => .int .i64 (A i j))
  gi : ∀ i, i < k → w.heap.size < rb i
  ne : ∀ i j, i < k → j < i → rb j ≠ rb i
  ge : w.heap.size < br ∧ w.heap.size < bs
  cl : W.ownsRow (w.heap.size + 1) 139 4 cv C.length (ccs C)
  p0 : Pds w pv ps
section
variable {w : World} {T n : Nat} {pv : Value} {ps : List Pd} {bs : Nat} {S : Nat → Wd} {br k : Nat} {rb : Nat → Nat} {A : Nat → Nat → Int} {cv : Value} {C : List Cl} {W W' : World}
theorem LM.next (h : LM w T n pv ps bs S br k rb A cv C W) (hb : Below W.heap.size W W') : LM w T n pv ps bs S br k rb A cv C W' :=
  ⟨h.gb.next hb, h.rs.next hb, h.rr.of_block (hb.block _ h.rr.lt), fun i hi => (h.ri i hi).of_block (hb.block _ (h.ri i hi).lt), h.gi, h.ne, h.ge, own_below h.cl hb, h.p0⟩
theorem LM.congr {A' : Nat → Nat → Int} (h : LM w T n pv ps bs S br k rb A cv C W) (he : ∀ i j, i < k → j < T + 1 → A i j = A' i j) : LM w T n pv ps bs S br k rb A' cv C W :=
  ⟨h.gb, h.rs, h.rr, fun i hi => (h.ri i hi).congr fun j hj => by rw [he i j hi hj], h.gi, h.ne, h.ge, h.cl, h.p0⟩
theorem LM.grow {cv' : Value} {C' : List Cl} (h : LM w T n pv ps bs S br k rb A cv C W) (hg : W.grownBy W' cv.ownBlock) (ho : W'.ownsRow (w.heap.size + 1) 139 4 cv' C'.length (ccs C')) : LM w T n pv ps bs S br k rb A cv' C' W' := by
  have hlo := h.cl.lt
  have hbw : Below w.heap.size w W' := Below.grown h.gb.below hg h.gb.below.size (fun q hq => by have := (hlo q hq).1; omega)
  have hgc : ∀ j, W'.cell? ⟨w.heap.size, j, none⟩ = W.cell? ⟨w.heap.size, j, none⟩ := fun j => World.cell?_of_block (hg.block w.heap.size h.gb.lt (fun e => by have := (hlo _ e.symm).1; omega))
  exact ⟨⟨hbw, Nat.lt_of_lt_of_le h.gb.lt hg.size, Nat.le_refl _, (hgc 0).trans h.gb.c0, (hgc 1).trans h.gb.c1, (hgc 2).trans h.gb.c2, h.p0.below hbw⟩,
    h.rs.of (hg.block _ h.rs.lt (fun e => row_own_ne h.rs h.cl (by decide) e.symm)), h.rr.of_block (hg.block _ h.rr.lt (fun e => row_own_ne h.rr h.cl (by decide) e.symm)),
    fun i hi => (h.ri i hi).of_block (hg.block _ (h.ri i hi).lt (fun e => row_own_ne (h.ri i hi) h.cl (by decide) e.symm)), h.gi, h.ne, h.ge, ho, h.p0⟩
theorem own_fm {X : Nat → Prop} {base e size m : Nat} {v : Value} {xs : List Value} (h : W.ownsRow base e size v m xs) (hf : Fm X W W') (hx : ∀ q, v.ownBlock = some q → ¬ X q) : W'.ownsRow base e size v m xs := by
  obtain ⟨h1, h2 | ⟨g, cap, cur, hv, hg, hh, h3⟩⟩ := h
  · exact ⟨h1, Or.inl h2⟩
  · subst hv
    refine ⟨h1, Or.inr ⟨g, cap, cur, rfl, hg, ?_, h3⟩⟩
    have hlt : g < W.heap.size := by
      rcases Nat.lt_or_ge g W.heap.size with h' | h'
      · exact h'
      · rw [Array.getElem?_eq_none h'] at hh; cases hh
    rw [hf.block g hlt (hx g rfl)]; exact hh
/-- A new row is laid. -/
theorem LM.row (h : LM w T n pv ps bs S br k rb A cv C W) (hk : k < n) : LM w T n pv ps bs S br (k + 1) (upd rb k W.heap.size) (upd A k (fun _ => 0)) cv C ((W.alloc (Obj.cells (madeCells #[Value.int .i64 0] (T + 1)) 3)).setCell ⟨br, k, none⟩ (.slice (some ⟨W.heap.size, 0, none⟩) (T + 1) (T + 1))) := by
  have hb := below_alloc W (Obj.cells (madeCells #[Value.int .i64 0] (T + 1)) 3)
  have h1 := h.next hb
  have hnew := World.rowIs_made W (.int .i64 0) (T + 1) 3
  generalize W.alloc (Obj.cells (madeCells #[Value.int .i64 0] (T + 1)) 3) = W1 at hb h1 hnew ⊢
  have hf : Fm (fun q => q = br) W1 (W1.setCell ⟨br, k, none⟩ (.slice (some ⟨W.heap.size, 0, none⟩) (T + 1) (T + 1))) := Fm.set (X := fun q => q = br) (b := br) (i := k) _ rfl
  have hs := h.gb.below.size
  refine ⟨h1.gb.other h.p0 hf (by have := h.ge; omega) (by have := h.ge; omega), h1.rs.of (hf.block _ h1.rs.lt (row_ne h1.rs h1.rr (by decide))), ?_, fun i hi => ?_, fun i hi => ?_, fun i j hi hj => ?_, h.ge, own_fm h1.cl hf (fun q hq e => by subst e; exact row_own_ne h1.rr h1.cl (by decide) hq), h.p0⟩
  · refine (h1.rr.set k _).congr fun i hi => ?_
    by_cases e : i = k
    · subst e; rw [if_pos rfl, if_pos (by omega)]; simp only [upd, if_true]
    · rw [if_neg e]
      by_cases e2 : i < k
      · rw [if_pos e2, if_pos (by omega)]; simp only [upd, if_neg e]
      · rw [if_neg e2, if_neg (by omega)]
  · by_cases e : i = k
    · subst e
      rw [upd_at, upd_at]
      exact hnew.of_block (hf.block _ hnew.lt (row_ne hnew h1.rr (by decide)))
    · rw [upd_ne _ _ e, upd_ne _ _ e]
      have := h1.ri i (by omega)
      exact this.of_block (hf.block _ this.lt (row_ne this h1.rr (by decide)))
  · by_cases e : i = k
    · subst e; rw [upd_at]; have := h.gb.lt; omega
    · rw [upd_ne _ _ e]; exact h.gi i (by omega)
  · by_cases e : i = k
    · subst e
      rw [upd_at, upd_ne _ _ (by omega)]
      have := (h.ri j hj).lt; omega
    · rw [upd_ne _ _ e, upd_ne _ _ (by omega)]; exact h.ne i j (by omega) hj
/-- A number is put into the last row. -/
theorem LM.put (h : LM w T n pv ps bs S br (k + 1) rb A cv C W) (j : Nat) (z : Int) : LM w T n pv ps bs S br (k + 1) rb (upd A k (upd (A k) j z)) cv C (W.setCell ⟨rb k, j, none⟩ (.int .i64 z)) := by
  have hrk := h.ri k (by omega)
  have hgk := h.gi k (by omega)
  have hf : Fm (fun q => q = rb k) W (W.setCell ⟨rb k, j, none⟩ (.int .i64 z)) := Fm.set (X := fun q => q = rb k) (b := rb k) (i := j) _ rfl
  refine ⟨h.gb.other h.p0 hf (by omega) (by omega), h.rs.of (hf.block _ h.rs.lt (row_ne h.rs hrk (by decide))), h.rr.of_block (hf.block _ h.rr.lt (row_ne h.rr hrk (by decide))), fun i hi => ?_, h.gi, h.ne, h.ge, own_fm h.cl hf (fun q hq e => by subst e; exact row_own_ne hrk h.cl (by decide) hq), h.p0⟩
  by_cases e : i = k
  · subst e
    refine (hrk.set j _).congr fun q _ => ?_
    rw [upd_at]; unfold upd; split <;> rfl
  · rw [upd_ne _ _ e]
    exact (h.ri i hi).of_block (hf.block _ (h.ri i hi).lt (h.ne k i (by omega) (by omega)))
end
/-- Rows that are all there so far: k whole ones, and col numbers of the next. -/
def Ap (R : Nat → Nat → Int) (k col i j : Nat) : Int := if i < k ∨ (i = k ∧ j < col) then R i j else 0
theorem Ap_row (R : Nat → Nat → Int) (k T i j : Nat) (hi : i < k + 1) (hj : j < T + 1) : Ap R k (T + 1) i j = Ap R (k + 1) 0 i j := by
  unfold Ap
  rw [if_pos (by omega), if_pos (by omega)]
theorem Ap_new (R : Nat → Nat → Int) (k i j : Nat) : upd (Ap R k 0) k (fun _ => 0) i j = Ap R k 0 i j := by
  unfold upd
  by_cases e : i = k
  · rw [if_pos e]; unfold Ap; rw [if_neg (by omega)]
  · rw [if_neg e]
theorem Ap_put (R : Nat → Nat → Int) (k col i j : Nat) (hi : i < k + 1) : upd (Ap R k col) k (upd (Ap R k col k) col (R k col)) i j = Ap R k (col + 1) i j := by
  unfold upd
  by_cases e : i = k
  · subst e
    rw [if_pos rfl]
    by_cases e2 : j = col
    · subst e2; rw [if_pos rfl]; unfold Ap; rw [if_pos (by omega)]
    · rw [if_neg e2]; unfold Ap
      by_cases e3 : j < col
      · rw [if_pos (by omega), if_pos (by omega)]
      · rw [if_neg (by omega), if_neg (by omega)]
  · rw [if_neg e]; unfold Ap; rw [if_pos (by omega), if_pos (by omega)]
theorem rws_of {w : World} {T n : Nat} {pv : Value} {ps : List Pd} {bs : Nat} {S : Nat → Wd} {br : Nat} {rb : Nat → Nat} {cv : Value} {C : List Cl} {W : World} (h : LM w T n pv ps bs S br n rb (Ap (rowA ps S T) n 0) cv C W) (hn : n ≤ 20) (hT : T ≤ 30) : Rws W (.slice (some ⟨br, 0, none⟩) n n) (rowsL ps S T n) := by
  refine ⟨some ⟨br, 0, none⟩, n, by rw [rowsL_length], by rw [rowsL_length]; omega, Or.inr ⟨br, 0, rfl, h.rr.lt, fun i hi => ?_⟩⟩
  rw [rowsL_length] at hi
  have h1 := h.rr.cell hi
  rw [if_pos hi] at h1
  refine ⟨_, by rw [Nat.zero_add]; exact h1, some ⟨rb i, 0, none⟩, T + 1, ?_, ?_, Or.inr ⟨rb i, 0, rfl, (h.ri i hi).lt, fun j hj => ?_⟩⟩
  · simp [rowsL, rowL]
  · simp [rowsL, rowL]; omega
  · have hj2 : j < T + 1 := by simpa [rowsL, rowL] using hj
    rw [Nat.zero_add, (h.ri i hi).cell hj2]
    simp [rowsL, rowL, Ap, hi]
end Go.Proofs.Ytpbnnmfjahckmaa
