/-
  What pushref.Ll holds in memory. No function is walked here.
-/
import Derived.Test.YtdclhkjhbippdaaLlMake
import Derived.Test.YtdclhkjhbippdaaFcAll
namespace Go.Proofs.Ytdclhkjhbippdaa
open Go.RowKit
open Cg

theorem own_len {W : World} {base e size n m c : Nat} {o : Option Addr} {xs : List Value} (h : W.ownsRow base e size (.slice o m c) n xs) : m = n := by
  rcases h.2 with ⟨he, h0⟩ | ⟨g, cap, cur, he, -⟩
  · cases he; exact h0.symm
  · cases he; rfl
theorem own_own_ne {W : World} {b1 b2 e1 e2 s1 s2 n1 n2 : Nat} {v1 v2 : Value} {xs1 xs2 : List Value} (h : W.ownsRow b1 e1 s1 v1 n1 xs1) (k : W.ownsRow b2 e2 s2 v2 n2 xs2) (hne : e1 ≠ e2) : v1.ownBlock = none ∨ v1.ownBlock ≠ v2.ownBlock := by
  cases h1 : v1.ownBlock with
  | none => exact Or.inl rfl
  | some g =>
    refine Or.inr fun e => ?_
    obtain ⟨c1, f1, p1⟩ := Go.Lib.ownsRow_kind h g h1
    obtain ⟨c2, f2, p2⟩ := Go.Lib.ownsRow_kind k g e.symm
    rw [p1] at p2; cases p2; exact hne rfl
structure LR (w : World) (T n : Nat) (pv : Value) (ps : List Pd) (be bf bw br bm cf : Nat) (E : Nat → Bool) (F V : Nat → Wd) (R M : Nat → Bool) (rv : Value) (us : List Value) (RL : List (List Int)) (cv : Value) (C : List Cl) (W : World) : Prop where
  gb : Gb w w.heap.size (T : Int) (n : Int) pv ps W
  fx : Fx n be bf bw br bm E F V R M W
  bx : W.rowIs cf 55 5 (fv (.slice (some ⟨be, 0, none⟩) n n) (.slice (some ⟨bf, 0, none⟩) n n) (.slice (some ⟨bw, 0, none⟩) n n) (.slice (some ⟨br, 0, none⟩) n n) (.slice (some ⟨bm, 0, none⟩) n n))
  ro : W.ownsRow (w.heap.size + 1) 35 1 rv us.length us
  ul : us.length = RL.length
  ui : ∀ i (h : i < RL.length), ∃ u, us[i]? = some u ∧ W.ownsRow (w.heap.size + 1) 3 1 u RL[i].length (RL[i].map (Value.int .i64))
  cl : W.ownsRow (w.heap.size + 1) 39 4 cv C.length (ccs C)
  p0 : Pds w pv ps
/-- The rows that are done lie below B. -/
def Sp (us : List Value) (B : Nat) : Prop := ∀ u ∈ us, ∀ q, u.ownBlock = some q → q < B
section
variable {w : World} {T n : Nat} {pv : Value} {ps : List Pd} {be bf bw br bm cf : Nat} {E : Nat → Bool} {F V : Nat → Wd} {R M : Nat → Bool} {rv : Value} {us : List Value} {RL : List (List Int)} {cv : Value} {C : List Cl} {W W' : World}
theorem LR.next (h : LR w T n pv ps be bf bw br bm cf E F V R M rv us RL cv C W) (hb : Below W.heap.size W W') : LR w T n pv ps be bf bw br bm cf E F V R M rv us RL cv C W' :=
  ⟨h.gb.next hb, h.fx.next hb, h.bx.of_block (hb.block _ h.bx.lt), own_below h.ro hb, h.ul, fun i hi => have ⟨u, h1, h2⟩ := h.ui i hi; ⟨u, h1, own_below h2 hb⟩, own_below h.cl hb, h.p0⟩
theorem LR.gbg (h : LR w T n pv ps be bf bw br bm cf E F V R M rv us RL cv C W) {row : Option Nat} (hg : W.grownBy W' row) (hr : ∀ q, row = some q → w.heap.size + 1 ≤ q) : Gb w w.heap.size (T : Int) (n : Int) pv ps W' := by
  have hbw : Below w.heap.size w W' := Below.grown h.gb.below hg h.gb.below.size (fun q hq => by have := hr q hq; omega)
  have hgc : ∀ j, W'.cell? ⟨w.heap.size, j, none⟩ = W.cell? ⟨w.heap.size, j, none⟩ := fun j => World.cell?_of_block (hg.block w.heap.size h.gb.lt (fun e => by have := hr _ e.symm; omega))
  exact ⟨hbw, Nat.lt_of_lt_of_le h.gb.lt hg.size, Nat.le_refl _, (hgc 0).trans h.gb.c0, (hgc 1).trans h.gb.c1, (hgc 2).trans h.gb.c2, h.p0.below hbw⟩
theorem LR.fxg (h : LR w T n pv ps be bf bw br bm cf E F V R M rv us RL cv C W) {base e size m : Nat} {v : Value} {xs : List Value} (ho : W.ownsRow base e size v m xs) (h4 : 4 ≠ e) (h5 : 58 ≠ e) (h6 : 55 ≠ e) (hg : W.grownBy W' v.ownBlock) :
    Fx n be bf bw br bm E F V R M W' ∧ W'.rowIs cf 55 5 (fv (.slice (some ⟨be, 0, none⟩) n n) (.slice (some ⟨bf, 0, none⟩) n n) (.slice (some ⟨bw, 0, none⟩) n n) (.slice (some ⟨br, 0, none⟩) n n) (.slice (some ⟨bm, 0, none⟩) n n)) :=
  ⟨⟨h.fx.e.of (hg.block _ h.fx.e.lt fun e => row_own_ne h.fx.e ho h4 e.symm), h.fx.f.of (hg.block _ h.fx.f.lt fun e => row_own_ne h.fx.f ho h5 e.symm), h.fx.v.of (hg.block _ h.fx.v.lt fun e => row_own_ne h.fx.v ho h5 e.symm), h.fx.r.of (hg.block _ h.fx.r.lt fun e => row_own_ne h.fx.r ho h4 e.symm), h.fx.m.of (hg.block _ h.fx.m.lt fun e => row_own_ne h.fx.m ho h4 e.symm)⟩, h.bx.of_block (hg.block _ h.bx.lt fun e => row_own_ne h.bx ho h6 e.symm)⟩
theorem LR.clash {cv' : Value} {C' : List Cl} (h : LR w T n pv ps be bf bw br bm cf E F V R M rv us RL cv C W) (hg : W.grownBy W' cv.ownBlock) (ho : W'.ownsRow (w.heap.size + 1) 39 4 cv' C'.length (ccs C')) : LR w T n pv ps be bf bw br bm cf E F V R M rv us RL cv' C' W' :=
  have hx := h.fxg h.cl (by decide) (by decide) (by decide) hg
  ⟨h.gbg hg fun q hq => (h.cl.lt q hq).1, hx.1, hx.2, h.ro.kept hg (own_own_ne h.ro h.cl (by decide)), h.ul, fun i hi => have ⟨u, h1, h2⟩ := h.ui i hi; ⟨u, h1, h2.kept hg (own_own_ne h2 h.cl (by decide))⟩, ho, h.p0⟩
/-- A row of numbers that lies above the done ones grows. -/
theorem LR.three {B m : Nat} {xv : Value} {xs : List Value} (h : LR w T n pv ps be bf bw br bm cf E F V R M rv us RL cv C W) (hs : Sp us B) (hB : w.heap.size + 1 ≤ B) (hx : W.ownsRow B 3 1 xv m xs) (hg : W.grownBy W' xv.ownBlock) : LR w T n pv ps be bf bw br bm cf E F V R M rv us RL cv C W' :=
  have hfx := h.fxg hx (by decide) (by decide) (by decide) hg
  ⟨h.gbg hg fun q hq => by have := (hx.lt q hq).1; omega, hfx.1, hfx.2, h.ro.kept hg (own_own_ne h.ro hx (by decide)), h.ul, fun i hi => by
    obtain ⟨u, h1, h2⟩ := h.ui i hi
    refine ⟨u, h1, h2.kept hg ?_⟩
    cases e : u.ownBlock with
    | none => exact Or.inl rfl
    | some q =>
      refine Or.inr fun e2 => ?_
      have a1 := hs u (List.mem_of_getElem? h1) q e
      have a2 := (hx.lt q e2.symm).1
      omega, h.cl.kept hg (own_own_ne h.cl hx (by decide)), h.p0⟩
/-- One more row is done. -/
theorem LR.rows {B : Nat} {xv rv' : Value} {X : List Int} (h : LR w T n pv ps be bf bw br bm cf E F V R M rv us RL cv C W) (hB : w.heap.size + 1 ≤ B) (hx : W.ownsRow B 3 1 xv X.length (X.map (Value.int .i64))) (hg : W.grownBy W' rv.ownBlock) (ho : W'.ownsRow (w.heap.size + 1) 35 1 rv' (us ++ [xv]).length (us ++ [xv])) :
    LR w T n pv ps be bf bw br bm cf E F V R M rv' (us ++ [xv]) (RL ++ [X]) cv C W' := by
  have hfx := h.fxg h.ro (by decide) (by decide) (by decide) hg
  refine ⟨h.gbg hg fun q hq => (h.ro.lt q hq).1, hfx.1, hfx.2, ho, by simp [h.ul], fun i hi => ?_, h.cl.kept hg (own_own_ne h.cl h.ro (by decide)), h.p0⟩
  by_cases e : i < RL.length
  · obtain ⟨u, h1, h2⟩ := h.ui i e
    refine ⟨u, ?_, ?_⟩
    · rw [List.getElem?_append_left (by rw [h.ul]; exact e)]; exact h1
    · rw [List.getElem_append_left e]; exact h2.kept hg (own_own_ne h2 h.ro (by decide))
  · have e2 : i = RL.length := by simp at hi; omega
    subst e2
    refine ⟨xv, ?_, ?_⟩
    · rw [← h.ul]; simp
    · rw [List.getElem_append_right (Nat.le_refl _)]
      simp only [Nat.sub_self, List.getElem_cons_zero]
      exact Go.Joins.ownsRow_le (hx.kept hg (own_own_ne hx h.ro (by decide))) hB
theorem LR.sp (h : LR w T n pv ps be bf bw br bm cf E F V R M rv us RL cv C W) : Sp us W.heap.size := fun u hu q hq => by
  obtain ⟨i, hi, rfl⟩ := List.getElem_of_mem hu
  obtain ⟨u', h1, h2⟩ := h.ui i (by rw [← h.ul]; exact hi)
  rw [List.getElem?_eq_getElem hi] at h1
  cases h1
  exact (h2.lt q hq).2
theorem LR.rws (h : LR w T n pv ps be bf bw br bm cf E F V R M rv us RL cv C W) (hl : RL.length ≤ 1000) (hr : ∀ r ∈ RL, r.length ≤ 1000) : Rws W rv RL := by
  rcases h.ro.2 with ⟨h1, h2⟩ | ⟨g, cap, cur, hv, hg, hh, hn, hc, hs, ht⟩
  · have h3 := h.ul
    exact ⟨none, 0, by rw [h1, show RL.length = 0 by omega], by omega, Or.inl (List.length_eq_zero_iff.1 (by omega))⟩
  · subst hv
    refine ⟨some ⟨g, 0, none⟩, cap, by rw [h.ul], by omega, Or.inr ⟨g, 0, rfl, (h.ro.lt g rfl).2, fun i hi => ?_⟩⟩
    obtain ⟨u, h1, h2⟩ := h.ui i hi
    have h3 := h.ro.cells (g := g) rfl i u h1
    rw [Addr.add_lit] at h3
    exact ⟨u, h3, ints_of_own h2 (by have := hr _ (List.getElem_mem hi); omega)⟩
end
/-- What is held while a row is being made. -/
structure LX (w : World) (T n : Nat) (pv : Value) (ps : List Pd) (be bf bw br bm cf : Nat) (E : Nat → Bool) (F V : Nat → Wd) (R M : Nat → Bool) (rv : Value) (us : List Value) (RL : List (List Int)) (cv : Value) (C : List Cl) (B : Nat) (xv : Value) (X : List Int) (B2 : Nat) (mv : Value) (Y : List Int) (W : World) : Prop where
  lr : LR w T n pv ps be bf bw br bm cf E F V R M rv us RL cv C W
  sp : Sp us B
  x : W.ownsRow B 3 1 xv X.length (X.map (Value.int .i64))
  m : W.ownsRow B2 3 1 mv Y.length (Y.map (Value.int .i64))
  b1 : w.heap.size + 1 ≤ B
  b2 : B ≤ B2
  sz : B2 ≤ W.heap.size
section
variable {w : World} {T n : Nat} {pv : Value} {ps : List Pd} {be bf bw br bm cf : Nat} {E : Nat → Bool} {F V : Nat → Wd} {R M : Nat → Bool} {rv : Value} {us : List Value} {RL : List (List Int)} {cv : Value} {C : List Cl} {B : Nat} {xv : Value} {X : List Int} {B2 : Nat} {mv : Value} {Y : List Int} {W W' : World}
theorem LX.next (h : LX w T n pv ps be bf bw br bm cf E F V R M rv us RL cv C B xv X B2 mv Y W) (hb : Below W.heap.size W W') : LX w T n pv ps be bf bw br bm cf E F V R M rv us RL cv C B xv X B2 mv Y W' :=
  ⟨h.lr.next hb, h.sp, own_below h.x hb, own_below h.m hb, h.b1, h.b2, Nat.le_trans h.sz hb.size⟩
theorem LX.clash {cv' : Value} {C' : List Cl} (h : LX w T n pv ps be bf bw br bm cf E F V R M rv us RL cv C B xv X B2 mv Y W) (hg : W.grownBy W' cv.ownBlock) (ho : W'.ownsRow (w.heap.size + 1) 39 4 cv' C'.length (ccs C')) : LX w T n pv ps be bf bw br bm cf E F V R M rv us RL cv' C' B xv X B2 mv Y W' :=
  ⟨h.lr.clash hg ho, h.sp, h.x.kept hg (own_own_ne h.x h.lr.cl (by decide)), h.m.kept hg (own_own_ne h.m h.lr.cl (by decide)), h.b1, h.b2, Nat.le_trans h.sz hg.size⟩
theorem LX.may {mv' : Value} {Y' : List Int} (h : LX w T n pv ps be bf bw br bm cf E F V R M rv us RL cv C B xv X B2 mv Y W) (hx : ∀ q, xv.ownBlock = some q → q < B2) (hg : W.grownBy W' mv.ownBlock) (ho : W'.ownsRow B2 3 1 mv' Y'.length (Y'.map (Value.int .i64))) : LX w T n pv ps be bf bw br bm cf E F V R M rv us RL cv C B xv X B2 mv' Y' W' :=
  ⟨h.lr.three (fun u hu q hq => Nat.lt_of_lt_of_le (h.sp u hu q hq) h.b2) (Nat.le_trans h.b1 h.b2) h.m hg, h.sp, h.x.kept hg (by
    cases e : xv.ownBlock with
    | none => exact Or.inl rfl
    | some q =>
      refine Or.inr fun e2 => ?_
      have a1 := hx q e
      have a2 := (h.m.lt q e2.symm).1
      omega), ho, h.b1, h.b2, Nat.le_trans h.sz hg.size⟩
theorem LX.row {xv' : Value} {X' : List Int} (h : LX w T n pv ps be bf bw br bm cf E F V R M rv us RL cv C B xv X B2 mv Y W) (hx : ∀ q, xv.ownBlock = some q → q < B2) (hg : W.grownBy W' xv.ownBlock) (ho : W'.ownsRow B 3 1 xv' X'.length (X'.map (Value.int .i64))) : LX w T n pv ps be bf bw br bm cf E F V R M rv us RL cv C B xv' X' B2 mv Y W' :=
  ⟨h.lr.three h.sp h.b1 h.x hg, h.sp, ho, h.m.kept hg (by
    cases e : mv.ownBlock with
    | none => exact Or.inl rfl
    | some q =>
      refine Or.inr fun e2 => ?_
      have a1 := hx q e2.symm
      have a2 := (h.m.lt q e).1
      omega), h.b1, h.b2, Nat.le_trans h.sz hg.size⟩
end
end Go.Proofs.Ytdclhkjhbippdaa
