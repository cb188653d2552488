/-
  What the document's own walk through two automata has in memory, and how it stays. No function is walked here.
-/
import Derived.Test.YtcddomihkamhcaaRaLow
import Derived.Maps.AppendAt
namespace Go.Proofs.Ytcddomihkamhcaa
open Go.RowKit
open Dfa

structure RK (w : World) (RA RB : Nat → Nat → Int) (vA tA vB tB : Value) (F : Nat → Bool) (N M1 M2 : List S) (nv tv hv sv : Value) (W : World) : Prop where
  below : Below w.heap.size w W
  c0 : W.cell? ⟨w.heap.size, 0, none⟩ = some vA
  c1 : W.cell? ⟨w.heap.size, 1, none⟩ = some tA
  c2 : W.cell? ⟨w.heap.size + 1, 0, none⟩ = some vB
  c3 : W.cell? ⟨w.heap.size + 1, 1, none⟩ = some tB
  seen : W.rowIs (w.heap.size + 2) 4 40602 (fun q => .bool (F q))
  now : W.ownsRow (w.heap.size + 3) 52 2 nv N.length (pcs RA RB N)
  txt : W.ownsRow (w.heap.size + 3) 9 1 tv N.length (txs N)
  thn : W.ownsRow (w.heap.size + 3) 52 2 hv M1.length (pcs RA RB M1)
  sad : W.ownsRow (w.heap.size + 3) 9 1 sv M2.length (txs M2)
  ne1 : ∀ k, nv.ownBlock = some k → hv.ownBlock ≠ some k
  ne2 : ∀ k, tv.ownBlock = some k → sv.ownBlock ≠ some k
variable {w : World} {RA RB : Nat → Nat → Int} {vA tA vB tB : Value} {F : Nat → Bool} {N M1 M2 : List S} {nv tv hv sv : Value} {W W' : World}
theorem cell_at {w w' : World} {b j : Nat} (h : w'.heap[b]? = w.heap[b]?) : w'.cell? ⟨b, j, none⟩ = w.cell? ⟨b, j, none⟩ := by simp [World.cell?, h]
/-- Rows of two kinds do not share a block. -/
theorem own_apart {base e e' size size' n n' : Nat} {v v' : Value} {xs xs' : List Value} (h : W.ownsRow base e size v n xs) (h' : W.ownsRow base e' size' v' n' xs') (he : e ≠ e') (k : Nat) (hk : v.ownBlock = some k) : v'.ownBlock ≠ some k := by
  intro hk'
  rcases h.2 with ⟨rfl, _⟩ | ⟨g1, c1, r1, rfl, _, h1, _⟩
  · simp [Value.ownBlock] at hk
  · rcases h'.2 with ⟨rfl, _⟩ | ⟨g2, c2, r2, rfl, _, h2, _⟩
    · simp [Value.ownBlock] at hk'
    · simp [Value.ownBlock] at hk hk'
      subst hk
      subst hk'
      rw [h1] at h2
      simp at h2
      exact he h2.2
theorem RK.next (h : RK w RA RB vA tA vB tB F N M1 M2 nv tv hv sv W) (hb : Below W.heap.size W W') : RK w RA RB vA tA vB tB F N M1 M2 nv tv hv sv W' := by
  have hs := h.seen.lt
  have e : ∀ k, k < W.heap.size → W'.heap[k]? = W.heap[k]? := fun k hk => hb.block k hk
  exact ⟨h.below.trans (hb.mono h.below.size), (cell_at (e _ (by omega))).trans h.c0, (cell_at (e _ (by omega))).trans h.c1, (cell_at (e _ (by omega))).trans h.c2, (cell_at (e _ (by omega))).trans h.c3, h.seen.of_block (e _ hs),
    own_same h.now fun k hk => e k (h.now.lt k hk).2, own_same h.txt fun k hk => e k (h.txt.lt k hk).2, own_same h.thn fun k hk => e k (h.thn.lt k hk).2, own_same h.sad fun k hk => e k (h.sad.lt k hk).2, h.ne1, h.ne2⟩
def upd1 (F : Nat → Bool) (q : Nat) : Nat → Bool := fun x => if x = q then true else F x
theorem RK.mark (h : RK w RA RB vA tA vB tB F N M1 M2 nv tv hv sv W) (q : Nat) : RK w RA RB vA tA vB tB (upd1 F q) N M1 M2 nv tv hv sv (W.setCell ⟨w.heap.size + 2, q, none⟩ (.bool true)) := by
  have e : ∀ k, k ≠ w.heap.size + 2 → (W.setCell ⟨w.heap.size + 2, q, none⟩ (.bool true)).heap[k]? = W.heap[k]? := fun k hk => Below.heap_setCell _ _ _ _ hk
  refine ⟨h.below.setCell (by simp) _, (cell_at (e _ (by omega))).trans h.c0, (cell_at (e _ (by omega))).trans h.c1, (cell_at (e _ (by omega))).trans h.c2, (cell_at (e _ (by omega))).trans h.c3, (h.seen.set q (.bool true)).congr fun i hi => ?_,
    own_same h.now fun k hk => e k (by have := (h.now.lt k hk).1; omega), own_same h.txt fun k hk => e k (by have := (h.txt.lt k hk).1; omega), own_same h.thn fun k hk => e k (by have := (h.thn.lt k hk).1; omega), own_same h.sad fun k hk => e k (by have := (h.sad.lt k hk).1; omega), h.ne1, h.ne2⟩
  unfold upd1
  by_cases ei : i = q
  · simp [ei]
  · simp [ei]
theorem RK.then_ {hv' : Value} {M1' : List S} (h : RK w RA RB vA tA vB tB F N M1 M2 nv tv hv sv W) (hg : W.grownBy W' hv.ownBlock) (ho : W'.ownsRow (w.heap.size + 3) 52 2 hv' M1'.length (pcs RA RB M1')) (hb : hv'.ownBlock = hv.ownBlock ∨ hv'.ownBlock = some W.heap.size) :
    RK w RA RB vA tA vB tB F N M1' M2 nv tv hv' sv W' := by
  have hs := h.seen.lt
  have hl : ∀ k, hv.ownBlock = some k → w.heap.size + 3 ≤ k := fun k hk => (h.thn.lt k hk).1
  have e : ∀ k, k < W.heap.size → hv.ownBlock ≠ some k → W'.heap[k]? = W.heap[k]? := fun k hk hk2 => hg.block k hk (fun e => hk2 e.symm)
  have e2 : ∀ k, k < w.heap.size + 3 → W'.heap[k]? = W.heap[k]? := fun k hk => e k (by omega) (fun x => by have := hl k x; omega)
  refine ⟨h.below.grown hg h.below.size (fun k hk => by have := hl k hk; omega), (cell_at (e2 _ (by omega))).trans h.c0, (cell_at (e2 _ (by omega))).trans h.c1, (cell_at (e2 _ (by omega))).trans h.c2, (cell_at (e2 _ (by omega))).trans h.c3, h.seen.of_block (e2 _ (by omega)),
    own_same h.now fun k hk => e k (h.now.lt k hk).2 (h.ne1 k hk), own_same h.txt fun k hk => e k (h.txt.lt k hk).2 (own_apart h.txt h.thn (by omega) k hk), ho, own_same h.sad fun k hk => e k (h.sad.lt k hk).2 (own_apart h.sad h.thn (by omega) k hk), fun k hk => ?_, h.ne2⟩
  rcases hb with hb | hb
  · rw [hb]; exact h.ne1 k hk
  · rw [hb]; intro x; have := (h.now.lt k hk).2; simp at x; omega
theorem RK.said {sv' : Value} {M2' : List S} (h : RK w RA RB vA tA vB tB F N M1 M2 nv tv hv sv W) (hg : W.grownBy W' sv.ownBlock) (ho : W'.ownsRow (w.heap.size + 3) 9 1 sv' M2'.length (txs M2')) (hb : sv'.ownBlock = sv.ownBlock ∨ sv'.ownBlock = some W.heap.size) :
    RK w RA RB vA tA vB tB F N M1 M2' nv tv hv sv' W' := by
  have hs := h.seen.lt
  have hl : ∀ k, sv.ownBlock = some k → w.heap.size + 3 ≤ k := fun k hk => (h.sad.lt k hk).1
  have e : ∀ k, k < W.heap.size → sv.ownBlock ≠ some k → W'.heap[k]? = W.heap[k]? := fun k hk hk2 => hg.block k hk (fun e => hk2 e.symm)
  have e2 : ∀ k, k < w.heap.size + 3 → W'.heap[k]? = W.heap[k]? := fun k hk => e k (by omega) (fun x => by have := hl k x; omega)
  refine ⟨h.below.grown hg h.below.size (fun k hk => by have := hl k hk; omega), (cell_at (e2 _ (by omega))).trans h.c0, (cell_at (e2 _ (by omega))).trans h.c1, (cell_at (e2 _ (by omega))).trans h.c2, (cell_at (e2 _ (by omega))).trans h.c3, h.seen.of_block (e2 _ (by omega)),
    own_same h.now fun k hk => e k (h.now.lt k hk).2 (own_apart h.now h.sad (by omega) k hk), own_same h.txt fun k hk => e k (h.txt.lt k hk).2 (h.ne2 k hk), own_same h.thn fun k hk => e k (h.thn.lt k hk).2 (own_apart h.thn h.sad (by omega) k hk), ho, h.ne1, fun k hk => ?_⟩
  rcases hb with hb | hb
  · rw [hb]; exact h.ne2 k hk
  · rw [hb]; intro x; have := (h.txt.lt k hk).2; simp at x; omega
/-- The number of a pair. -/
def nu (x y : Int) : Nat := ((x + 1) * 201 + y + 1).toNat
/-- Marked are those that were come to. -/
def Fs (RA RB : Nat → Nat → Int) (F : Nat → Bool) (Q : List S) : Prop := ∀ x y : Int, -1 ≤ x → x < 200 → -1 ≤ y → y < 200 → (F (nu x y) = true ↔ ∃ k, k < Q.length ∧ pr RA RB (Dfa.g Q k).wd = (x, y))
theorem nu_inj {x y u v : Int} (h1 : -1 ≤ x ∧ x < 200) (h2 : -1 ≤ y ∧ y < 200) (h3 : -1 ≤ u ∧ u < 200) (h4 : -1 ≤ v ∧ v < 200) (h : nu x y = nu u v) : x = u ∧ y = v := by
  unfold nu at h; omega
theorem Fs.new {Q : List S} {s : S} {x y : Int} (h : Fs RA RB F Q) (h1 : -1 ≤ x ∧ x < 200) (h2 : -1 ≤ y ∧ y < 200) (hp : pr RA RB s.wd = (x, y)) : Fs RA RB (upd1 F (nu x y)) (Q ++ [s]) := fun u v a b c d => by
  have hh := h u v a b c d
  unfold upd1
  constructor
  · intro h3
    split at h3
    · rename_i e
      obtain ⟨rfl, rfl⟩ := nu_inj ⟨a, b⟩ ⟨c, d⟩ h1 h2 e
      exact ⟨Q.length, by simp, by rw [g_new]; exact hp⟩
    · obtain ⟨k, k1, k2⟩ := hh.1 h3
      exact ⟨k, by simp; omega, by rw [g_left _ _ _ k1]; exact k2⟩
  · rintro ⟨k, k1, k2⟩
    by_cases e : k < Q.length
    · rw [g_left _ _ _ e] at k2
      have := hh.2 ⟨k, e, k2⟩
      split
      · rfl
      · exact this
    · obtain rfl : k = Q.length := by simp at k1; omega
      rw [g_new, hp] at k2
      simp only [Prod.mk.injEq] at k2
      rw [k2.1, k2.2, if_pos rfl]
end Go.Proofs.Ytcddomihkamhcaa
