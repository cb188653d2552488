/-
  What small.oneOfEach holds in memory. No function is walked here.
-/
import Derived.Test.YtlgcggfenljdnaaMnKinds
import Derived.Test.YtlgcggfenljdnaaMnOne
import Derived.Deep.AppendLies
namespace Go.Proofs.Ytlgcggfenljdnaa
open Go.RowKit
open Go.Maps
open Dfa

variable {R : Nat → Nat → Int} {T K : Nat → Int} {n : Nat}
theorem law40 : Maps.Keyed Try.prog 40 := Maps.int_keyed Try.underlying40
theorem key40 {z : Int} (h : -32768 ≤ z ∧ z ≤ 32767) : keyOf Try.prog 40 (.int .i16 z) = some (.int .i16 z) := Maps.keyOf_int_mk Try.underlying40 (by simp [Lit.wf, IntKind.min, IntKind.max, IntKind.signed, IntKind.bits]; omega)
/-- The map tells the numbers of the kinds. -/
structure MN (K : Nat → Int) (D : DataW Unit) (met : List Nat) : Prop where
  isMap : IsMap D
  has : ∀ k : Int, -32768 ≤ k ∧ k ≤ 32767 → (Maps.has D (.int .i16 k) = true ↔ k = -1 ∨ ∃ i, i < met.length ∧ K (met.getD i 0) = k)
  neg : D.atKey (.int .i16 (-1)) (.lit (.int .i16 0)) = .lit (.int .i16 (-1))
  at_ : ∀ i, i < met.length → K (met.getD i 0) ≠ -1 → D.atKey (.int .i16 (K (met.getD i 0))) (.lit (.int .i16 0)) = .lit (.int .i16 (i : Int))
theorem lit_ne {x y : Int} (h : x ≠ y) : (Lit.int .i16 x) ≠ Lit.int .i16 y := fun e => h (by injection e)
theorem MN.start (h0 : -1 ≤ K 0 ∧ K 0 ≤ 32767) : MN K (DataW.put (DataW.put (.map []) (.int .i16 (K 0)) (.lit (.int .i16 0))) (.int .i16 (-1)) (.lit (.int .i16 (-1)))) [0] := by
  have m0 : IsMap (DataW.map (H := Unit) []) := ⟨[], rfl⟩
  have m1 : IsMap (DataW.put (DataW.map (H := Unit) []) (.int .i16 (K 0)) (.lit (.int .i16 0))) := ⟨_, rfl⟩
  have k1 : WideAt.IsKeyLit (.int .i16 (-1)) := law40.key (key40 (z := -1) (by omega))
  have k0 : WideAt.IsKeyLit (.int .i16 (K 0)) := law40.key (key40 (z := K 0) (by omega))
  refine ⟨⟨_, rfl⟩, fun k hk => ?_, Maps.atKey_put_same m1 k1 _ _, fun i hi hn => ?_⟩
  · by_cases e : k = -1
    · subst e
      rw [Maps.has_put_same m1 k1]; simp
    · rw [Maps.has_put_other (lit_ne e)]
      by_cases e2 : k = K 0
      · subst e2
        rw [Maps.has_put_same m0 k0]; simp
      · rw [Maps.has_put_other (lit_ne e2)]
        simp [e, Maps.has_eq]
        exact fun e => e2 e.symm
  · obtain rfl : i = 0 := by simp at hi; omega
    simp only [List.getD_cons_zero] at hn ⊢
    rw [Maps.atKey_put_other (lit_ne hn), Maps.atKey_put_same m0 k0]; rfl
theorem MN.more {D : DataW Unit} {met : List Nat} (h : MN K D met) {z : Nat} (hk : -1 ≤ K z ∧ K z ≤ 32767) (hn : K z ≠ -1) (hno : ∀ i, i < met.length → K (met.getD i 0) ≠ K z) : MN K (D.put (.int .i16 (K z)) (.lit (.int .i16 (met.length : Int)))) (met ++ [z]) := by
  have k0 : WideAt.IsKeyLit (.int .i16 (K z)) := law40.key (key40 (z := K z) (by omega))
  refine ⟨by obtain ⟨es, rfl⟩ := h.isMap; exact ⟨_, rfl⟩, fun k hk2 => ?_, ?_, fun i hi hn2 => ?_⟩
  · by_cases e : k = K z
    · subst e
      rw [Maps.has_put_same h.isMap k0]
      simp only [true_iff]
      exact Or.inr ⟨met.length, by simp, by rw [getD_last]⟩
    · rw [Maps.has_put_other (lit_ne e), h.has k hk2]
      constructor
      · rintro (g | ⟨i, hi, g⟩)
        · exact Or.inl g
        · exact Or.inr ⟨i, by simp; omega, by rw [getD_left hi]; exact g⟩
      · rintro (g | ⟨i, hi, g⟩)
        · exact Or.inl g
        · by_cases e2 : i < met.length
          · rw [getD_left e2] at g; exact Or.inr ⟨i, e2, g⟩
          · have : i = met.length := by simp at hi; omega
            subst this; rw [getD_last] at g; exact absurd g.symm e
  · rw [Maps.atKey_put_other (lit_ne (fun e => hn e.symm))]; exact h.neg
  · by_cases e2 : i < met.length
    · rw [getD_left e2] at hn2 ⊢
      rw [Maps.atKey_put_other (lit_ne (hno i e2))]; exact h.at_ i e2 hn2
    · have : i = met.length := by simp at hi; omega
      subst this
      rw [getD_last, Maps.atKey_put_same h.isMap k0]
/-- What is held beside the tags and the row that is written. -/
structure Oc (w : World) (rv tv : Value) (n : Nat) (R : Nat → Nat → Int) (K : Nat → Int) (gm gM kr q : Nat) (F : Nat → Nat → Int) (met : List Nat) (D : DataW Unit) (mV rV tV : Value) (W : World) : Prop where
  below : Below w.heap.size w W
  c0 : W.cell? ⟨w.heap.size, 0, none⟩ = some rv
  c1 : W.cell? ⟨w.heap.size, 1, none⟩ = some tv
  rs : W.rowIs (w.heap.size + 1) 25 2 (fun _ => .slice none 0 0)
  mp : W.ownsMap Try.prog 40 (plainElem Try.prog 40) gm (met.length + 1) D
  mi : MN K D met
  mb : W.rowIs gM 25 2 (fun i => if i = 0 then rV else tV)
  ro : W.ownsRow (w.heap.size + 2) 42 256 rV kr (rcl (fun j => j) F kr)
  me : W.ownsRow (w.heap.size + 2) 3 1 mV met.length (tl met.length (fun t => ((met.getD t 0 : Nat) : Int)))
  nm : ∀ g, mV.ownBlock = some g → g ≠ gm ∧ g ≠ gM ∧ rV.ownBlock ≠ some g
  nr : ∀ g, rV.ownBlock = some g → g ≠ gm ∧ g ≠ gM
  o1 : w.heap.size + 2 ≤ gm
  o2 : gm < gM
  mt : Mt n K met
  rows : ∀ r b, r < kr → b < 256 → Nm K met (R (met.getD r 0) b) (F r b)
  krl : kr ≤ met.length
  cnt : met.length = cn F q
  first : ∀ p, p < q → F (p / 256) (p % 256) ≤ (cn F p : Int)
  mets : ∀ i, i < kr → i < cn F (i * 256)
/-- The tags. -/
structure Ot (w : World) (T : Nat → Int) (gm gM kt : Nat) (met : List Nat) (mV rV tV : Value) (W : World) : Prop where
  to : W.ownsRow (w.heap.size + 2) 3 1 tV kt (tl kt (fun r => T (met.getD r 0)))
  nt : ∀ g, tV.ownBlock = some g → g ≠ gm ∧ g ≠ gM ∧ mV.ownBlock ≠ some g ∧ rV.ownBlock ≠ some g
/-- The row that is written. -/
structure Og (w : World) (gm gM gw j k : Nat) (F : Nat → Nat → Int) (mV rV tV : Value) (W : World) : Prop where
  rw : W.rowIs gw 42 256 (fun b => .int .i16 (if b < j then F k b else 0))
  nw : gw ≠ gm ∧ gw ≠ gM ∧ mV.ownBlock ≠ some gw ∧ rV.ownBlock ≠ some gw ∧ tV.ownBlock ≠ some gw ∧ w.heap.size + 2 ≤ gw
variable {w : World} {rv tv : Value} {gm gM gw kr kt q j k : Nat} {F : Nat → Nat → Int} {met : List Nat} {D : DataW Unit} {mV rV tV : Value} {W W' : World}
theorem Oc.frame (h : Oc w rv tv n R K gm gM kr q F met D mV rV tV W) (hB : Below w.heap.size w W') (x : Nat → Prop) (e : ∀ g, g < W.heap.size → ¬ x g → W'.heap[g]? = W.heap[g]?)
    (x0 : ¬ x w.heap.size) (x1 : ¬ x (w.heap.size + 1)) (x2 : ¬ x gm) (x3 : ¬ x gM) (x4 : ∀ g, rV.ownBlock = some g → ¬ x g) (x5 : ∀ g, mV.ownBlock = some g → ¬ x g) : Oc w rv tv n R K gm gM kr q F met D mV rV tV W' := by
  have h1 := h.rs.lt
  have h2 := h.mb.lt
  have h3 := h.o2
  exact ⟨hB, (cell_same (e _ (by omega) x0) 0).trans h.c0, (cell_same (e _ (by omega) x0) 1).trans h.c1, h.rs.of_block (e _ h1 x1), map_same40 h.mp (e _ (by omega) x2), h.mi, h.mb.of_block (e _ h2 x3), own_same h.ro fun g hg => e g (h.ro.lt g hg).2 (x4 g hg), own_same h.me fun g hg => e g (h.me.lt g hg).2 (x5 g hg), h.nm, h.nr, h.o1, h.o2, h.mt, h.rows, h.krl, h.cnt, h.first, h.mets⟩
theorem Oc.next (h : Oc w rv tv n R K gm gM kr q F met D mV rV tV W) (hb : Below W.heap.size W W') : Oc w rv tv n R K gm gM kr q F met D mV rV tV W' :=
  h.frame (h.below.trans (hb.mono h.below.size)) (fun _ => False) (fun g hg _ => hb.block g hg) id id id id (fun _ _ => id) (fun _ _ => id)
theorem Ot.frame (h : Ot w T gm gM kt met mV rV tV W) (x : Nat → Prop) (e : ∀ g, g < W.heap.size → ¬ x g → W'.heap[g]? = W.heap[g]?) (x0 : ∀ g, tV.ownBlock = some g → ¬ x g) : Ot w T gm gM kt met mV rV tV W' :=
  ⟨own_same h.to fun g hg => e g (h.to.lt g hg).2 (x0 g hg), h.nt⟩
theorem Ot.next (h : Ot w T gm gM kt met mV rV tV W) (hb : Below W.heap.size W W') : Ot w T gm gM kt met mV rV tV W' := h.frame (fun _ => False) (fun g hg _ => hb.block g hg) (fun _ _ => id)
theorem Og.frame (h : Og w gm gM gw j k F mV rV tV W) (x : Nat → Prop) (e : ∀ g, g < W.heap.size → ¬ x g → W'.heap[g]? = W.heap[g]?) (x0 : ¬ x gw) : Og w gm gM gw j k F mV rV tV W' := ⟨h.rw.of_block (e _ h.rw.lt x0), h.nw⟩
theorem Og.next (h : Og w gm gM gw j k F mV rV tV W) (hb : Below W.heap.size W W') : Og w gm gM gw j k F mV rV tV W' := h.frame (fun _ => False) (fun g hg _ => hb.block g hg) id
theorem rcl_congr {F G : Nat → Nat → Int} {k : Nat} (h : ∀ r b, r < k → b < 256 → F r b = G r b) : rcl (fun j => j) F k = rcl (fun j => j) G k := by
  unfold rcl
  apply List.map_congr_left
  intro x hx
  have hx' : x < k * 256 := by simpa using hx
  rw [h (x / 256) (x % 256) (by omega) (by omega)]
/-- One number more in the row. -/
def put1 (F : Nat → Nat → Int) (k j : Nat) (c : Int) : Nat → Nat → Int := fun r b => if r = k ∧ b = j then c else F r b
theorem put1_same (F : Nat → Nat → Int) (k j : Nat) (c : Int) : put1 F k j c k j = c := by simp [put1]
theorem put1_other {F : Nat → Nat → Int} {k j : Nat} {c : Int} {r b : Nat} (h : ¬ (r = k ∧ b = j)) : put1 F k j c r b = F r b := by simp [put1, h]
theorem put1_at (F : Nat → Nat → Int) (k j : Nat) (c : Int) (hj : j < 256) : put1 F k j c ((k * 256 + j) / 256) ((k * 256 + j) % 256) = c := by
  rw [show (k * 256 + j) / 256 = k by omega, show (k * 256 + j) % 256 = j by omega, put1_same]
theorem put1_before {F : Nat → Nat → Int} {k j : Nat} {c : Int} {p : Nat} (hp : p < k * 256 + j) : put1 F k j c (p / 256) (p % 256) = F (p / 256) (p % 256) := put1_other (fun h => by omega)
theorem cn_put1 {F : Nat → Nat → Int} {k j : Nat} {c : Int} {p : Nat} (hp : p ≤ k * 256 + j) : cn (put1 F k j c) p = cn F p := cn_congr p fun q hq => put1_before (by omega)
theorem og_put {c : Int} (hj : j < 256) (h : W.rowIs gw 42 256 (fun b => .int .i16 (if b < j then F k b else 0))) : (W.setCell ⟨gw, j, none⟩ (.int .i16 c)).rowIs gw 42 256 (fun b => .int .i16 (if b < j + 1 then put1 F k j c k b else 0)) :=
  (h.set j (.int .i16 c)).congr fun b hb => by
    by_cases e : b = j
    · subst e; simp [put1_same]
    · rw [put1_other (fun h => e h.2)]
      by_cases e2 : b < j
      · simp [e, e2, show b < j + 1 by omega]
      · simp [e, e2, show ¬ b < j + 1 by omega]
/-- The kind was there. -/
theorem Oc.known {c : Int} (h : Oc w rv tv n R K gm gM k (k * 256 + j) F met D mV rV tV W) (g : Og w gm gM gw j k F mV rV tV W) (t : Ot w T gm gM k met mV rV tV W) (hj : j < 256) (hc : c < (met.length : Int)) :
    Oc w rv tv n R K gm gM k (k * 256 + (j + 1)) (put1 F k j c) met D mV rV tV (W.setCell ⟨gw, j, none⟩ (.int .i16 c)) ∧ Og w gm gM gw (j + 1) k (put1 F k j c) mV rV tV (W.setCell ⟨gw, j, none⟩ (.int .i16 c)) ∧ Ot w T gm gM k met mV rV tV (W.setCell ⟨gw, j, none⟩ (.int .i16 c)) := by
  obtain ⟨n1, n2, n3, n4, n5, n6⟩ := g.nw
  have e : ∀ a, a < W.heap.size → ¬ a = gw → (W.setCell ⟨gw, j, none⟩ (.int .i16 c)).heap[a]? = W.heap[a]? := fun a _ ha => Below.heap_setCell _ _ _ _ ha
  have o1 := h.o1
  have h2 := h.frame (W' := W.setCell ⟨gw, j, none⟩ (.int .i16 c)) (h.below.setCell (by simp; omega) _) (fun a => a = gw) e (by omega) (by omega) (fun x => n1 x.symm) (fun x => n2 x.symm) (fun a ha x => by subst x; exact n4 ha) (fun a ha x => by subst x; exact n3 ha)
  refine ⟨⟨h2.below, h2.c0, h2.c1, h2.rs, h2.mp, h2.mi, h2.mb, ?_, h2.me, h2.nm, h2.nr, h2.o1, h2.o2, h2.mt, fun r b hr hb => ?_, h2.krl, ?_, fun p hp => ?_, fun i hi => ?_⟩, ⟨og_put hj g.rw, g.nw⟩, t.frame (fun a => a = gw) e (fun a ha x => by subst x; exact n5 ha)⟩
  · rw [rcl_congr (G := F) (fun r b hr hb => put1_other (fun x => by omega))]; exact h2.ro
  · rw [put1_other (fun x => by omega)]; exact h.rows r b hr hb
  · rw [← Nat.add_assoc, cn, put1_at _ _ _ _ hj, cn_put1 (Nat.le_refl _), ← h.cnt, if_neg (by omega)]
  · by_cases e2 : p = k * 256 + j
    · subst e2
      rw [put1_at _ _ _ _ hj, cn_put1 (Nat.le_refl _), ← h.cnt]; omega
    · rw [put1_before (by omega), cn_put1 (by omega)]; exact h.first p (by omega)
  · rw [cn_put1 (by omega)]; exact h.mets i hi
/-- One kind more. -/
theorem Oc.news {z gr cr : Nat} {D' : DataW Unit} (h : Oc w rv tv n R K gm gM k (k * 256 + j) F met D mV rV tV W) (g : Og w gm gM gw j k F mV rV tV W) (t : Ot w T gm gM k met mV rV tV W) (hj : j < 256) (hz : z < n) (hk : K z ≠ -1) (hno : ∀ i, i < met.length → K (met.getD i 0) ≠ K z)
    (hB : Below w.heap.size w W') (e : ∀ a, a < W.heap.size → a ≠ gm → mV.ownBlock ≠ some a → W'.heap[a]? = W.heap[a]?) (hm : W'.ownsMap Try.prog 40 (plainElem Try.prog 40) gm (met.length + 1 + 1) D') (hi : MN K D' (met ++ [z]))
    (ho : W'.ownsRow (w.heap.size + 2) 3 1 (.slice (some ⟨gr, 0, none⟩) (met.length + 1) cr) (met.length + 1) (tl met.length (fun t => ((met.getD t 0 : Nat) : Int)) ++ [.int .i64 (z : Int)])) (hgr : mV.ownBlock = some gr ∨ W.heap.size ≤ gr) :
    Oc w rv tv n R K gm gM k (k * 256 + (j + 1)) (put1 F k j (met.length : Int)) (met ++ [z]) D' (.slice (some ⟨gr, 0, none⟩) (met.length + 1) cr) rV tV (W'.setCell ⟨gw, j, none⟩ (.int .i16 (met.length : Int))) ∧ Og w gm gM gw (j + 1) k (put1 F k j (met.length : Int)) (.slice (some ⟨gr, 0, none⟩) (met.length + 1) cr) rV tV (W'.setCell ⟨gw, j, none⟩ (.int .i16 (met.length : Int))) ∧ Ot w T gm gM k (met ++ [z]) (.slice (some ⟨gr, 0, none⟩) (met.length + 1) cr) rV tV (W'.setCell ⟨gw, j, none⟩ (.int .i16 (met.length : Int))) ∧ W'.rowIs gw 42 256 (fun b => .int .i16 (if b < j then F k b else 0)) := by
  obtain ⟨n1, n2, n3, n4, n5, n6⟩ := g.nw
  have o1 := h.o1
  have o2 := h.o2
  have l1 := h.rs.lt
  have l2 := h.mb.lt
  have l3 := g.rw.lt
  have mo : ∀ a, mV.ownBlock = some a → w.heap.size + 2 ≤ a := fun a ha => (h.me.lt a ha).1
  have hgw : gr ≠ gw := fun x => by
    rcases hgr with y | y
    · subst x; exact n3 y
    · omega
  have hgM : gr ≠ gM ∧ gr ≠ gm := by
    rcases hgr with y | y
    · exact ⟨(h.nm gr y).2.1, (h.nm gr y).1⟩
    · exact ⟨by omega, by omega⟩
  have hrV : rV.ownBlock ≠ some gr := by
    rcases hgr with y | y
    · exact (h.nm gr y).2.2
    · exact fun x => by have := (h.ro.lt gr x).2; omega
  have htV : tV.ownBlock ≠ some gr := by
    rcases hgr with y | y
    · exact fun x => (t.nt gr x).2.2.1 y
    · exact fun x => by have := (t.to.lt gr x).2; omega
  have e2 : ∀ a, a ≠ gw → (W'.setCell ⟨gw, j, none⟩ (.int .i16 (met.length : Int))).heap[a]? = W'.heap[a]? := fun a ha => Below.heap_setCell _ _ _ _ ha
  have e3 : ∀ a, a < W.heap.size → a ≠ gm → mV.ownBlock ≠ some a → a ≠ gw → (W'.setCell ⟨gw, j, none⟩ (.int .i16 (met.length : Int))).heap[a]? = W.heap[a]? := fun a ha h1 h2 h3 => (e2 a h3).trans (e a ha h1 h2)
  have b0 : (W'.setCell ⟨gw, j, none⟩ (.int .i16 (met.length : Int))).heap[w.heap.size]? = W.heap[w.heap.size]? := e3 _ (by omega) (by omega) (fun x => by have := mo _ x; omega) (by omega)
  have hrw : W'.rowIs gw 42 256 (fun b => .int .i16 (if b < j then F k b else 0)) := g.rw.of_block (e gw l3 n1 n3)
  refine ⟨⟨hB.setCell (by simp; omega) _, (cell_same b0 0).trans h.c0, (cell_same b0 1).trans h.c1, h.rs.of_block (e3 _ l1 (by omega) (fun x => by have := mo _ x; omega) (by omega)), ?_, hi, h.mb.of_block (e3 _ l2 (by omega) (fun x => (h.nm _ x).2.1 rfl) (fun x => n2 x.symm)), ?_, ?_, fun a ha => ?_, h.nr, h.o1, h.o2, h.mt.more hz hk hno, fun r b hr hb => ?_, by simp; have := h.krl; omega, ?_, fun p hp => ?_, fun i hi => ?_⟩, ⟨og_put hj hrw, n1, n2, fun x => by simp [Value.ownBlock] at x; exact hgw x, n4, n5, n6⟩, ⟨?_, fun a ha => ⟨(t.nt a ha).1, (t.nt a ha).2.1, fun x => by simp [Value.ownBlock] at x; subst x; exact htV ha, (t.nt a ha).2.2.2⟩⟩, hrw⟩
  · rw [List.length_append]; exact map_same40 hm (e2 _ (fun x => n1 x.symm))
  · rw [rcl_congr (G := F) (fun r b hr hb => put1_other (fun x => by omega))]
    exact own_same h.ro fun a ha => e3 a (h.ro.lt a ha).2 (h.nr a ha).1 (fun x => (h.nm a x).2.2 ha) (fun x => by subst x; exact n4 ha)
  · rw [List.length_append, List.length_singleton, tl_succ, getD_last, tl_congr met.length _ (fun t => ((met.getD t 0 : Nat) : Int)) (fun u hu => by rw [getD_left hu])]
    exact own_same ho fun a ha => e2 a (by simp [Value.ownBlock] at ha; omega)
  · simp [Value.ownBlock] at ha
    subst ha
    exact ⟨hgM.2, hgM.1, hrV⟩
  · rw [put1_other (fun x => by omega), getD_left (by have := h.krl; omega)]
    exact (h.rows r b hr hb).more z
  · rw [← Nat.add_assoc, cn, put1_at _ _ _ _ hj, cn_put1 (Nat.le_refl _), ← h.cnt, if_pos rfl, List.length_append]; rfl
  · by_cases e5 : p = k * 256 + j
    · subst e5
      rw [put1_at _ _ _ _ hj, cn_put1 (Nat.le_refl _), ← h.cnt]; omega
    · rw [put1_before (by omega), cn_put1 (by omega)]; exact h.first p (by omega)
  · rw [cn_put1 (by omega)]; exact h.mets i hi
  · rw [tl_congr k _ (fun r => T (met.getD r 0)) (fun u hu => by rw [getD_left (by have := h.krl; omega)])]
    exact own_same t.to fun a ha => e3 a (t.to.lt a ha).2 (t.nt a ha).1 (t.nt a ha).2.2.1 (fun x => by subst x; exact n5 ha)
end Go.Proofs.Ytlgcggfenljdnaa
