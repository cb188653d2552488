/-
  What small.refined holds in memory: rows as keys of a map, numbered as they are first met. No function is walked here.
-/
import Derived.Test.YtlgcggfenljdnaaMnRowOf
namespace Go.Proofs.Ytlgcggfenljdnaa
open Go.RowKit
open Go.Maps
open Dfa

variable {R : Nat → Nat → Int} {T K : Nat → Int}
theorem rwk_range {n : Nat} (hok : rowsOk n R = true) (htg : tagsOk n T = true) (hK : ∀ s, s < n → -1 ≤ K s ∧ K s < (n : Int)) (hn : n ≤ 200) {s : Nat} (hs : s < n) (j : Nat) (_ : j < 257) : -32768 ≤ rwk R T K s j ∧ rwk R T K s j ≤ 32767 := by
  unfold rwk
  split
  · rename_i hj
    have h1 := row_at hok hs hj
    unfold kof
    split
    · omega
    · have := hK (R s j).toNat (by have := h1.2; omega); omega
  · have := all_at htg s hs
    simp [tagOk] at this
    omega
theorem req_rows {s t : Nat} : req R T K s t = true ↔ ∀ j, j < 257 → rwk R T K s j = rwk R T K t j := by
  simp [req]
theorem ded_rows {s : Nat} : ded R T K s = true ↔ ∀ j, j < 257 → rwk R T K s j = -1 := by
  simp [ded]
theorem key_same {f g : Nat → Int} {kl : Lit} (h : keyOf Try.prog 101 (.agg (xl f).toArray) = some kl) (e : ∀ j, j < 257 → f j = g j) : keyOf Try.prog 101 (.agg (xl g).toArray) = some kl := by rw [← xl_congr e]; exact h
/-- The map tells the numbers of the rows. -/
structure MK (R : Nat → Nat → Int) (T K : Nat → Int) (D : DataW Unit) (fs : List Nat) : Prop where
  isMap : IsMap D
  size : Maps.size D = fs.length + 1
  has : ∀ y kl, keyOf Try.prog 101 (.agg (xl (rwk R T K y)).toArray) = some kl → (Maps.has D kl = true ↔ ded R T K y = true ∨ rix R T K fs y < fs.length)
  neg : ∀ y kl, keyOf Try.prog 101 (.agg (xl (rwk R T K y)).toArray) = some kl → ded R T K y = true → D.atKey kl (.lit (.int .i16 0)) = .lit (.int .i16 (-1))
  at_ : ∀ y kl, keyOf Try.prog 101 (.agg (xl (rwk R T K y)).toArray) = some kl → ded R T K y = false → rix R T K fs y < fs.length → D.atKey kl (.lit (.int .i16 0)) = .lit (.int .i16 (rix R T K fs y : Int))
theorem MK.start {kn : Lit} (hk : keyOf Try.prog 101 (.agg (xl fun _ => -1).toArray) = some kn) (ht : Tidy (DataW.map (H := Unit) [])) : MK R T K (DataW.put (.map []) kn (.lit (.int .i16 (-1)))) [] := by
  have hm : IsMap (DataW.map (H := Unit) []) := ⟨[], rfl⟩
  have key : ∀ y ky, keyOf Try.prog 101 (.agg (xl (rwk R T K y)).toArray) = some ky → (ky = kn ↔ ded R T K y = true) := fun y ky hy => by
    constructor
    · intro e; subst e; exact ded_rows.2 (key101_inj hy hk)
    · intro e
      have := key_same hy (ded_rows.1 e)
      rw [hk] at this
      exact (Option.some.inj this).symm
  refine ⟨⟨_, rfl⟩, ?_, fun y ky hy => ?_, fun y ky hy hd => ?_, fun y ky hy hd h => by simp at h⟩
  · rw [Maps.size_put ht]; simp [Maps.has_eq]; rfl
  · by_cases e : ky = kn
    · have hd := (key y ky hy).1 e
      subst e
      rw [Maps.has_put_same hm (law101.key hk)]; simp [hd]
    · have hd : ded R T K y = false := by
        cases e2 : ded R T K y with
        | false => rfl
        | true => exact absurd ((key y ky hy).2 e2) e
      rw [Maps.has_put_other e]; simp [hd, Maps.has_eq]
  · have e := (key y ky hy).2 hd
    subst e
    rw [Maps.atKey_put_same hm (law101.key hk)]
theorem rix_snoc {fs : List Nat} {b y : Nat} : rix R T K (fs ++ [b]) y = if rix R T K fs y < fs.length then rix R T K fs y else if req R T K b y then fs.length else fs.length + 1 := by
  unfold rix
  rw [List.findIdx_append]
  split
  · rfl
  · rw [List.findIdx_cons]
    cases req R T K b y <;> simp <;> omega
theorem MK.put {D : DataW Unit} {fs : List Nat} (h : MK R T K D fs) (ht : Tidy D) {b : Nat} {kl : Lit} (hk : keyOf Try.prog 101 (.agg (xl (rwk R T K b)).toArray) = some kl) (hd : ded R T K b = false) (hno : ¬ rix R T K fs b < fs.length) : MK R T K (D.put kl (.lit (.int .i16 (fs.length : Int)))) (fs ++ [b]) := by
  have hnh : Maps.has D kl = false := by
    cases e : Maps.has D kl with
    | false => rfl
    | true =>
      rcases (h.has b kl hk).1 e with g | g
      · rw [hd] at g; cases g
      · exact absurd g hno
  have key : ∀ y ky, keyOf Try.prog 101 (.agg (xl (rwk R T K y)).toArray) = some ky → (ky = kl ↔ req R T K b y = true) := fun y ky hy => by
    constructor
    · intro e; subst e; exact req_rows.2 (key101_inj hk hy)
    · intro e
      have := key_same hk (req_rows.1 e)
      rw [hy] at this
      exact Option.some.inj this
  have hdy : ∀ y, req R T K b y = true → ded R T K y = false := fun y e => by
    cases e2 : ded R T K y with
    | false => rfl
    | true => rw [ded_of (req_symm e) e2] at hd; cases hd
  refine ⟨?_, ?_, fun y ky hy => ?_, fun y ky hy hy2 => ?_, fun y ky hy hy2 hlt => ?_⟩
  · obtain ⟨es, rfl⟩ := h.isMap
    exact ⟨_, rfl⟩
  · rw [Maps.size_put ht, hnh, h.size]; simp
  · by_cases e : ky = kl
    · have heq := (key y ky hy).1 e
      subst e
      rw [Maps.has_put_same h.isMap (law101.key hk), rix_snoc, ← rix_same heq, if_neg hno, heq]
      simp
    · have hne : req R T K b y = false := by
        cases e2 : req R T K b y with
        | false => rfl
        | true => exact absurd ((key y ky hy).2 e2) e
      rw [Maps.has_put_other e, h.has y ky hy, rix_snoc, hne]
      by_cases hl : rix R T K fs y < fs.length
      · simp [hl]; omega
      · simp [hl]
  · have e : ky ≠ kl := fun e => by have := hdy y ((key y ky hy).1 e); rw [hy2] at this; cases this
    rw [Maps.atKey_put_other e, h.neg y ky hy hy2]
  · by_cases e : ky = kl
    · have heq := (key y ky hy).1 e
      subst e
      rw [Maps.atKey_put_same h.isMap (law101.key hk), rix_snoc, ← rix_same heq, if_neg hno, heq]
      simp
    · have hne : req R T K b y = false := by
        cases e2 : req R T K b y with
        | false => rfl
        | true => exact absurd ((key y ky hy).2 e2) e
      rw [rix_snoc, hne] at hlt
      by_cases hl : rix R T K fs y < fs.length
      · rw [Maps.atKey_put_other e, h.at_ y ky hy hy2 hl, rix_snoc, if_pos hl]
      · simp [hl] at hlt
theorem wpList_insert_own {H : Type} {P : Program} (w : World) {ops : Array Oper} {rest : List Oper} {o : Oper} {a : Act} {Q : Exit → Act → World → Prop}
    (hg : o.guard = none) (m x v : Operand) (t : TypeId) (hop : o.op = Op.insert t m x v)
    (k e : TypeId) (K : Keyed P k) (ht : P.underlying t = some (.map k e)) (R : Value → Option (DataW H × List MemPlace)) (b n : Nat) (D : DataW H)
    (hm : a.eval m = .map (some b)) (hown : w.ownsMap P k R b n D) (hn : n < maxLen) (key val : Value) (kl : Lit) (hx : a.eval x = key) (hv : a.eval v = val) (hkey : keyOf P k key = some kl)
    (d : DataW H) (ps : List MemPlace) (hval : R val = some (d, ps))
    (hK : ∀ w', w'.ownsMap P k R b (n + 1) (D.put kl d) → w.grownBy w' (some b) → wpList P ops Q rest (a.put o.dst undef) w') :
    wpList P ops Q (o :: rest) a w := by
  refine wpList_plain hg fun K' hK' => ?_
  obtain ⟨w', hrun, r1, r2⟩ := hown.update K ht hn hkey hval
  unfold Oper.wp
  simp [execOp, hop, hm, hx, hv, hrun, Result.andThen]
  exact hK' _ _ (hK w' r1 r2)
theorem wpList_store_new101 {ops : Array Oper} {rest : List Oper} {op : Oper} {a : Act} {w : World} {Q : Exit → Act → World → Prop} (hgd : op.guard = none) (x y : Operand) (ho : op.op = .store 101 x y)
    (c c' : Array Value) (hx : a.eval x = .pointer (some ⟨w.heap.size, 0, none⟩)) (hy : a.eval y = .agg c') (hc : c.size = 257) (hc' : c'.size = 257) (h1 : c'.all (·.oneCell') = true)
    (h : wpList Try.prog ops Q rest (a.put op.dst undef) (w.alloc (.cells c' 101))) : wpList Try.prog ops Q (op :: rest) a (w.alloc (.cells c 101)) :=
  wpList_plain hgd fun K hK => by
    unfold Oper.wp execOp
    simp only [ho, hx, hy, Sem.run_bind, run_storeAt_new w 101 c c' (by rw [hc']; exact size101) (by omega) h1, Result.andThen_ok]
    exact hK _ _ h
theorem zero40 (w : World) : (zeroValue 40).run Try.prog w = .ok (.int .i16 0) w := (zero_of_info (P := Try.prog) (t := 40) (v := .int .i16 0) (n := 1) (by kernel_rfl)).1 w
/-- What small.refined holds ahead of state s. -/
structure Rf (w : World) (rv tv : Value) (n : Nat) (R : Nat → Nat → Int) (T K : Nat → Int) (gm gf s : Nat) (D : DataW Unit) (W : World) : Prop where
  below : Below w.heap.size w W
  c0 : W.cell? ⟨w.heap.size, 0, none⟩ = some rv
  c1 : W.cell? ⟨w.heap.size, 1, none⟩ = some tv
  mp : W.ownsMap Try.prog 101 (plainElem Try.prog 40) gm ((frs R T K s).length + 1) D
  mi : MK R T K D (frs R T K s)
  fr : W.rowIs gf 40 n (fun j => .int .i16 (if j < s then ref R T K j else 0))
  l1 : w.heap.size < gm
  l2 : gm < gf
theorem map_same40 {W W' : World} {gm k : Nat} {D : DataW Unit} {q : TypeId} (h : W.ownsMap Try.prog q (plainElem Try.prog 40) gm k D) (e : W'.heap[gm]? = W.heap[gm]?) : W'.ownsMap Try.prog q (plainElem Try.prog 40) gm k D := by
  unfold World.ownsMap at *
  rw [e]; exact h
variable {w : World} {rv tv : Value} {n gm gf s : Nat} {D : DataW Unit} {W W' : World}
theorem Rf.next (h : Rf w rv tv n R T K gm gf s D W) (hb : Below W.heap.size W W') : Rf w rv tv n R T K gm gf s D W' := by
  have h0 := h.fr.lt
  have h1 := h.l1
  have h2 := h.l2
  exact ⟨h.below.trans (hb.mono h.below.size), (hb.cell (p := ⟨w.heap.size, 0, none⟩) (by simp; omega)).trans h.c0, (hb.cell (p := ⟨w.heap.size, 1, none⟩) (by simp; omega)).trans h.c1, map_same40 h.mp (hb.block _ (by omega)), h.mi, h.fr.of_block (hb.block _ h0), h.l1, h.l2⟩
/-- The kind of state s is written: its row was there. -/
theorem Rf.known {c : Int} (h : Rf w rv tv n R T K gm gf s D W) (e : frs R T K (s + 1) = frs R T K s) (hc : c = ref R T K s) : Rf w rv tv n R T K gm gf (s + 1) D (W.setCell ⟨gf, s, none⟩ (.int .i16 c)) := by
  have h1 := h.l1
  have h2 := h.l2
  refine ⟨h.below.setCell (by simp; omega) _, (cell_set_other (by simp; omega)).trans h.c0, (cell_set_other (by simp; omega)).trans h.c1, ?_, by rw [e]; exact h.mi, (h.fr.set s _).congr fun j hj => ?_, h1, h2⟩
  · rw [e]; exact map_same40 h.mp (Below.heap_setCell _ _ _ _ (by simp; omega))
  · by_cases e2 : j = s
    · subst e2; simp [hc]
    · by_cases e3 : j < s
      · simp [e2, e3, show j < s + 1 by omega]
      · simp [e2, e3, show ¬ j < s + 1 by omega]
/-- One row more is in the map. -/
theorem Rf.mapped (h : Rf w rv tv n R T K gm gf s D W) (hg : W.grownBy W' (some gm)) : Below w.heap.size w W' ∧ W'.cell? ⟨w.heap.size, 0, none⟩ = some rv ∧ W'.cell? ⟨w.heap.size, 1, none⟩ = some tv ∧ W'.rowIs gf 40 n (fun j => .int .i16 (if j < s then ref R T K j else 0)) := by
  have h0 := h.fr.lt
  have h1 := h.l1
  have h2 := h.l2
  have e : ∀ k, k < W.heap.size → k ≠ gm → W'.heap[k]? = W.heap[k]? := fun k hk hk2 => hg.block k hk (fun x => hk2 (Option.some.inj x))
  exact ⟨h.below.grown hg h.below.size (fun k hk => by simp at hk; omega), (cell_same (e _ (by omega) (by omega)) 0).trans h.c0, (cell_same (e _ (by omega) (by omega)) 1).trans h.c1, h.fr.of_block (e _ h0 (by omega))⟩
theorem Rf.news {kl : Lit} (h : Rf w rv tv n R T K gm gf s D W) (hd : ded R T K s = false) (hno : ¬ rix R T K (frs R T K s) s < (frs R T K s).length) (hk : keyOf Try.prog 101 (.agg (xl (rwk R T K s)).toArray) = some kl) (hg : W.grownBy W' (some gm))
    (hm : W'.ownsMap Try.prog 101 (plainElem Try.prog 40) gm ((frs R T K s).length + 1 + 1) (D.put kl (.lit (.int .i16 ((frs R T K s).length : Int))))) : Rf w rv tv n R T K gm gf (s + 1) (D.put kl (.lit (.int .i16 ((frs R T K s).length : Int)))) (W'.setCell ⟨gf, s, none⟩ (.int .i16 ((frs R T K s).length : Int))) := by
  have h1 := h.l1
  have h2 := h.l2
  have hle := rix_le (R := R) (T := T) (K := K) (frs R T K s) s
  have hrx : rix R T K (frs R T K s) s = (frs R T K s).length := by omega
  have e : frs R T K (s + 1) = frs R T K s ++ [s] := by rw [frs, if_neg (by simp [hd]), if_pos hrx]
  obtain ⟨g1, g2, g3, g4⟩ := h.mapped hg
  refine ⟨g1.setCell (by simp; omega) _, (cell_set_other (by simp; omega)).trans g2, (cell_set_other (by simp; omega)).trans g3, ?_, ?_, (g4.set s _).congr fun j hj => ?_, h1, h2⟩
  · rw [e, List.length_append]; exact map_same40 hm (Below.heap_setCell _ _ _ _ (by simp; omega))
  · rw [e]; exact h.mi.put (h.mp.tidy law101) hk hd hno
  · by_cases e2 : j = s
    · subst e2
      have : ref R T K j = ((frs R T K j).length : Int) := by unfold ref; rw [if_neg (by simp [hd]), hrx]
      simp [this]
    · by_cases e3 : j < s
      · simp [e2, e3, show j < s + 1 by omega]
      · simp [e2, e3, show ¬ j < s + 1 by omega]
end Go.Proofs.Ytlgcggfenljdnaa
