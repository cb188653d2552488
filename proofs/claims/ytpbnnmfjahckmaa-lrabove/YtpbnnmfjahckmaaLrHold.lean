/-
  What lr.Make has in memory: boxes, the states and rows that All answered, the acts and the rows laid so far, the fights told so far. No function is walked here.
-/
import Derived.Test.YtpbnnmfjahckmaaMlMay
import Derived.Test.YtpbnnmfjahckmaaMlClone
namespace Go.Proofs.Ytpbnnmfjahckmaa
open Go.RowKit
open Cg

theorem info106 : (Try.prog.info? 106).map (fun i => (i.zero, i.size, i.bytes)) = some (some (.agg #[.int .i64 0, .int .i64 0, .int .i64 0, .int .i64 0, .int .i64 0, .int .i64 0]), 6, 48) := by kernel_rfl
abbrev Ft := Int × Int × Sy × Sy
def fcl : List Ft → List Value
  | [] => []
  | x :: l => .int .i64 x.1 :: .int .i64 x.2.1 :: .int .i64 x.2.2.1.1 :: .int .i64 x.2.2.1.2 :: .int .i64 x.2.2.2.1 :: .int .i64 x.2.2.2.2 :: fcl l
theorem fcl_app (l m : List Ft) : fcl (l ++ m) = fcl l ++ fcl m := by
  induction l with
  | nil => rfl
  | cons c l ih => simp [fcl, ih]
namespace Cg
/-- The acts that there may be in a state at a column. -/
def cd (T : Nat) (ps : List Pd) (ss : List (List It)) (nx : List (List Int)) (k c : Nat) : List Sy := cnd T ps (nx.getD k []) (ss.getD k []) c
def cdH (T : Nat) (ps : List Pd) (ss : List (List It)) (nx : List (List Int)) (k c : Nat) : Sy := (cd T ps ss nx k c).headD (0, 0)
def ftC (T : Nat) (ps : List Pd) (ss : List (List It)) (nx : List (List Int)) (k c : Nat) : List Ft := (cd T ps ss nx k c).tail.map fun b => ((k : Int), (c : Int), cdH T ps ss nx k c, b)
def ftR (T : Nat) (ps : List Pd) (ss : List (List It)) (nx : List (List Int)) (k : Nat) : Nat → List Ft
  | 0 => []
  | c + 1 => ftR T ps ss nx k c ++ ftC T ps ss nx k c
def ftN (T : Nat) (ps : List Pd) (ss : List (List It)) (nx : List (List Int)) : Nat → List Ft
  | 0 => []
  | k + 1 => ftN T ps ss nx k ++ ftR T ps ss nx k (T + 1)
def ftF (T : Nat) (ps : List Pd) (ss : List (List It)) (nx : List (List Int)) (k c j : Nat) : List Ft := ftN T ps ss nx k ++ ftR T ps ss nx k c ++ (ftC T ps ss nx k c).take j
theorem cd_le {T : Nat} {ps : List Pd} {ss : List (List It)} {nx : List (List Int)} (h : ∀ s ∈ ss, s.length ≤ 11439) (k c : Nat) : (cd T ps ss nx k c).length ≤ 11440 := by
  unfold cd cnd
  have h1 : (shA T (nx.getD k []) c).length ≤ 1 := by unfold shA; split <;> simp
  have h2 := rdL_le ps (ss.getD k []) c
  have h3 : (ss.getD k []).length ≤ 11439 := by
    rw [List.getD_eq_getElem?_getD]
    rcases Nat.lt_or_ge k ss.length with h' | h'
    · rw [List.getElem?_eq_getElem h']; exact h _ (List.getElem_mem h')
    · rw [List.getElem?_eq_none h']; simp
  rw [List.length_append]; omega
theorem ftC_le {T : Nat} {ps : List Pd} {ss : List (List It)} {nx : List (List Int)} (h : ∀ s ∈ ss, s.length ≤ 11439) (k c : Nat) : (ftC T ps ss nx k c).length ≤ 11440 := by
  have := cd_le (T := T) (ps := ps) (nx := nx) h k c
  unfold ftC; rw [List.length_map, List.length_tail]; omega
theorem ftR_le {T : Nat} {ps : List Pd} {ss : List (List It)} {nx : List (List Int)} (h : ∀ s ∈ ss, s.length ≤ 11439) (k : Nat) : ∀ c, (ftR T ps ss nx k c).length ≤ c * 11440
  | 0 => by simp [ftR]
  | c + 1 => by
    have h1 := ftR_le (T := T) (ps := ps) (nx := nx) h k c
    have h2 := ftC_le (T := T) (ps := ps) (nx := nx) h k c
    rw [ftR, List.length_append]; omega
theorem ftN_le {T : Nat} {ps : List Pd} {ss : List (List It)} {nx : List (List Int)} (hT : T ≤ 30) (h : ∀ s ∈ ss, s.length ≤ 11439) : ∀ k, (ftN T ps ss nx k).length ≤ k * 400000
  | 0 => by simp [ftN]
  | k + 1 => by
    have h1 := ftN_le (T := T) (ps := ps) (nx := nx) hT h k
    have h2 := ftR_le (T := T) (ps := ps) (nx := nx) h k (T + 1)
    rw [ftN, List.length_append]
    have : (T + 1) * 11440 ≤ 31 * 11440 := Nat.mul_le_mul_right _ (by omega)
    omega
theorem ftF_le {T : Nat} {ps : List Pd} {ss : List (List It)} {nx : List (List Int)} (hT : T ≤ 30) (h : ∀ s ∈ ss, s.length ≤ 11439) {k c : Nat} (hk : k ≤ 200) (hc : c ≤ 31) (j : Nat) : (ftF T ps ss nx k c j).length ≤ 100000000 := by
  have h1 := ftN_le (T := T) (ps := ps) (nx := nx) hT h k
  have h2 := ftR_le (T := T) (ps := ps) (nx := nx) h k c
  have h3 := ftC_le (T := T) (ps := ps) (nx := nx) h k c
  unfold ftF
  rw [List.length_append, List.length_append, List.length_take]
  have : c * 11440 ≤ 31 * 11440 := Nat.mul_le_mul_right _ hc
  have : k * 400000 ≤ 200 * 400000 := Nat.mul_le_mul_right _ hk
  omega
theorem ftF_zero (T : Nat) (ps : List Pd) (ss : List (List It)) (nx : List (List Int)) (k c : Nat) : ftF T ps ss nx k c 0 = ftN T ps ss nx k ++ ftR T ps ss nx k c := by unfold ftF; rw [List.take_zero, List.append_nil]
theorem ftF_next (T : Nat) (ps : List Pd) (ss : List (List It)) (nx : List (List Int)) (k c j : Nat) (hj : j < (cd T ps ss nx k c).tail.length) : ftF T ps ss nx k c (j + 1) = ftF T ps ss nx k c j ++ [((k : Int), (c : Int), cdH T ps ss nx k c, (cd T ps ss nx k c).tail[j])] := by
  have h2 : j < (ftC T ps ss nx k c).length := by unfold ftC; rw [List.length_map]; exact hj
  unfold ftF
  rw [List.take_succ_eq_append_getElem h2, ← List.append_assoc]
  congr 2
  simp [ftC]
theorem ftF_end (T : Nat) (ps : List Pd) (ss : List (List It)) (nx : List (List Int)) (k c j : Nat) (hj : (cd T ps ss nx k c).tail.length ≤ j) : ftF T ps ss nx k c j = ftN T ps ss nx k ++ ftR T ps ss nx k (c + 1) := by
  have h2 : (ftC T ps ss nx k c).length ≤ j := by unfold ftC; rw [List.length_map]; exact hj
  unfold ftF
  rw [List.take_of_length_le h2, List.append_assoc]; rfl
/-- Acts that are all there so far: k whole rows, and c of the next. -/
def Aq (R : Nat → Nat → Sy) (k c i j : Nat) : Sy := if i < k ∨ (i = k ∧ j < c) then R i j else (0, 0)
end Cg
def acF (a : Nat → Sy) (j : Nat) : Value := if j % 2 = 0 then .int .i64 (a (j / 2)).1 else .int .i64 (a (j / 2)).2
/-- What is held while the rows are laid. -/
structure Lk (w : World) (T n : Nat) (pv : Value) (ps : List Pd) (S ab tb b1 b2 : Nat) (sv nv : Value) (vs ws : List Value) (ss : List (List It)) (nx : List (List Int)) (k : Nat) (rb : Nat → Nat) (A : Nat → Nat → Sy) (k2 : Nat) (f2 : Nat → Value) (fv : Value) (FL : List Ft) (W : World) : Prop where
  gb : Gb w w.heap.size (T : Int) (n : Int) pv ps W
  rc : W.heap[w.heap.size + 1]? = some (.cells #[.slice none 0 0, .slice none 0 0] 28)
  abx : W.heap[ab]? = some (.cells #[sv, nv] 99)
  tbx : W.heap[tb]? = some (.cells #[.slice (some ⟨b1, 0, none⟩) S S, .slice (some ⟨b2, 0, none⟩) S S] 28)
  sr : W.ownsRow w.heap.size 103 1 sv S vs
  nr : W.ownsRow w.heap.size 29 1 nv S ws
  si : ItR w.heap.size vs ss W
  ni : InR w.heap.size ws nx W
  r1 : W.rowIs b1 84 S (fun i => if i < k then .slice (some ⟨rb i, 0, none⟩) (T + 1) (T + 1) else .slice none 0 0)
  ri : ∀ i, i < k → W.rowIs (rb i) 104 ((T + 1) * 2) (acF (A i))
  r2 : W.rowIs b2 29 S (fun i => if i < k2 then f2 i else .slice none 0 0)
  gi : ∀ i, i < k2 → W.ownsRow w.heap.size 3 1 (f2 i) n (((nx.getD i []).drop T).map (Value.int .i64))
  fl : W.ownsRow (w.heap.size + 2) 106 6 fv FL.length (fcl FL)
  ge : w.heap.size + 2 ≤ b1 ∧ w.heap.size + 2 ≤ b2 ∧ w.heap.size + 2 ≤ tb
  gr : ∀ i, i < k → w.heap.size + 2 ≤ rb i
  ne : ∀ i j, i < k → j < i → rb j ≠ rb i
  n2 : nv.ownBlock ≠ some b2
section
variable {w : World} {T n : Nat} {pv : Value} {ps : List Pd} {S ab tb b1 b2 : Nat} {sv nv : Value} {vs ws : List Value} {ss : List (List It)} {nx : List (List Int)} {k : Nat} {rb : Nat → Nat} {A : Nat → Nat → Sy} {k2 : Nat} {f2 : Nat → Value} {fv : Value} {FL : List Ft} {W W' : World}
theorem Lk.next (h : Lk w T n pv ps S ab tb b1 b2 sv nv vs ws ss nx k rb A k2 f2 fv FL W) (hb : Below W.heap.size W W') : Lk w T n pv ps S ab tb b1 b2 sv nv vs ws ss nx k rb A k2 f2 fv FL W' :=
  ⟨h.gb.next hb, mbox_next h.rc hb, mbox_next h.abx hb, mbox_next h.tbx hb, own_below h.sr hb, own_below h.nr hb, h.si.keep fun q _ hq => hb.block q (mheap_lt hq), h.ni.keep fun q _ hq => hb.block q (mheap_lt hq), h.r1.of_block (hb.block _ h.r1.lt), fun i hi => (h.ri i hi).of_block (hb.block _ (h.ri i hi).lt), h.r2.of_block (hb.block _ h.r2.lt), fun i hi => own_below (h.gi i hi) hb, own_below h.fl hb, h.ge, h.gr, h.ne, h.n2⟩
theorem Lk.congr {A' : Nat → Nat → Sy} (h : Lk w T n pv ps S ab tb b1 b2 sv nv vs ws ss nx k rb A k2 f2 fv FL W) (he : ∀ i j, i < k → j < T + 1 → A i j = A' i j) : Lk w T n pv ps S ab tb b1 b2 sv nv vs ws ss nx k rb A' k2 f2 fv FL W :=
  ⟨h.gb, h.rc, h.abx, h.tbx, h.sr, h.nr, h.si, h.ni, h.r1, fun i hi => (h.ri i hi).congr fun j hj => by unfold acF; rw [he i (j / 2) hi (by omega)], h.r2, h.gi, h.fl, h.ge, h.gr, h.ne, h.n2⟩
theorem mrow_blk {W : World} {g n : Nat} {t : TypeId} {f : Nat → Value} (h : W.rowIs g t n f) : ∃ c, W.heap[g]? = some (.cells c t (0, 0)) := by
  obtain ⟨c, h1, -⟩ := h
  exact ⟨c, h1⟩
/-- What is written into lies in a block of one type: all that is of another type stays. -/
theorem keepT {b : Nat} {cur : Array Value} {t : TypeId} (hbk : W.heap[b]? = some (.cells cur t (0, 0))) (hsame : ∀ q, q < W.heap.size → q ≠ b → W'.heap[q]? = W.heap[q]?) {q : Nat} {c2 : Array Value} {t2 : TypeId} (hq : W.heap[q]? = some (.cells c2 t2 (0, 0))) (hne : t2 ≠ t) : W'.heap[q]? = W.heap[q]? :=
  hsame q (mheap_lt hq) (fun e => by subst e; rw [hbk] at hq; cases hq; exact hne rfl)
/-- A new row of acts is laid. -/
theorem Lk.row (h : Lk w T n pv ps S ab tb b1 b2 sv nv vs ws ss nx k rb A k2 f2 fv FL W) (hp : Pds w pv ps) (hk : k < S) {rk : Nat} (hrk : W.rowIs rk 104 ((T + 1) * 2) (acF (fun _ => (0, 0)))) (hge : w.heap.size + 2 ≤ rk) (hfresh : ∀ i, i < k → rb i ≠ rk) :
    Lk w T n pv ps S ab tb b1 b2 sv nv vs ws ss nx (k + 1) (upd rb k rk) (upd A k (fun _ => (0, 0))) k2 f2 fv FL (W.setCell ⟨b1, k, none⟩ (.slice (some ⟨rk, 0, none⟩) (T + 1) (T + 1))) := by
  obtain ⟨c1, hb1⟩ := mrow_blk h.r1
  have hsame : ∀ q, q < W.heap.size → q ≠ b1 → (W.setCell ⟨b1, k, none⟩ (.slice (some ⟨rk, 0, none⟩) (T + 1) (T + 1))).heap[q]? = W.heap[q]? := fun q _ hq => mset_ne W k _ hq
  have kT := fun {q : Nat} {c2 : Array Value} {t2 : TypeId} (hq : W.heap[q]? = some (.cells c2 t2 (0, 0))) (hne : t2 ≠ 84) => keepT hb1 hsame hq hne
  have kO := fun {B e s m : Nat} {v : Value} {xs : List Value} (ho : W.ownsRow B e s v m xs) (hne : e ≠ 84) => row_keep (W' := W.setCell ⟨b1, k, none⟩ (.slice (some ⟨rk, 0, none⟩) (T + 1) (T + 1))) ho fun q hq => by obtain ⟨cur, hc⟩ := mown_blk ho hq; exact kT hc hne
  refine ⟨gb_set h.gb hp (by have := h.ge.1; omega), (kT h.rc (by decide)).trans h.rc, (kT h.abx (by decide)).trans h.abx, (kT h.tbx (by decide)).trans h.tbx, kO h.sr (by decide), kO h.nr (by decide), h.si.keep fun q cur hq => kT hq (by decide), h.ni.keep fun q cur hq => kT hq (by decide), ?_, fun i hi => ?_, ?_, fun i hi => kO (h.gi i hi) (by decide), kO h.fl (by decide), h.ge, fun i hi => ?_, fun i j hi hj => ?_, h.n2⟩
  · refine (h.r1.set k _).congr fun i hi => ?_
    by_cases e : i = k
    · subst e; rw [if_pos rfl, if_pos (by omega)]; simp only [upd, if_true]
    · rw [if_neg e]
      by_cases e2 : i < k
      · rw [if_pos e2, if_pos (by omega)]; simp only [upd, if_neg e]
      · rw [if_neg e2, if_neg (by omega)]
  · by_cases e : i = k
    · subst e
      rw [upd_at, upd_at]
      obtain ⟨c2, h2⟩ := mrow_blk hrk
      exact hrk.of_block (kT h2 (by decide))
    · rw [upd_ne _ _ e, upd_ne _ _ e]
      obtain ⟨c2, h2⟩ := mrow_blk (h.ri i (by omega))
      exact (h.ri i (by omega)).of_block (kT h2 (by decide))
  · obtain ⟨c2, h2⟩ := mrow_blk h.r2
    exact h.r2.of_block (kT h2 (by decide))
  · by_cases e : i = k
    · subst e; rw [upd_at]; exact hge
    · rw [upd_ne _ _ e]; exact h.gr i (by omega)
  · by_cases e : i = k
    · subst e; rw [upd_at, upd_ne _ _ (by omega)]; exact hfresh j hj
    · rw [upd_ne _ _ e, upd_ne _ _ (by omega)]; exact h.ne i j (by omega) hj
/-- An act is put into the last row. -/
theorem Lk.put (h : Lk w T n pv ps S ab tb b1 b2 sv nv vs ws ss nx (k + 1) rb A k2 f2 fv FL W) (hp : Pds w pv ps) (c : Nat) (a : Sy) :
    Lk w T n pv ps S ab tb b1 b2 sv nv vs ws ss nx (k + 1) rb (upd A k (upd (A k) c a)) k2 f2 fv FL ((W.setCell ⟨rb k, c * 2, none⟩ (.int .i64 a.1)).setCell ⟨rb k, c * 2 + 1, none⟩ (.int .i64 a.2)) := by
  have hrk := h.ri k (by omega)
  have hgk := h.gr k (by omega)
  obtain ⟨c1, hb1⟩ := mrow_blk hrk
  have hsame : ∀ q, q < W.heap.size → q ≠ rb k → ((W.setCell ⟨rb k, c * 2, none⟩ (.int .i64 a.1)).setCell ⟨rb k, c * 2 + 1, none⟩ (.int .i64 a.2)).heap[q]? = W.heap[q]? := fun q _ hq => (mset_ne _ _ _ hq).trans (mset_ne _ _ _ hq)
  have kT := fun {q : Nat} {c2 : Array Value} {t2 : TypeId} (hq : W.heap[q]? = some (.cells c2 t2 (0, 0))) (hne : t2 ≠ 104) => keepT hb1 hsame hq hne
  have kO := fun {B e s m : Nat} {v : Value} {xs : List Value} (ho : W.ownsRow B e s v m xs) (hne : e ≠ 104) => row_keep (W' := (W.setCell ⟨rb k, c * 2, none⟩ (.int .i64 a.1)).setCell ⟨rb k, c * 2 + 1, none⟩ (.int .i64 a.2)) ho fun q hq => by obtain ⟨cur, hc⟩ := mown_blk ho hq; exact kT hc hne
  refine ⟨gb_set (gb_set h.gb hp (by omega)) hp (by omega), (kT h.rc (by decide)).trans h.rc, (kT h.abx (by decide)).trans h.abx, (kT h.tbx (by decide)).trans h.tbx, kO h.sr (by decide), kO h.nr (by decide), h.si.keep fun q cur hq => kT hq (by decide), h.ni.keep fun q cur hq => kT hq (by decide), ?_, fun i hi => ?_, ?_, fun i hi => kO (h.gi i hi) (by decide), kO h.fl (by decide), h.ge, h.gr, h.ne, h.n2⟩
  · obtain ⟨c2, h2⟩ := mrow_blk h.r1
    exact h.r1.of_block (kT h2 (by decide))
  · by_cases e : i = k
    · subst e
      rw [upd_at]
      refine ((hrk.set (c * 2) _).set (c * 2 + 1) _).congr fun q _ => ?_
      unfold acF upd
      by_cases e1 : q = c * 2 + 1
      · subst e1
        rw [if_pos rfl, if_neg (by omega), if_pos (by omega)]
      · rw [if_neg e1]
        by_cases e2 : q = c * 2
        · subst e2
          rw [if_pos rfl, if_pos (by omega), if_pos (by omega)]
        · rw [if_neg e2]
          by_cases e3 : q % 2 = 0
          · rw [if_pos e3, if_pos e3, if_neg (by omega)]
          · rw [if_neg e3, if_neg e3, if_neg (by omega)]
    · rw [upd_ne _ _ e]
      have hne : rb i ≠ rb k := by
        have : i < k := by omega
        exact h.ne k i (by omega) this
      exact (h.ri i hi).of_block (hsame _ (h.ri i hi).lt hne)
  · obtain ⟨c2, h2⟩ := mrow_blk h.r2
    exact h.r2.of_block (kT h2 (by decide))
/-- A fight is told. -/
theorem Lk.fight {fv' : Value} {FL' : List Ft} (h : Lk w T n pv ps S ab tb b1 b2 sv nv vs ws ss nx k rb A k2 f2 fv FL W) (hp : Pds w pv ps) (hg : W.grownBy W' fv.ownBlock) (ho : W'.ownsRow (w.heap.size + 2) 106 6 fv' FL'.length (fcl FL')) :
    Lk w T n pv ps S ab tb b1 b2 sv nv vs ws ss nx k rb A k2 f2 fv' FL' W' := by
  have kT : ∀ {q : Nat} {c2 : Array Value} {t2 : TypeId}, W.heap[q]? = some (.cells c2 t2 (0, 0)) → t2 ≠ 106 → W'.heap[q]? = W.heap[q]? := fun {q c2 t2} hq hne => hg.block q (mheap_lt hq) (fun e => by
    obtain ⟨cur, hc⟩ := mown_blk h.fl e.symm
    rw [hq] at hc; cases hc; exact hne rfl)
  have kO := fun {B e s m : Nat} {v : Value} {xs : List Value} (ho : W.ownsRow B e s v m xs) (hne : e ≠ 106) => row_keep (W' := W') ho fun q hq => by obtain ⟨cur, hc⟩ := mown_blk ho hq; exact kT hc hne
  refine ⟨gb_grown h.gb hp hg (fun q hq => by have := (h.fl.lt q hq).1; omega), (kT h.rc (by decide)).trans h.rc, (kT h.abx (by decide)).trans h.abx, (kT h.tbx (by decide)).trans h.tbx, kO h.sr (by decide), kO h.nr (by decide), h.si.keep fun q cur hq => kT hq (by decide), h.ni.keep fun q cur hq => kT hq (by decide), ?_, fun i hi => ?_, ?_, fun i hi => kO (h.gi i hi) (by decide), ho, h.ge, h.gr, h.ne, h.n2⟩
  · obtain ⟨c2, h2⟩ := mrow_blk h.r1
    exact h.r1.of_block (kT h2 (by decide))
  · obtain ⟨c2, h2⟩ := mrow_blk (h.ri i hi)
    exact (h.ri i hi).of_block (kT h2 (by decide))
  · obtain ⟨c2, h2⟩ := mrow_blk h.r2
    exact h.r2.of_block (kT h2 (by decide))
/-- A row of next states is laid. -/
theorem Lk.goto (h : Lk w T n pv ps S ab tb b1 b2 sv nv vs ws ss nx k rb A k2 f2 fv FL W) (hp : Pds w pv ps) (hk : k2 < S) {u : Value} (hu : W.ownsRow w.heap.size 3 1 u n (((nx.getD k2 []).drop T).map (Value.int .i64))) :
    Lk w T n pv ps S ab tb b1 b2 sv nv vs ws ss nx k rb A (k2 + 1) (upd f2 k2 u) fv FL (W.setCell ⟨b2, k2, none⟩ u) := by
  obtain ⟨c1, hb1⟩ := mrow_blk h.r2
  have hsame : ∀ q, q < W.heap.size → q ≠ b2 → (W.setCell ⟨b2, k2, none⟩ u).heap[q]? = W.heap[q]? := fun q _ hq => mset_ne W k2 _ hq
  have kT := fun {q : Nat} {c2 : Array Value} {t2 : TypeId} (hq : W.heap[q]? = some (.cells c2 t2 (0, 0))) (hne : t2 ≠ 29) => keepT hb1 hsame hq hne
  have kO := fun {B e s m : Nat} {v : Value} {xs : List Value} (ho : W.ownsRow B e s v m xs) (hne : e ≠ 29) => row_keep (W' := W.setCell ⟨b2, k2, none⟩ u) ho fun q hq => by obtain ⟨cur, hc⟩ := mown_blk ho hq; exact kT hc hne
  refine ⟨gb_set h.gb hp (by have := h.ge.2.1; omega), (kT h.rc (by decide)).trans h.rc, (kT h.abx (by decide)).trans h.abx, (kT h.tbx (by decide)).trans h.tbx, kO h.sr (by decide), row_keep h.nr (fun q hq => mset_ne W k2 _ (fun e => by subst e; exact h.n2 hq)), h.si.keep fun q cur hq => kT hq (by decide), h.ni.keep fun q cur hq => kT hq (by decide), ?_, fun i hi => ?_, ?_, fun i hi => ?_, kO h.fl (by decide), h.ge, h.gr, h.ne, h.n2⟩
  · obtain ⟨c2, h2⟩ := mrow_blk h.r1
    exact h.r1.of_block (kT h2 (by decide))
  · obtain ⟨c2, h2⟩ := mrow_blk (h.ri i hi)
    exact (h.ri i hi).of_block (kT h2 (by decide))
  · refine (h.r2.set k2 _).congr fun i hi => ?_
    by_cases e : i = k2
    · subst e; rw [if_pos rfl, if_pos (by omega)]; simp only [upd, if_true]
    · rw [if_neg e]
      by_cases e2 : i < k2
      · rw [if_pos e2, if_pos (by omega)]; simp only [upd, if_neg e]
      · rw [if_neg e2, if_neg (by omega)]
  · by_cases e : i = k2
    · subst e; rw [upd_at]; exact kO hu (by decide)
    · rw [upd_ne _ _ e]; exact kO (h.gi i (by omega)) (by decide)
/-- Nothing is laid yet. -/
theorem Lk.start (hp : Pds w pv ps) (hgb : Gb w w.heap.size (T : Int) (n : Int) pv ps W) (hrc : W.heap[w.heap.size + 1]? = some (.cells #[.slice none 0 0, .slice none 0 0] 28)) (hab : W.heap[ab]? = some (.cells #[sv, nv] 99)) (hsr : W.ownsRow w.heap.size 103 1 sv S vs) (hnr : W.ownsRow w.heap.size 29 1 nv S ws) (hsi : ItR w.heap.size vs ss W) (hni : InR w.heap.size ws nx W)
    (h1 : W.rowIs b1 84 S (fun _ => .slice none 0 0)) (h2 : W.rowIs b2 29 S (fun _ => .slice none 0 0)) (h3 : W.heap[tb]? = some (.cells #[.slice none 0 0, .slice none 0 0] 28)) (g1 : w.heap.size + 2 ≤ b1) (g2 : w.heap.size + 2 ≤ b2) (g3 : w.heap.size + 2 ≤ tb) (hn2 : nv.ownBlock ≠ some b2) :
    Lk w T n pv ps S ab tb b1 b2 sv nv vs ws ss nx 0 (fun _ => 0) A 0 f2 (.slice none 0 0) [] ((W.setCell ⟨tb, 0, none⟩ (.slice (some ⟨b1, 0, none⟩) S S)).setCell ⟨tb, 1, none⟩ (.slice (some ⟨b2, 0, none⟩) S S)) := by
  have hsame : ∀ q, q ≠ tb → ((W.setCell ⟨tb, 0, none⟩ (.slice (some ⟨b1, 0, none⟩) S S)).setCell ⟨tb, 1, none⟩ (.slice (some ⟨b2, 0, none⟩) S S)).heap[q]? = W.heap[q]? := fun q hq => (mset_ne _ 1 _ hq).trans (mset_ne _ 0 _ hq)
  have kT : ∀ {q : Nat} {c2 : Array Value} {t2 : TypeId}, W.heap[q]? = some (.cells c2 t2 (0, 0)) → t2 ≠ 28 → ((W.setCell ⟨tb, 0, none⟩ (.slice (some ⟨b1, 0, none⟩) S S)).setCell ⟨tb, 1, none⟩ (.slice (some ⟨b2, 0, none⟩) S S)).heap[q]? = W.heap[q]? := fun {q c2 t2} hq hne => hsame q (fun e => by subst e; rw [h3] at hq; cases hq; exact hne rfl)
  have kO := fun {B e s m : Nat} {v : Value} {xs : List Value} (ho : W.ownsRow B e s v m xs) (hne : e ≠ 28) => row_keep (W' := (W.setCell ⟨tb, 0, none⟩ (.slice (some ⟨b1, 0, none⟩) S S)).setCell ⟨tb, 1, none⟩ (.slice (some ⟨b2, 0, none⟩) S S)) ho fun q hq => by obtain ⟨cur, hc⟩ := mown_blk ho hq; exact kT hc hne
  refine ⟨gb_set (gb_set hgb hp (by omega)) hp (by omega), (hsame _ (by omega)).trans hrc, (kT hab (by decide)).trans hab, ?_, kO hsr (by decide), kO hnr (by decide), hsi.keep fun q cur hq => kT hq (by decide), hni.keep fun q cur hq => kT hq (by decide), ?_, fun i hi => by omega, ?_, fun i hi => by omega, World.ownsRow_nil _ _ _ _, ⟨g1, g2, g3⟩, fun i hi => by omega, fun i j hi => by omega, hn2⟩
  · have a1 := mblock_store (i := 0) h3 (.slice (some ⟨b1, 0, none⟩) S S)
    have a2 := mblock_store (i := 1) a1 (.slice (some ⟨b2, 0, none⟩) S S)
    simpa using a2
  · obtain ⟨c2, hc⟩ := mrow_blk h1
    exact (h1.of_block (kT hc (by decide))).congr fun i _ => by rw [if_neg (by omega)]
  · obtain ⟨c2, hc⟩ := mrow_blk h2
    exact (h2.of_block (kT hc (by decide))).congr fun i _ => by rw [if_neg (by omega)]
end
/-- The acts of one state, as mayBeDone answered them. -/
structure Cr (B T ob : Nat) (f : Nat → Value) (L : Nat → List Sy) (W : World) : Prop where
  ge : B ≤ ob
  o : W.rowIs ob 84 (T + 1) f
  r : ∀ c, c < T + 1 → W.ownsRow B 104 2 (f c) (L c).length (acl (L c))
theorem Cr.next {B T ob : Nat} {f : Nat → Value} {L : Nat → List Sy} {W W' : World} (h : Cr B T ob f L W) (hb : Below W.heap.size W W') : Cr B T ob f L W' :=
  ⟨h.ge, h.o.of_block (hb.block _ h.o.lt), fun c hc => own_below (h.r c hc) hb⟩
theorem Cr.set {B T ob : Nat} {f : Nat → Value} {L : Nat → List Sy} {W : World} (h : Cr B T ob f L W) {b i : Nat} (hb : b < B) (v : Value) : Cr B T ob f L (W.setCell ⟨b, i, none⟩ v) :=
  ⟨h.ge, h.o.of_block (mset_ne W i v (by have := h.ge; omega)), fun c hc => row_keep (h.r c hc) fun q hq => mset_ne W i v (by have := ((h.r c hc).lt q hq).1; omega)⟩
theorem Cr.grown {B T ob : Nat} {f : Nat → Value} {L : Nat → List Sy} {W W' : World} (h : Cr B T ob f L W) {B2 m : Nat} {fv : Value} {xs : List Value} (ho : W.ownsRow B2 106 6 fv m xs) (hg : W.grownBy W' fv.ownBlock) : Cr B T ob f L W' := by
  refine ⟨h.ge, ?_, fun c hc => row_keep (h.r c hc) fun q hq => hg.block q ((h.r c hc).lt q hq).2 (fun e => mown_ne (h.r c hc) ho (by decide) hq e.symm)⟩
  obtain ⟨c2, hc⟩ := mrow_blk h.o
  exact h.o.of_block (hg.block ob h.o.lt (fun e => mown_box ho hc (by decide) e.symm))
/-- .. as lists. -/
theorem cr_at {B T ob c g cp : Nat} {f : Nat → Value} {L : Nat → List Sy} {W : World} (h : Cr B T ob f L W) (hc : c < T + 1) (hf : f c = .slice (some ⟨g, 0, none⟩) (L c).length cp) {j : Nat} (hj : j < (L c).length) : W.cell? ⟨g, j * 2, none⟩ = some (.int .i64 ((L c)[j]).1) ∧ W.cell? ⟨g, j * 2 + 1, none⟩ = some (.int .i64 ((L c)[j]).2) := by
  have hr := h.r c hc
  rw [hf] at hr
  have key : ∀ (l : List Sy) (i : Nat) (hi : i < l.length), (acl l)[i * 2]? = some (.int .i64 l[i].1) ∧ (acl l)[i * 2 + 1]? = some (.int .i64 l[i].2) := by
    intro l
    induction l with
    | nil => intro i hi; simp at hi
    | cons a l ih =>
      intro i hi
      cases i with
      | zero => exact ⟨rfl, rfl⟩
      | succ i =>
        obtain ⟨h0, h1⟩ := ih i (by simpa using hi)
        have e : ∀ j, (acl (a :: l))[(i + 1) * 2 + j]? = (acl l)[i * 2 + j]? := fun j => by
          rw [show (i + 1) * 2 + j = i * 2 + j + 1 + 1 by omega]; rfl
        exact ⟨(e 0).trans h0, (e 1).trans h1⟩
  obtain ⟨k0, k1⟩ := key _ j hj
  have a0 := hr.cells (g := g) rfl _ _ k0
  have a1 := hr.cells (g := g) rfl _ _ k1
  rw [Addr.add_lit, Nat.zero_add] at a0 a1
  exact ⟨a0, a1⟩
end Go.Proofs.Ytpbnnmfjahckmaa
