/-
  RABIN, SCOTT, plainly: of the subset construction's automaton the state behind a text is the set of places at which one may be, and its Tag is the least rule that is done there. What dfa.Make holds: the maker, and the automaton under way. No function is walked here. The contract of dfa.Make.
-/
import Derived.Test.YtlmlkpdppkgenaaDmMath
import Derived.Test.YtlmlkpdppkgenaaWDf
import Derived.Test.YtlmlkpdppkgenaaWLow
import Derived.Great.BuildSlice
import Derived.Test.YtlmlkpdppkgenaaPoCheck
import Derived.BigQuiet
namespace Go.Proofs.Ytlmlkpdppkgenaa.Dm
open Cls Po
open Df.Dfa (goes tagOf rowsOk tagsOk rowOk numOk tagOk goes_snoc all_true)

/-- All rows are laid. -/
structure All (p : P) (k : Nat) : Prop where
  far : Far p k
  len : (G p k).length = k
  ok : ok p = true
  le : p.cls.length ≤ 200
theorem All.mem {p : P} {k : Nat} (h : All p k) {i b : Nat} (hi : i < k) (hb : b < 256) : meet (nx p (G p k) i) (hv p b) = empty ∨ meet (nx p (G p k) i) (hv p b) ∈ (G p k).tail := row_mem p hi (h.far.le i hi).1 hb
/-- Its numbers are states. -/
theorem All.rows {p : P} {k : Nat} (h : All p k) : rowsOk k (rowF p (G p k)) = true := by
  refine all_true fun i hi => all_true fun b hb => ?_
  have h1 := num_lt (G_pos p k) (h.mem hi hb)
  have h2 := num_ge (G p k) (meet (nx p (G p k) i) (hv p b))
  rw [h.len] at h1
  show (decide (-1 ≤ num (G p k) (meet (nx p (G p k) i) (hv p b))) && decide (num (G p k) (meet (nx p (G p k) i) (hv p b)) < (k : Int))) = true
  rw [decide_eq_true h2, decide_eq_true h1]; rfl
theorem firstR_range (n : Nat) (A : Nat → Bool) : -1 ≤ firstR n A ∧ (firstR n A < (n : Int) ∨ firstR n A = -1) := by
  rcases firstR_cases n A with ⟨e, -⟩ | ⟨i, h1, -, -, e⟩ <;> rw [e] <;> omega
theorem tag_ok {p : P} (h : ok p = true) (S : List Cl) (i : Nat) : tagOk (tagF p S i) = true := by
  obtain ⟨-, -, -, h0, h20, -⟩ := (ok_iff p).1 h
  have : -1 ≤ tagF p S i ∧ tagF p S i < 20 := by
    unfold tagF
    split
    · have := firstR_range p.empty.length fun i => p.empty.getD i false
      unfold tag0; omega
    · have := firstR_range p.empty.length (dn p (S.getD i empty))
      unfold tgF; omega
  simp only [tagOk, Bool.and_eq_true, decide_eq_true_eq]; exact this
theorem All.tags {p : P} {k : Nat} (h : All p k) : tagsOk k (tagF p (G p k)) = true := all_true fun i _ => tag_ok h.ok _ i
/-- The state is the set. -/
def Same (c : Cl) (l : List Int) : Prop := ∀ y, y < 256 → mem c y = l.contains (y : Int)
theorem same_empty {c : Cl} {l : List Int} (h : Same c l) (hl : ∀ x ∈ l, 0 ≤ x ∧ x < 256) : c = empty ↔ l = [] := by
  rw [eq_empty_iff]
  constructor
  · intro g
    cases l with
    | nil => rfl
    | cons x l =>
      have hx := hl x (by simp)
      have h1 := h x.toNat (by omega)
      rw [g x.toNat (by omega), show ((x.toNat : Nat) : Int) = x by omega] at h1
      simp at h1
  · rintro rfl b hb
    rw [h b hb]; rfl
theorem same_start {p : P} (h : ok p = true) (hn : p.cls.length ≤ 200) (b : UInt8) : Same (meet (stOf p.first) (hv p b.toNat)) (startF p b) := by
  obtain ⟨-, -, -, -, -, -, h1, -⟩ := (ok_iff p).1 h
  intro y hy
  rw [mem_meet, mem_stOf (first_in h1 hn) hy, mem_hv hn _ hy]
  unfold startF
  rw [sel_has]
  by_cases e : y < p.cls.length
  · simp [e]
  · have : hasAt p b.toNat (y : Int) = false := by
      cases g : hasAt p b.toNat (y : Int)
      · rfl
      · exact absurd (hasAt_lt g) e
    simp [this]
theorem same_step {p : P} (h : ok p = true) (hn : p.cls.length ≤ 200) {c : Cl} {l : List Int} (hl : ∀ x ∈ l, 0 ≤ x ∧ x < (p.cls.length : Int)) (hs : Same c l) (b : UInt8) : Same (meet (bh p c) (hv p b.toNat)) (stepF p l b) := by
  obtain ⟨-, hf, -, -, -, -, -, h1⟩ := (ok_iff p).1 h
  intro y hy
  rw [mem_meet, mem_hv hn _ hy]
  unfold stepF
  rw [sel_has]
  have e2 : mem (bh p c) y = behindB p l y := by
    rw [Bool.eq_iff_iff, mem_bh h1 hn c hy]
    unfold behindB
    rw [List.any_eq_true]
    constructor
    · rintro ⟨x, hx, g1, g2⟩
      rw [hs x (by omega), List.contains_iff_mem] at g1
      exact ⟨(x : Int), g1, by simpa using g2⟩
    · rintro ⟨x, hx, g⟩
      have := hl x hx
      refine ⟨x.toNat, by omega, ?_, g⟩
      rw [hs x.toNat (by omega), List.contains_iff_mem, show ((x.toNat : Nat) : Int) = x by omega]; exact hx
  rw [e2]
  by_cases e : y < p.cls.length
  · simp [e]
  · have : hasAt p b.toNat (y : Int) = false := by
      cases g : hasAt p b.toNat (y : Int)
      · rfl
      · exact absurd (hasAt_lt g) e
    simp [this]
/-- Where a text leads. -/
structure To (p : P) (S : List Cl) (s : List UInt8) (n : Int) : Prop where
  nil : s = [] → n = 0
  neg : n < 0 → n = -1 ∧ atL p s = []
  pos : s ≠ [] → 0 ≤ n → ∃ i : Nat, n = (i : Int) ∧ 0 < i ∧ i < S.length ∧ Same (S.getD i empty) (atL p s)
theorem to_set {S : List Cl} {c : Cl} {l : List Int} (hs : Same c l) (hl : ∀ x ∈ l, 0 ≤ x ∧ x < 256) (hc : c = empty ∨ c ∈ S.tail) : (num S c < 0 → num S c = -1 ∧ l = []) ∧ (0 ≤ num S c → ∃ i : Nat, num S c = (i : Int) ∧ 0 < i ∧ i < S.length ∧ Same (S.getD i empty) l) := by
  constructor
  · intro h
    have e := num_neg.1 h
    exact ⟨by have := num_ge S c; omega, (same_empty hs hl).1 e⟩
  · intro h
    have h0 : c ≠ empty := fun e => by have := (num_neg (S := S)).2 e; omega
    obtain ⟨i, h1, h2, h3, h4⟩ := num_at h0 (hc.resolve_left h0)
    exact ⟨i, h3, h1, h2, by rw [h4]; exact hs⟩
theorem All.to {p : P} {k : Nat} (h : All p k) (s : List UInt8) : To p (G p k) s (goes (rowF p (G p k)) 0 s) := by
  have hk := h.far.pos
  have hin : ∀ l : List UInt8, ∀ x ∈ atL p l, 0 ≤ x ∧ x < 256 := fun l x hx => by have := atL_in p l x hx; have := h.le; omega
  suffices ∀ r : List UInt8, To p (G p k) r.reverse (goes (rowF p (G p k)) 0 r.reverse) by simpa using this s.reverse
  intro r
  induction r with
  | nil => exact ⟨fun _ => rfl, fun g => by simp [goes] at g, fun g => absurd rfl g⟩
  | cons b r ih =>
    rw [List.reverse_cons, goes_snoc]
    generalize r.reverse = l at ih ⊢
    have hb := b.toNat_lt
    refine ⟨fun e => by simp at e, ?_, ?_⟩
    all_goals
      by_cases hn : goes (rowF p (G p k)) 0 l < 0
    · obtain ⟨e1, e2⟩ := ih.neg hn
      intro _
      have hl : l ≠ [] := fun e => by have := ih.nil e; omega
      rw [e1]
      refine ⟨by simp [Df.Dfa.step], ?_⟩
      rw [atL_snoc, if_neg hl, e2]
      unfold stepF behindB
      simp [sel]
    · by_cases hl : l = []
      · subst hl
        show (num _ _ < 0 → _)
        have := to_set (S := G p k) (same_start h.ok h.le b) (by have := hin [b]; rwa [show atL p [b] = startF p b from rfl] at this) (h.mem (i := 0) (b := b.toNat) hk (by omega))
        exact fun g => this.1 g
      · obtain ⟨i, e1, i0, il, hs⟩ := ih.pos hl (by omega)
        rw [e1, atL_snoc, if_neg hl]
        have e3 : Df.Dfa.step (rowF p (G p k)) (i : Int) b = num (G p k) (meet (bh p ((G p k).getD i empty)) (hv p b.toNat)) := by
          unfold Df.Dfa.step; rw [if_neg (by omega)]
          show num _ (meet (nx p _ i) _) = _
          unfold nx; rw [if_neg (by omega)]
        rw [e3]
        have hm := h.mem (i := i) (b := b.toNat) (by have := h.len; omega) (by omega)
        unfold nx at hm; rw [if_neg (by omega)] at hm
        have := to_set (S := G p k) (same_step h.ok h.le (atL_in p l) hs b) (by have := hin (l ++ [b]); rwa [atL_snoc, if_neg hl] at this) hm
        exact fun g => this.1 g
    · obtain ⟨e1, e2⟩ := ih.neg hn
      intro _ g
      rw [e1] at g
      simp [Df.Dfa.step] at g
    · by_cases hl : l = []
      · subst hl
        intro _
        show (0 ≤ num _ _ → _)
        have := to_set (S := G p k) (same_start h.ok h.le b) (by have := hin [b]; rwa [show atL p [b] = startF p b from rfl] at this) (h.mem (i := 0) (b := b.toNat) hk (by omega))
        exact fun g => this.2 g
      · obtain ⟨i, e1, i0, il, hs⟩ := ih.pos hl (by omega)
        rw [e1, atL_snoc, if_neg hl]
        have e3 : Df.Dfa.step (rowF p (G p k)) (i : Int) b = num (G p k) (meet (bh p ((G p k).getD i empty)) (hv p b.toNat)) := by
          unfold Df.Dfa.step; rw [if_neg (by omega)]
          show num _ (meet (nx p _ i) _) = _
          unfold nx; rw [if_neg (by omega)]
        rw [e3]
        have hm := h.mem (i := i) (b := b.toNat) (by have := h.len; omega) (by omega)
        unfold nx at hm; rw [if_neg (by omega)] at hm
        have := to_set (S := G p k) (same_step h.ok h.le (atL_in p l) hs b) (by have := hin (l ++ [b]); rwa [atL_snoc, if_neg hl] at this) hm
        exact fun _ g => this.2 g
/-- RABIN, SCOTT: the Tag of a text is the least rule that is done behind it. -/
theorem All.tag {p : P} {k : Nat} (h : All p k) (s : List UInt8) : tagOf (tagF p (G p k)) (goes (rowF p (G p k)) 0 s) = firstR p.empty.length (doneB p s) := by
  have ht := h.to s
  obtain ⟨hr, hf, hla, -, -, -, -, -⟩ := (ok_iff p).1 h.ok
  by_cases hn : goes (rowF p (G p k)) 0 s < 0
  · obtain ⟨e1, e2⟩ := ht.neg hn
    unfold tagOf
    rw [if_pos hn, firstR_none]
    intro i _
    have hs : s ≠ [] := fun e => by have := ht.nil e; omega
    unfold doneB; rw [e2]; simp [hs]
  · unfold tagOf
    rw [if_neg hn]
    by_cases hs : s = []
    · subst hs
      show tag0 p = _
      unfold tag0
      refine firstR_congr fun i _ => ?_
      unfold doneB
      simp [atL]
    · obtain ⟨i, e1, i0, il, hsm⟩ := ht.pos hs (by omega)
      rw [e1, show ((i : Int)).toNat = i by omega]
      unfold tagF; rw [if_neg (by omega)]
      refine firstR_congr fun j _ => ?_
      unfold doneB dn
      have : decide (s = []) = false := by simpa using hs
      rw [this, Bool.false_and, Bool.false_or, Bool.eq_iff_iff, List.any_eq_true, List.any_eq_true]
      constructor
      · rintro ⟨x, hx, e⟩
        rw [List.mem_range] at hx
        simp only [Bool.and_eq_true] at e
        have hm := e.1.2
        rw [hsm x (by have := h.le; omega), List.contains_iff_mem] at hm
        exact ⟨(x : Int), hm, by simp only [Bool.and_eq_true]; exact ⟨e.2, e.1.1⟩⟩
      · rintro ⟨x, hx, e⟩
        have hxr := atL_in p s x hx
        simp only [Bool.and_eq_true] at e
        refine ⟨x.toNat, List.mem_range.2 (by omega), ?_⟩
        simp only [Bool.and_eq_true]
        refine ⟨⟨e.2, ?_⟩, e.1⟩
        rw [hsm x.toNat (by have := h.le; omega), List.contains_iff_mem, show ((x.toNat : Nat) : Int) = x by omega]; exact hx
end Go.Proofs.Ytlmlkpdppkgenaa.Dm

namespace Go.Proofs.Ytlmlkpdppkgenaa
open Go.RowKit
open Go.Maps
open Cls Po Dm
open Df (rl rl_length rl_at rl_one size35)

theorem info72 : (Try.prog.info? 72).map (fun i => (i.zero, i.size, i.bytes)) = some (some (.agg (Array.replicate 256 (.int .i16 0))), 256, 512) := by kernel_rfl
theorem fill_row (l : List Value) (h : l.length = 256) (cells : Array Value) (hc : cells.size = 256) : Instr.fill (fun i => some (i * 256, 256)) cells [(0, .agg l.toArray)] = some l.toArray := by
  have := Great.fill_whole (s := 256) (by omega) [.agg l.toArray] cells (fun v hv => by simp at hv; subst hv; simp [Value.cells, h]) (by simp [hc])
  simpa [Value.cells] using this
theorem step_buildRow {ops : Array Oper} {o : Oper} {a : Act} {K : Act → World → Prop} {Q : Exit → Act → World → Prop} {E : Prop} {W : World} (hgd : o.guard = none) (x : Operand) (ho : o.op = .buildSlice 28 1 #[(0, x)]) (l : List Value) (hl : l.length = 256)
    (hx : a.eval x = .agg l.toArray) (h : K (a.put o.dst (.slice (some ⟨W.heap.size, 0, none⟩) 1 1)) (W.alloc (.cells l.toArray 72))) : if Region.wanted o (yielded ops a.tmps) = true then Oper.wp Try.prog o a W K Q else E := by
  have hw : Region.wanted o (yielded ops a.tmps) = true := by simp [Region.wanted, hgd]
  rw [if_pos hw]
  obtain ⟨i, hi, hz, hs, hb⟩ := info_parts info72
  refine wp_buildSlice 28 72 1 _ ho l.toArray i _ Try.underlying28 hi hz (by rw [hs]; omega) (by rw [hs]; omega) ?_ h
  rw [hs]
  simp only [List.map_toArray, List.map_cons, List.map_nil, hx]
  exact fill_row l hl _ (by simp)

/-! ### Blocks of one type -/
/-- Block k holds cells of type t. -/
def Ty (W : World) (k : Nat) (t : TypeId) : Prop := ∃ c, W.heap[k]? = some (.cells c t)
theorem Ty.one {W : World} {k : Nat} {s t : TypeId} (h : Ty W k s) (g : Ty W k t) : s = t := by
  obtain ⟨c, h⟩ := h
  obtain ⟨d, g⟩ := g
  rw [h] at g
  injection g with g
  injection g
theorem row_ty {W : World} {b n : Nat} {t : TypeId} {f : Nat → Value} (h : W.rowIs b t n f) : Ty W b t := by
  obtain ⟨c, h1, _⟩ := h
  exact ⟨c, h1⟩
theorem own_ty {W : World} {base size n : Nat} {e : TypeId} {v : Value} {xs : List Value} (h : W.ownsRow base e size v n xs) {k : Nat} (hk : v.ownBlock = some k) : Ty W k e := by
  rcases h.2 with ⟨rfl, _⟩ | ⟨g, cap, cur, rfl, _, hh, _⟩
  · simp [Value.ownBlock] at hk
  · simp [Value.ownBlock] at hk
    subst hk
    exact ⟨cur, hh⟩
/-- All blocks of other types stay. -/
structure Kt (t : TypeId) (W W' : World) : Prop where
  size : W.heap.size ≤ W'.heap.size
  blk : ∀ k, k < W.heap.size → ¬ Ty W k t → W'.heap[k]? = W.heap[k]?
theorem Kt.grown {t : TypeId} {W W' : World} {o : Option Nat} (h : W.grownBy W' o) (ht : ∀ k, o = some k → Ty W k t) : Kt t W W' := ⟨h.size, fun k hk hn => h.block k hk (fun e => hn (ht k e.symm))⟩
theorem Kt.set {t : TypeId} {W : World} {b i : Nat} {v : Value} (ht : Ty W b t) : Kt t W (W.setCell ⟨b, i, none⟩ v) := ⟨by simp [World.setCell], fun k _ hn => Below.heap_setCell _ _ _ _ (fun e => hn (by rw [e]; exact ht))⟩
theorem Kt.row {t s : TypeId} {W W' : World} (h : Kt t W W') (hts : s ≠ t) {b n : Nat} {f : Nat → Value} (hr : W.rowIs b s n f) : W'.rowIs b s n f := hr.of_block (h.blk b hr.lt (fun e => hts ((row_ty hr).one e)))
theorem Kt.own {t s : TypeId} {W W' : World} (h : Kt t W W') (hts : s ≠ t) {base size n : Nat} {v : Value} {xs : List Value} (ho : W.ownsRow base s size v n xs) : W'.ownsRow base s size v n xs := own_keep ho (fun k hk => h.blk k (ho.lt k hk).2 (fun e => hts ((own_ty ho hk).one e)))
variable {B g hb mb sb sc fc : Nat} {fo : Option Addr} {p : P} {S : List Cl} {D E : DataW Unit} {c : Cl} {w w1 W W' : World}
theorem Ma.kt {t : TypeId} (h : Ma B g hb mb fo fc sb sc p S D W) (hk : Kt t W W') (h1 : t ≠ 74) (h2 : t ≠ 80) : Ma B g hb mb fo fc sb sc p S D W' :=
  h.keep hk.size fun k hk2 hx => hk.blk k hk2 (fun e => by
    rcases hx with rfl | rfl | rfl | rfl | hx
    · exact h2 (e.one (row_ty h.bx))
    · exact h1 (e.one (row_ty h.hv))
    · obtain ⟨es, clock, hm, -⟩ := h.mp
      obtain ⟨c, he⟩ := e
      rw [hm] at he; cases he
    · exact h1 (e.one (own_ty h.st rfl))
    · exact h1 (e.one (own_ty h.fw hx)))
/-- Behind row: rows of other types stay. -/
theorem fm_kt {k : Nat} {s : TypeId} (hf : Fm (Xs g mb sb) W W') (h : Ma B g hb mb fo fc sb sc p S D W) (ht : Ty W k s) (h1 : s ≠ 74) (h2 : s ≠ 80) : W'.heap[k]? = W.heap[k]? := by
  have hlt : k < W.heap.size := by obtain ⟨c, hc⟩ := ht; exact (Array.getElem?_eq_some_iff.1 hc).1
  refine hf.blk k hlt fun hx => ?_
  rcases hx with rfl | rfl | rfl
  · exact h2 (ht.one (row_ty h.bx))
  · obtain ⟨es, clock, hm, -⟩ := h.mp
    obtain ⟨c, he⟩ := ht
    rw [hm] at he; cases he
  · exact h1 (ht.one (own_ty h.st rfl))
theorem fm_row {k n : Nat} {s : TypeId} {f : Nat → Value} (hf : Fm (Xs g mb sb) W W') (h : Ma B g hb mb fo fc sb sc p S D W) (hr : W.rowIs k s n f) (h1 : s ≠ 74) (h2 : s ≠ 80) : W'.rowIs k s n f := hr.of_block (fm_kt hf h (row_ty hr) h1 h2)
theorem fm_own {base size n : Nat} {s : TypeId} {v : Value} {xs : List Value} (hf : Fm (Xs g mb sb) W W') (h : Ma B g hb mb fo fc sb sc p S D W) (ho : W.ownsRow base s size v n xs) (h1 : s ≠ 74) (h2 : s ≠ 80) : W'.ownsRow base s size v n xs := own_keep ho (fun _ hk => fm_kt hf h (own_ty ho hk) h1 h2)
theorem fm_below (hf : Fm (Xs g mb sb) W W') (h : Ma B g hb mb fo fc sb sc p S D W) (hb1 : Below B w1 W) : Below B w1 W' := by
  obtain ⟨g1, g2, g3, g4, g5⟩ := h.ge
  have hl := hb1.size
  refine ⟨hf.os.trans hb1.os, hf.tape.trans hb1.tape, hf.output.trans hb1.output, Nat.le_trans hl hf.size, fun k hk => (hf.blk k (by omega) (fun hx => ?_)).trans (hb1.block k hk)⟩
  rcases hx with rfl | rfl | rfl <;> omega

/-! ### Rows and tags -/
def rA (p : P) (i b : Nat) : Int := num (G p (i + 1)) (meet (nx p (G p i) i) (hv p b))
def tA (p : P) (i : Nat) : Int := tagF p (G p i) i
def rcs (p : P) (k : Nat) : List Value := (List.range k).flatMap fun i => rl (rA p i)
def tcs (p : P) (k : Nat) : List Value := (List.range k).map fun i => .int .i64 (tA p i)
theorem rcs_succ (p : P) (k : Nat) : rcs p (k + 1) = rcs p k ++ rl (rA p k) := by simp [rcs, List.range_succ]
theorem tcs_succ (p : P) (k : Nat) : tcs p (k + 1) = tcs p k ++ [.int .i64 (tA p k)] := by simp [tcs, List.range_succ]
theorem rcs_length (p : P) : ∀ k, (rcs p k).length = k * 256
  | 0 => rfl
  | k + 1 => by rw [rcs_succ, List.length_append, rcs_length p k, rl_length]; omega
theorem rcs_at (p : P) : ∀ k i j, i < k → j < 256 → (rcs p k)[i * 256 + j]? = some (.int .i16 (rA p i j))
  | 0, i, j, h, _ => by omega
  | k + 1, i, j, h, hj => by
    rw [rcs_succ]
    by_cases e : i < k
    · rw [List.getElem?_append_left (by rw [rcs_length]; omega)]
      exact rcs_at p k i j e hj
    · have : i = k := by omega
      subst this
      rw [List.getElem?_append_right (by rw [rcs_length]; omega), rcs_length, show i * 256 + j - i * 256 = j by omega]
      exact rl_at _ j hj
theorem tcs_at (p : P) (k i : Nat) (h : i < k) : (tcs p k)[i]? = some (.int .i64 (tA p i)) := by simp [tcs, h]
theorem tcs_length (p : P) (k : Nat) : (tcs p k).length = k := by simp [tcs]
def dv (rb rc kr tb tc kt : Nat) : Nat → Value := fun i => if i = 0 then .slice (some ⟨rb, 0, none⟩) kr rc else .slice (some ⟨tb, 0, none⟩) kt tc
/-- The maker and the automaton. -/
structure Mm (w1 : World) (B g hb mb : Nat) (fo : Option Addr) (fc gd : Nat) (p : P) (ks kr kt sb sc : Nat) (D : DataW Unit) (rb rc tb tc : Nat) (W : World) : Prop where
  ma : Ma B g hb mb fo fc sb sc p (G p ks) D W
  bx : W.rowIs gd 30 2 (dv rb rc kr tb tc kt)
  rows : W.ownsRow B 72 256 (.slice (some ⟨rb, 0, none⟩) kr rc) kr (rcs p kr)
  tags : W.ownsRow B 3 1 (.slice (some ⟨tb, 0, none⟩) kt tc) kt (tcs p kt)
  bl : Below B w1 W
  ge : B ≤ gd
variable {gd ks kr kt rb rc tb tc : Nat}
theorem Mm.next (h : Mm w1 B g hb mb fo fc gd p ks kr kt sb sc D rb rc tb tc W) (hbl : Below W.heap.size W W') : Mm w1 B g hb mb fo fc gd p ks kr kt sb sc D rb rc tb tc W' :=
  ⟨h.ma.next hbl, h.bx.of_block (hbl.block _ h.bx.lt), own_below h.rows hbl, own_below h.tags hbl, h.bl.trans (hbl.mono h.ma.ge.2.2.2.2), h.ge⟩
theorem Mm.drew (h : Mm w1 B g hb mb fo fc gd p ks kr kt sb sc D rb rc tb tc W) : Mm w1 B g hb mb fo fc gd p ks kr kt sb sc D rb rc tb tc W.drew := h.next (Below.refl _ _).drew
/-- A row more of states. -/
theorem Mm.rowed (h : Mm w1 B g hb mb fo fc gd p ks kr kt sb sc D rb rc tb tc W) {sb' sc' : Nat} {D' : DataW Unit} (hm : Ma B g hb mb fo fc sb' sc' p (grow (hv p) (G p ks) (nx p (G p ks) ks) 256) D' W') (hf : Fm (Xs g mb sb) W W') : Mm w1 B g hb mb fo fc gd p (ks + 1) kr kt sb' sc' D' rb rc tb tc W' :=
  ⟨hm, fm_row hf h.ma h.bx (by decide) (by decide), fm_own hf h.ma h.rows (by decide) (by decide), fm_own hf h.ma h.tags (by decide) (by decide), fm_below hf h.ma h.bl, h.ge⟩
/-- A row more, behind the others. -/
theorem Mm.growR {gr cr : Nat} (h : Mm w1 B g hb mb fo fc gd p ks kr kt sb sc D rb rc tb tc W) (hg : W.grownBy W' (Value.slice (some ⟨rb, 0, none⟩) kr rc).ownBlock) (ho : W'.ownsRow B 72 256 (.slice (some ⟨gr, 0, none⟩) (kr + 1) cr) (kr + 1) (rcs p (kr + 1))) :
    W'.rowIs gd 30 2 (dv rb rc kr tb tc kt) ∧ Mm w1 B g hb mb fo fc gd p ks (kr + 1) kt sb sc D gr cr tb tc (W'.setCell ⟨gd, 0, none⟩ (.slice (some ⟨gr, 0, none⟩) (kr + 1) cr)) ∧ Kt 72 W W' := by
  have k1 : Kt 72 W W' := Kt.grown hg (fun k hk => own_ty h.rows hk)
  have b1 := k1.row (by decide) h.bx
  have k2 : Kt 30 W' (W'.setCell ⟨gd, 0, none⟩ (.slice (some ⟨gr, 0, none⟩) (kr + 1) cr)) := Kt.set (row_ty b1)
  refine ⟨b1, ⟨(h.ma.kt k1 (by decide) (by decide)).kt k2 (by decide) (by decide), (b1.set 0 _).congr fun i _ => ?_, k2.own (by decide) ho, k2.own (by decide) (k1.own (by decide) h.tags), (h.bl.grown hg h.ma.ge.2.2.2.2 (fun k hk => (h.rows.lt k hk).1)).setCell h.ge _, h.ge⟩, k1⟩
  unfold dv
  by_cases e : i = 0 <;> simp [e]
/-- A tag more. -/
theorem Mm.growT {gr cr : Nat} (h : Mm w1 B g hb mb fo fc gd p ks kr kt sb sc D rb rc tb tc W) (hg : W.grownBy W' (Value.slice (some ⟨tb, 0, none⟩) kt tc).ownBlock) (ho : W'.ownsRow B 3 1 (.slice (some ⟨gr, 0, none⟩) (kt + 1) cr) (kt + 1) (tcs p (kt + 1))) :
    W'.rowIs gd 30 2 (dv rb rc kr tb tc kt) ∧ Mm w1 B g hb mb fo fc gd p ks kr (kt + 1) sb sc D rb rc gr cr (W'.setCell ⟨gd, 1, none⟩ (.slice (some ⟨gr, 0, none⟩) (kt + 1) cr)) := by
  have k1 : Kt 3 W W' := Kt.grown hg (fun k hk => own_ty h.tags hk)
  have b1 := k1.row (by decide) h.bx
  have k2 : Kt 30 W' (W'.setCell ⟨gd, 1, none⟩ (.slice (some ⟨gr, 0, none⟩) (kt + 1) cr)) := Kt.set (row_ty b1)
  refine ⟨b1, ⟨(h.ma.kt k1 (by decide) (by decide)).kt k2 (by decide) (by decide), (b1.set 1 _).congr fun i hi => ?_, k2.own (by decide) (k1.own (by decide) h.rows), k2.own (by decide) ho, (h.bl.grown hg h.ma.ge.2.2.2.2 (fun k hk => (h.tags.lt k hk).1)).setCell h.ge _, h.ge⟩⟩
  unfold dv
  have : i = 0 ∨ i = 1 := by omega
  rcases this with e | e <;> simp [e]
/-- What is told. -/
theorem Mm.rw_ (h : Mm w1 B g hb mb fo fc gd p ks kr kt sb sc D rb rc tb tc W) (hf : Far p kr) (hs : (G p kr).length ≤ 1000) : Df.Rw W (.slice (some ⟨rb, 0, none⟩) kr rc) kr (rowF p (G p kr)) := by
  have hl : kr ≤ 201 := hf.le200
  refine ⟨_, rc, rfl, by omega, fun i j => ?_, Or.inr ⟨rb, 0, rfl, (h.rows.lt rb rfl).2, fun i hi j hj => ?_⟩⟩
  · have h1 := num_ge (G p kr) (meet (nx p (G p kr) i) (hv p j))
    have h2 := num_le (G p kr) (meet (nx p (G p kr) i) (hv p j))
    unfold rowF; omega
  · rw [row_stay p hi (hf.le i hi).1 hj]
    have e := rcs_at p kr i j hi hj
    obtain ⟨-, ⟨h1, _⟩ | ⟨g', cap', cur, hv, hg, hh, hn, hc, hs, ht⟩⟩ := h.rows
    · cases h1
    · cases hv
      have e1 : W.cell? ⟨rb, 0 + i * 256 + j, none⟩ = cur[i * 256 + j]? := by simp [World.cell?, hh]
      rw [← ht, List.getElem?_take_of_lt (by omega)] at e
      rw [e1]
      simpa [rA] using e
theorem Mm.ts_ (h : Mm w1 B g hb mb fo fc gd p ks kr kt sb sc D rb rc tb tc W) (hf : Far p kt) (hok : ok p = true) : Df.Ts W (.slice (some ⟨tb, 0, none⟩) kt tc) kt (tagF p (G p kt)) := by
  have hl : kt ≤ 201 := hf.le200
  refine ⟨_, tc, rfl, by omega, fun i => ?_, Or.inr ⟨tb, 0, rfl, (h.tags.lt tb rfl).2, fun i hi => ?_⟩⟩
  · have := tag_ok hok (G p kt) i
    simp [Df.Dfa.tagOk] at this
    omega
  · have e2 : tagF p (G p kt) i = tA p i := by
      unfold tA tagF; rw [getD_pre (G_le p (Nat.le_of_lt hi)) (hf.le i hi).1]
    rw [e2]
    have e := tcs_at p kt i hi
    obtain ⟨-, ⟨h1, _⟩ | ⟨g', cap', cur, hv, hg, hh, hn, hc, hs, ht⟩⟩ := h.tags
    · cases h1
    · cases hv
      have e1 : W.cell? ⟨tb, 0 + i, none⟩ = cur[i]? := by simp [World.cell?, hh]
      rw [← ht, List.getElem?_take_of_lt (by omega)] at e
      rw [e1]
      simpa using e
end Go.Proofs.Ytlmlkpdppkgenaa

namespace Go.Proofs.Ytlmlkpdppkgenaa
open Go.RowKit
open Go.Maps
open Cls Po Dm
open Df (rl rl_length rl_at rl_one size35)

theorem rl_mem (f : Nat → Int) : ∀ u ∈ rl f, u.oneCell' = true := by
  intro u hu
  simp only [rl, List.mem_map] at hu
  obtain ⟨j, _, rfl⟩ := hu
  rfl
theorem row_new2 (w : World) : (w.alloc (Obj.cells #[.slice none 0 0, .slice none 0 0] 30)).rowIs w.heap.size 30 2 (fun _ => .slice none 0 0) :=
  World.rowIs_alloc w #[.slice none 0 0, .slice none 0 0] 30 _ fun i hi => by
    have : i = 0 ∨ i = 1 := by simp at hi; omega
    rcases this with rfl | rfl <;> rfl
/-- How many rows the automaton has. -/
def rowsOf (gd : Nat) (W : World) : Nat := match W.cell? ⟨gd, 0, none⟩ with | some (.slice _ n _) => n | _ => 0
theorem Mm.rowsOf {w1 : World} {B g hb mb : Nat} {fo : Option Addr} {fc gd : Nat} {p : P} {ks kr kt sb sc : Nat} {D : DataW Unit} {rb rc tb tc : Nat} {W : World} (h : Mm w1 B g hb mb fo fc gd p ks kr kt sb sc D rb rc tb tc W) : rowsOf gd W = kr := by
  unfold Go.Proofs.Ytlmlkpdppkgenaa.rowsOf
  rw [h.bx.cell (i := 0) (by omega)]
  rfl
theorem own_row1 {W : World} {B : Nat} (hB : B ≤ W.heap.size) (p : P) (l : List Value) (hl : rl (rA p 0) = l) : (W.alloc (.cells l.toArray 72)).ownsRow B 72 256 (.slice (some ⟨W.heap.size, 0, none⟩) 1 1) 1 (rcs p 1) := by
  have h1 : rcs p 1 = l := by rw [rcs_succ, hl]; rfl
  have h2 : l.length = 256 := by rw [← hl]; exact rl_length _
  rw [h1]
  exact ⟨by rw [h2], Or.inr ⟨W.heap.size, 1, l.toArray, rfl, hB, heap_alloc_new W _, by first | omega | (unfold maxLen; omega), by first | omega | (unfold maxLen; omega), by simp [h2], by simp [List.take_of_length_le (Nat.le_of_eq h2)]⟩⟩
theorem own_tag1 {W : World} {B : Nat} (hB : B ≤ W.heap.size) (p : P) (tz : Int) (ht : tA p 0 = tz) : (W.alloc (.cells #[.int .i64 tz] 3)).ownsRow B 3 1 (.slice (some ⟨W.heap.size, 0, none⟩) 1 1) 1 (tcs p 1) := by
  have h1 : tcs p 1 = [.int .i64 tz] := by rw [tcs_succ, ht]; rfl
  rw [h1]
  exact ⟨rfl, Or.inr ⟨W.heap.size, 1, #[.int .i64 tz], rfl, hB, heap_alloc_new W _, by first | omega | (unfold maxLen; omega), by first | omega | (unfold maxLen; omega), rfl, rfl⟩⟩
/-- What Make leaves. -/
def MkP (p : P) (w : World) (e : Ending) (w' : World) : Prop :=
  ∃ k, Dm.End p k ∧ ((200 < (G p k).length ∧ e = .returned (.tuple #[.agg #[.slice none 0 0, .slice none 0 0], .int .i64 8])) ∨ ((G p k).length = k ∧ k ≤ 200 ∧ ∃ rb rc tb tc, e = .returned (.tuple #[.agg #[.slice (some ⟨rb, 0, none⟩) k rc, .slice (some ⟨tb, 0, none⟩) k tc], .int .i64 0]) ∧ Df.Rw w' (.slice (some ⟨rb, 0, none⟩) k rc) k (rowF p (G p k)) ∧ Df.Ts w' (.slice (some ⟨tb, 0, none⟩) k tc) k (tagF p (G p k)))) ∧ Below w.heap.size w w'
structure RM5 (w1 : World) (B g hb mb : Nat) (fo : Option Addr) (fc sb sc pb : Nat) (p : P) (c : Cl) (l : List Value) (tz : Int) (b2 b5 : Option Addr) (n2 k2 n5 k5 : Nat) (sb2 : Nat) (sc2 : Nat) (D2 : DataW Unit) (gr : Nat) (gt : Nat) (gd : Nat) (d : Nat → Bool) (x6 x16 x17 x18 x19 x20 x21 x22 x23 x24 x25 x26 : Value) (W : World) : Prop where
  f0 : d 0 = true → x16 = (.pointer (some ⟨g, 0, none⟩))
  f1 : d 1 = true → x17 = (.pointer (some ⟨pb, 2, none⟩))
  f2 : d 2 = true → x18 = (.slice b2 n2 k2)
  f3 : d 3 = true → x19 = (.agg #[.int .u64 (c.1.toNat : Int), .int .u64 (c.2.1.toNat : Int), .int .u64 (c.2.2.1.toNat : Int), .int .u64 (c.2.2.2.toNat : Int)])
  f4 : d 4 = true → x20 = (.agg l.toArray)
  f5 : d 5 = true → x21 = (.slice (some ⟨gr, 0, none⟩) 1 1)
  f6 : d 6 = true → x22 = (.pointer (some ⟨pb, 5, none⟩))
  f7 : d 7 = true → x23 = (.slice b5 n5 k5)
  f8 : d 8 = true → x24 = (.int .i64 tz)
  f9 : d 9 = true → x25 = (.slice (some ⟨gt, 0, none⟩) 1 1)
  f10 : d 10 = true → x26 = (.agg #[(.slice (some ⟨gr, 0, none⟩) 1 1), (.slice (some ⟨gt, 0, none⟩) 1 1)])
  f11 : d 11 = true → x6 = (.pointer (some ⟨gd, 0, none⟩))
  f12 : d 12 = true → True
  o4_3 : d 4 = true → d 3 = true
  o5_4 : d 5 = true → d 4 = true
  o10_5 : d 10 = true → d 5 = true
  o10_9 : d 10 = true → d 9 = true
  o12_10 : d 12 = true → d 10 = true
  o12_11 : d 12 = true → d 11 = true
  bl : Below B w1 W
  m0 : d 4 = false → Ma B g hb mb fo fc sb sc p [empty] (DataW.map (H := Unit) []) W
  m1 : d 4 = true → Ma B g hb mb fo fc sb2 sc2 p (G p 1) D2 W
  rw_ : d 5 = true → W.ownsRow B 72 256 (.slice (some ⟨gr, 0, none⟩) 1 1) 1 (rcs p 1)
  tg : d 9 = true → W.ownsRow B 3 1 (.slice (some ⟨gt, 0, none⟩) 1 1) 1 (tcs p 1)
  dz : d 11 = true → d 12 = false → W.rowIs gd 30 2 (fun _ => .slice none 0 0) ∧ B ≤ gd
  fin : d 12 = true → W.rowIs gd 30 2 (dv gr 1 1 gt 1 1) ∧ B ≤ gd
structure RM7 (w1 w7 : World) (B g hb mb : Nat) (fo : Option Addr) (fc gd : Nat) (p : P) (k sb sc : Nat) (D : DataW Unit) (rb rc tb tc : Nat) (c : Cl) (ga : Nat) (d : Nat → Bool) (x7 x44 x45 x46 x47 x48 x49 x50 x51 x52 : Value) (W : World) : Prop where
  f0 : d 0 = true → x44 = (.pointer (some ⟨g, 0, none⟩))
  f1 : d 1 = true → x45 = (.pointer (some ⟨g, 0, none⟩))
  f2 : d 2 = true → x46 = (.pointer (some ⟨g, 2, none⟩))
  f3 : d 3 = true → x47 = (.slice (some ⟨sb, 0, none⟩) (G p k).length sc)
  f4 : d 4 = true → x48 = (.pointer (some ⟨gd, 0, none⟩))
  f5 : d 5 = true → x49 = (.slice (some ⟨rb, 0, none⟩) k rc)
  f6 : d 6 = true → x50 = (.int .i64 (k : Int))
  f7 : d 7 = true → x51 = (.pointer (some ⟨sb, k * 4, none⟩))
  f8 : d 8 = true → x52 = (.agg #[.int .u64 (c.1.toNat : Int), .int .u64 (c.2.1.toNat : Int), .int .u64 (c.2.2.1.toNat : Int), .int .u64 (c.2.2.2.toNat : Int)])
  f9 : d 9 = true → x7 = (.pointer (some ⟨ga, 0, none⟩))
  f10 : d 10 = true → True
  o10_9 : d 10 = true → d 9 = true
  b7 : Below w7.heap.size w7 W
  al : d 9 = true → d 10 = false → w7.heap.size ≤ ga ∧ W.heap[ga]? = some (.cells #[.int .u64 (empty.1.toNat : Int), .int .u64 (empty.2.1.toNat : Int), .int .u64 (empty.2.2.1.toNat : Int), .int .u64 (empty.2.2.2.toNat : Int)] 74)
  fin : d 10 = true → w7.heap.size ≤ ga ∧ W.heap[ga]? = some (.cells #[.int .u64 (c.1.toNat : Int), .int .u64 (c.2.1.toNat : Int), .int .u64 (c.2.2.1.toNat : Int), .int .u64 (c.2.2.2.toNat : Int)] 74)
structure RM8 (w1 w8 : World) (B g hb mb : Nat) (fo : Option Addr) (fc gd : Nat) (p : P) (k sb sc : Nat) (D : DataW Unit) (rb rc tb tc ga : Nat) (c bc : Cl) (l : List Value) (sb2 : Nat) (sc2 : Nat) (D2 : DataW Unit) (gb : Nat) (gr : Nat) (cr : Nat) (d : Nat → Bool) (x53 x54 x55 x56 x57 x58 x59 x60 x61 x62 : Value) (W : World) : Prop where
  f0 : d 0 = true → x53 = (.pointer (some ⟨gd, 0, none⟩))
  f1 : d 1 = true → x54 = (.slice (some ⟨rb, 0, none⟩) k rc)
  f2 : d 2 = true → x55 = (.pointer (some ⟨g, 0, none⟩))
  f3 : d 3 = true → x56 = (.pointer (some ⟨g, 0, none⟩))
  f4 : d 4 = true → x57 = (.agg #[.int .u64 (c.1.toNat : Int), .int .u64 (c.2.1.toNat : Int), .int .u64 (c.2.2.1.toNat : Int), .int .u64 (c.2.2.2.toNat : Int)])
  f5 : d 5 = true → x58 = (.agg #[.int .u64 (bc.1.toNat : Int), .int .u64 (bc.2.1.toNat : Int), .int .u64 (bc.2.2.1.toNat : Int), .int .u64 (bc.2.2.2.toNat : Int)])
  f6 : d 6 = true → x59 = (.agg l.toArray)
  f7 : d 7 = true → x60 = (.slice (some ⟨gb, 0, none⟩) 1 1)
  f8 : d 8 = true → x61 = (.slice (some ⟨gr, 0, none⟩) (k + 1) cr)
  f9 : d 9 = true → x62 = (.pointer (some ⟨gd, 0, none⟩))
  f10 : d 10 = true → True
  o6_5 : d 6 = true → d 5 = true
  o7_6 : d 7 = true → d 6 = true
  o8_1 : d 8 = true → d 1 = true
  o8_7 : d 8 = true → d 7 = true
  o8_6 : d 8 = true → d 6 = true
  q10_8 : d 10 = true → d 8 = true
  ab : W.heap[ga]? = some (.cells #[.int .u64 (c.1.toNat : Int), .int .u64 (c.2.1.toNat : Int), .int .u64 (c.2.2.1.toNat : Int), .int .u64 (c.2.2.2.toNat : Int)] 74)
  bx : d 8 = false → W.rowIs gd 30 2 (dv rb rc k tb tc k)
  m0 : d 6 = false → Mm w1 B g hb mb fo fc gd p k k k sb sc D rb rc tb tc W
  m1 : d 6 = true → d 8 = false → Mm w1 B g hb mb fo fc gd p (k + 1) k k sb2 sc2 D2 rb rc tb tc W
  bs : d 7 = true → d 8 = false → ∀ j u, l[j]? = some u → W.cell? ⟨gb, j, none⟩ = some u
  th : d 8 = true → d 10 = false → W.rowIs gd 30 2 (dv rb rc k tb tc k) ∧ Mm w1 B g hb mb fo fc gd p (k + 1) (k + 1) k sb2 sc2 D2 gr cr tb tc (W.setCell ⟨gd, 0, none⟩ (.slice (some ⟨gr, 0, none⟩) (k + 1) cr))
  fin : d 10 = true → Mm w1 B g hb mb fo fc gd p (k + 1) (k + 1) k sb2 sc2 D2 gr cr tb tc W
structure RM9 (w1 : World) (B g hb mb : Nat) (fo : Option Addr) (fc gd : Nat) (p : P) (k sb sc : Nat) (D : DataW Unit) (rb rc tb tc ga : Nat) (c : Cl) (tz : Int) (pb : Nat) (b0 b1 b2 b3 b4 b5 : Option Addr) (n0 n1 n2 n3 n4 n5 k0 k1 k2 k3 k4 k5 : Nat) (gb : Nat) (gr : Nat) (cr : Nat) (d : Nat → Bool) (x63 x64 x65 x66 x67 x68 x69 x70 : Value) (W : World) : Prop where
  f0 : d 0 = true → x63 = (.pointer (some ⟨gd, 1, none⟩))
  f1 : d 1 = true → x64 = (.slice (some ⟨tb, 0, none⟩) k tc)
  f2 : d 2 = true → x65 = (.agg #[.slice b0 n0 k0, .slice b1 n1 k1, .slice b2 n2 k2, .slice b3 n3 k3, .slice b4 n4 k4, .slice b5 n5 k5])
  f3 : d 3 = true → x66 = (.agg #[.int .u64 (c.1.toNat : Int), .int .u64 (c.2.1.toNat : Int), .int .u64 (c.2.2.1.toNat : Int), .int .u64 (c.2.2.2.toNat : Int)])
  f4 : d 4 = true → x67 = (.int .i64 tz)
  f5 : d 5 = true → x68 = (.slice (some ⟨gb, 0, none⟩) 1 1)
  f6 : d 6 = true → x69 = (.slice (some ⟨gr, 0, none⟩) (k + 1) cr)
  f7 : d 7 = true → x70 = (.pointer (some ⟨gd, 1, none⟩))
  f8 : d 8 = true → True
  o4_3 : d 4 = true → d 3 = true
  o5_4 : d 5 = true → d 4 = true
  o6_1 : d 6 = true → d 1 = true
  o6_5 : d 6 = true → d 5 = true
  q8_6 : d 8 = true → d 6 = true
  bl : Below B w1 W
  ab : d 4 = false → W.heap[ga]? = some (.cells #[.int .u64 (c.1.toNat : Int), .int .u64 (c.2.1.toNat : Int), .int .u64 (c.2.2.1.toNat : Int), .int .u64 (c.2.2.2.toNat : Int)] 74)
  m0 : d 6 = false → Mm w1 B g hb mb fo fc gd p (k + 1) (k + 1) k sb sc D rb rc tb tc W
  bs : d 5 = true → d 6 = false → ∀ j u, ([.int .i64 tz] : List Value)[j]? = some u → W.cell? ⟨gb, j, none⟩ = some u
  th : d 6 = true → d 8 = false → W.rowIs gd 30 2 (dv rb rc (k + 1) tb tc k) ∧ Mm w1 B g hb mb fo fc gd p (k + 1) (k + 1) (k + 1) sb sc D rb rc gr cr (W.setCell ⟨gd, 1, none⟩ (.slice (some ⟨gr, 0, none⟩) (k + 1) cr))
  fin : d 8 = true → Mm w1 B g hb mb fo fc gd p (k + 1) (k + 1) (k + 1) sb sc D rb rc gr cr W

set_option maxHeartbeats 16000000 in
set_option maxRecDepth 20000 in
theorem DMake_ok (v0 v1 v2 v3 v4 v5 : Value) (p : P) (w : World) (hp : Pn w v0 v1 v2 v3 v4 v5 p) (hck : chk p = 0) :
    Calls Try.prog 9 #[.agg #[v0, v1, v2, v3, v4, v5]] w fun e w' => MkP p w e w' := by
  have HOK : Hid (ok p = true ∧ p.cls.length ≤ 200) := chk_zero hck
  obtain ⟨-, hfl, -, -, -, -, hfi, -⟩ := (ok_iff p).1 HOK.out.1
  have HFL : Hid (p.follow.length ≤ 200) := by show _ ≤ _; rw [hfl]; exact HOK.out.2
  have HFI : Hid (∀ x ∈ p.first, 0 ≤ x ∧ x < 256) := first_in hfi HOK.out.2
  obtain ⟨i72, a1, a2, a3, a4⟩ := info_parts info72
  have H72 : Hid (Try.prog.info? 72 = some i72 ∧ i72.zero = some (.agg (Array.replicate 256 (.int .i16 0))) ∧ i72.size = 256 ∧ i72.bytes = 512) := ⟨a1, a2, a3, a4⟩
  have HSZ2 : Hid ((Value.agg (Array.replicate 256 (Value.int .i16 0))).cells.size = 256) := by show _ = _; simp [Value.cells]
  clear a1 a2 a3 a4
  obtain ⟨i3, a1, a2, a3, a4⟩ := info_parts iinfo3
  have H3 : Hid (Try.prog.info? 3 = some i3 ∧ i3.zero = some (.int .i64 0) ∧ i3.size = 1 ∧ i3.bytes = 8) := ⟨a1, a2, a3, a4⟩
  clear a1 a2 a3 a4 hfl hfi
  obtain ⟨b0, k0, rfl, m0, -⟩ := hp.cls
  obtain ⟨b1, k1, rfl, m1, -⟩ := hp.rules
  obtain ⟨b2, k2, rfl, m2, -⟩ := hp.first
  obtain ⟨b3, k3, rfl, m3, -⟩ := hp.follow
  obtain ⟨b4, k4, rfl, m4, -⟩ := hp.last
  obtain ⟨b5, k5, rfl, m5, -⟩ := hp.empty
  have HP : Hid (Pn w (.slice b0 p.cls.length k0) (.slice b1 p.rules.length k1) (.slice b2 p.first.length k2) (.slice b3 p.follow.length k3) (.slice b4 p.last.length k4) (.slice b5 p.empty.length k5) p) := hp
  clear hp
  obtain ⟨n0, HN0⟩ : ∃ q, Hid (p.cls.length = q) := ⟨_, (rfl : _ = _)⟩
  obtain ⟨n1, HN1⟩ : ∃ q, Hid (p.rules.length = q) := ⟨_, (rfl : _ = _)⟩
  obtain ⟨n2, HN2⟩ : ∃ q, Hid (p.first.length = q) := ⟨_, (rfl : _ = _)⟩
  obtain ⟨n3, HN3⟩ : ∃ q, Hid (p.follow.length = q) := ⟨_, (rfl : _ = _)⟩
  obtain ⟨n4, HN4⟩ : ∃ q, Hid (p.last.length = q) := ⟨_, (rfl : _ = _)⟩
  obtain ⟨n5, HN5⟩ : ∃ q, Hid (p.empty.length = q) := ⟨_, (rfl : _ = _)⟩
  rw [HN0.out, HN1.out, HN2.out, HN3.out, HN4.out, HN5.out] at HP
  rw [HN0.out, HN1.out, HN2.out, HN3.out, HN4.out, HN5.out]
  clear m0 m1 m2 m3 m4 m5
  obtain ⟨w0, HW0⟩ : ∃ z, Hid (((w.alloc (Obj.cells #[.slice b0 n0 k0, .slice b1 n1 k1, .slice b2 n2 k2, .slice b3 n3 k3, .slice b4 n4 k4, .slice b5 n5 k5] 27)).alloc (Obj.cells #[.slice none 0 0, .slice none 0 0] 30)) = z) := ⟨_, (rfl : _ = _)⟩
  have HB0 : Hid (Below w.heap.size w w0 ∧ w0.rowIs (w.heap.size + 1) 30 2 (fun _ => .slice none 0 0) ∧ (w0.cell? ⟨w.heap.size, 0, none⟩ = some (.slice b0 n0 k0) ∧ w0.cell? ⟨w.heap.size, 1, none⟩ = some (.slice b1 n1 k1) ∧ w0.cell? ⟨w.heap.size, 2, none⟩ = some (.slice b2 n2 k2) ∧ w0.cell? ⟨w.heap.size, 3, none⟩ = some (.slice b3 n3 k3) ∧ w0.cell? ⟨w.heap.size, 4, none⟩ = some (.slice b4 n4 k4) ∧ w0.cell? ⟨w.heap.size, 5, none⟩ = some (.slice b5 n5 k5))) := by
    rw [← HW0.out]
    have h2 := row_new2 (w.alloc (Obj.cells #[.slice b0 n0 k0, .slice b1 n1 k1, .slice b2 n2 k2, .slice b3 n3 k3, .slice b4 n4 k4, .slice b5 n5 k5] 27))
    rw [show (w.alloc (Obj.cells #[.slice b0 n0 k0, .slice b1 n1 k1, .slice b2 n2 k2, .slice b3 n3 k3, .slice b4 n4 k4, .slice b5 n5 k5] 27)).heap.size = w.heap.size + 1 by simp] at h2
    exact ⟨((Below.refl _ _).alloc (Nat.le_refl _) _).alloc (by simp) _, h2, Go.Lib.cell?_alloc_some _ (by simp), Go.Lib.cell?_alloc_some _ (by simp), Go.Lib.cell?_alloc_some _ (by simp), Go.Lib.cell?_alloc_some _ (by simp), Go.Lib.cell?_alloc_some _ (by simp), Go.Lib.cell?_alloc_some _ (by simp)⟩
  have hchk := Check_any _ _ _ _ _ _ p w0 (HP.out.below HB0.out.1)
  rw [hck] at hchk
  obtain ⟨y0, y1, y2, y3, y4, y5⟩ := HB0.out.2.2
  clear hck
  go_enter Try.func9, Try.ntmps9
  go_upto_region 1 with fail
  rw [HW0.out]
  go_wp2_with fail
  clear y0 y1 y2 y3 y4 y5 HW0
  refine hchk.mono ?_
  rintro _ w1 ⟨rfl, hb1⟩
  have hl0 : w.heap.size + 1 < w0.heap.size := HB0.out.2.1.lt
  have HPC : Hid (w1.cell? ⟨w.heap.size, 0, none⟩ = some (.slice b0 n0 k0) ∧ w1.cell? ⟨w.heap.size, 1, none⟩ = some (.slice b1 n1 k1) ∧ w1.cell? ⟨w.heap.size, 2, none⟩ = some (.slice b2 n2 k2) ∧ w1.cell? ⟨w.heap.size, 3, none⟩ = some (.slice b3 n3 k3) ∧ w1.cell? ⟨w.heap.size, 4, none⟩ = some (.slice b4 n4 k4) ∧ w1.cell? ⟨w.heap.size, 5, none⟩ = some (.slice b5 n5 k5)) := by
    obtain ⟨y0, y1, y2, y3, y4, y5⟩ := HB0.out.2.2
    exact ⟨(hb1.cell (by simp; omega)).trans y0, (hb1.cell (by simp; omega)).trans y1, (hb1.cell (by simp; omega)).trans y2, (hb1.cell (by simp; omega)).trans y3, (hb1.cell (by simp; omega)).trans y4, (hb1.cell (by simp; omega)).trans y5⟩
  have HBW : Hid (Below w.heap.size w w1 ∧ w1.rowIs (w.heap.size + 1) 30 2 (fun _ => .slice none 0 0)) := ⟨HB0.out.1.trans (hb1.mono HB0.out.1.size), HB0.out.2.1.of_block (hb1.block _ HB0.out.2.1.lt)⟩
  have HP1 : Hid (Pn w1 (.slice b0 n0 k0) (.slice b1 n1 k1) (.slice b2 n2 k2) (.slice b3 n3 k3) (.slice b4 n4 k4) (.slice b5 n5 k5) p) := HP.out.below HBW.out.1
  have hnm := newMaker_any _ _ _ _ _ _ p w1 HP1.out HOK.out.1 HOK.out.2
  clear hchk hb1 HB0 hl0
  obtain ⟨y0, y1, y2, y3, y4, y5⟩ := HPC.out
  go_wp2_with fail
  clear y0 y1 y2 y3 y4 y5
  refine hnm.mono ?_
  rintro _ w2 ⟨g, hb, mb, fo, fc, sb, sc, rfl, hma, hbl2⟩
  clear hnm
  obtain ⟨B, HBB⟩ : ∃ z, Hid (w1.heap.size = z) := ⟨_, (rfl : _ = _)⟩
  rw [HBB.out] at hma hbl2
  have HMA : Hid (Ma B g hb mb fo fc sb sc p [empty] (DataW.map (H := Unit) []) w2) := hma
  have HBL2 : Hid (Below B w1 w2) := hbl2
  obtain ⟨pb, HPBE⟩ : ∃ z, Hid (w.heap.size = z) := ⟨_, (rfl : _ = _)⟩
  obtain ⟨rs, HRSE⟩ : ∃ z, Hid (w.heap.size + 1 = z) := ⟨_, (rfl : _ = _)⟩
  have HPB : Hid (pb < B ∧ w1.cell? ⟨pb, 2, none⟩ = some (.slice b2 n2 k2) ∧ w1.cell? ⟨pb, 5, none⟩ = some (.slice b5 n5 k5)) := by
    rw [← HPBE.out, ← HBB.out]
    exact ⟨by have := HBW.out.2.lt; omega, HPC.out.2.2.1, HPC.out.2.2.2.2.2⟩
  have HRS : Hid (w1.rowIs rs 30 2 (fun _ => .slice none 0 0) ∧ rs < B) := by
    rw [← HRSE.out, ← HBB.out]
    exact ⟨HBW.out.2, HBW.out.2.lt⟩
  rw [HPBE.out] at HPC
  rw [HRSE.out]
  rw [HPBE.out]
  obtain ⟨c, HC0⟩ : ∃ z, Hid (stOf p.first = z) := ⟨_, (rfl : _ = _)⟩
  have HSO : Hid (∀ W, Below B w1 W → Calls Try.prog 27 #[.slice b2 n2 k2] W fun e w' => e = .returned (.agg #[.int .u64 (c.1.toNat : Int), .int .u64 (c.2.1.toNat : Int), .int .u64 (c.2.2.1.toNat : Int), .int .u64 (c.2.2.2.toNat : Int)]) ∧ Below W.heap.size W w') := fun W hW => by
    have := setOf_any _ p.first W (HP1.out.first.below (by rw [HBB.out]; exact hW)) HFI.out
    rwa [HC0.out] at this
  have HG1 : Hid (∀ sb sc D W, Ma B g hb mb fo fc sb sc p (grow (hv p) [empty] c 256) D W → Ma B g hb mb fo fc sb sc p (G p 1) D W) := fun _ _ _ _ h => by
    have e : G p 1 = grow (hv p) [empty] c 256 := by rw [← HC0.out]; rfl
    rw [e]; exact h
  have HRO : Hid (∀ W, Ma B g hb mb fo fc sb sc p [empty] (DataW.map (H := Unit) []) W → Calls Try.prog 26 #[.pointer (some ⟨g, 0, none⟩), .agg #[.int .u64 (c.1.toNat : Int), .int .u64 (c.2.1.toNat : Int), .int .u64 (c.2.2.1.toNat : Int), .int .u64 (c.2.2.2.toNat : Int)]] W fun e w' => e = .returned (.agg (rl (rA p 0)).toArray) ∧ RowP B g hb mb fo fc sb p [empty] c W w') := fun W hW => by
    have := row_any B g hb mb fo fc sb sc p [empty] _ c W hW (by simp) (by simp)
    have e : (rl fun b => num (grow (hv p) [empty] c 256) (meet c (hv p b))) = rl (rA p 0) := by
      congr 1
      funext b
      rw [← HC0.out]; rfl
    rwa [e] at this
  have hlen := rl_length (rA p 0)
  obtain ⟨l, HLL0⟩ : ∃ l, Hid (rl (rA p 0) = l) := ⟨_, (rfl : _ = _)⟩
  rw [HLL0.out] at HRO hlen
  have HLL : Hid (rl (rA p 0) = l ∧ l.length = 256) := ⟨HLL0.out, hlen⟩
  have HOR : Hid (∀ W, Below B w1 W → (W.alloc (.cells l.toArray 72)).ownsRow B 72 256 (.slice (some ⟨W.heap.size, 0, none⟩) 1 1) 1 (rcs p 1)) := fun W hW => own_row1 (by have := hW.size; have := HBB.out; omega) p l HLL.out.1
  obtain ⟨tz, HT0⟩ : ∃ z, Hid (tA p 0 = z) := ⟨_, (rfl : _ = _)⟩
  have HIX : Hid (∀ W, Below B w1 W → Calls Try.prog 28 #[.slice b5 n5 k5, .bool true] W fun e w' => e = .returned (.int .i64 tz) ∧ Below W.heap.size W w') := fun W hW => by
    have := indexB_any _ p.empty W (HP1.out.empty.below (by rw [HBB.out]; exact hW))
    rw [← HT0.out]; exact this
  have HOT : Hid (∀ W, Below B w1 W → (W.alloc (.cells #[.int .i64 tz] 3)).ownsRow B 3 1 (.slice (some ⟨W.heap.size, 0, none⟩) 1 1) 1 (tcs p 1)) := fun W hW => own_tag1 (by have := hW.size; have := HBB.out; omega) p tz HT0.out
  have HGE : Hid (∀ W, Below B w1 W → B ≤ W.heap.size) := fun W hW => by have := hW.size; have := HBB.out; omega
  clear hlen HLL0 hma hbl2 HC0 HT0
  go_upto_region 5 with fail
  refine wp_region_free mixed (fun a0 d a W => ∃ (sb2 : Nat) (sc2 : Nat) (D2 : DataW Unit) (gr : Nat) (gt : Nat) (gd : Nat) (x6 x16 x17 x18 x19 x20 x21 x22 x23 x24 x25 x26 : Value), a = ((((((((((((a0.put (some 6) x6).put (some 16) x16).put (some 17) x17).put (some 18) x18).put (some 19) x19).put (some 20) x20).put (some 21) x21).put (some 22) x22).put (some 23) x23).put (some 24) x24).put (some 25) x25).put (some 26) x26) ∧ Hid (RM5 w1 B g hb mb fo fc sb sc pb p c l tz b2 b5 n2 k2 n5 k5 sb2 sc2 D2 gr gt gd d x6 x16 x17 x18 x19 x20 x21 x22 x23 x24 x25 x26 W)) (by kernel_rfl) ⟨0, 0, .map [], 0, 0, 0, undef, undef, undef, undef, undef, undef, undef, undef, undef, undef, undef, undef, by simp only [Act.put, List.setIfInBounds_toArray, List.set_cons_zero, List.set_cons_succ], ?_⟩ ?_ ?_
  · exact ⟨fun h => no_way h, fun h => no_way h, fun h => no_way h, fun h => no_way h, fun h => no_way h, fun h => no_way h, fun h => no_way h, fun h => no_way h, fun h => no_way h, fun h => no_way h, fun h => no_way h, fun h => no_way h, fun _ => trivial, fun h => no_way h, fun h => no_way h, fun h => no_way h, fun h => no_way h, fun h => no_way h, fun h => no_way h, HBL2.out.drew, fun _ => HMA.out.drew, fun h => no_way h, fun h => no_way h, fun h => no_way h, fun h => no_way h, fun h => no_way h⟩
  · simp only [StepAll, and_true]
    refine ⟨?_, ?_, ?_, ?_, ?_, ?_, ?_, ?_, ?_, ?_, ?_, ?_, ?_⟩
    · intro d a W hI hd hdep
      obtain ⟨sb2, sc2, D2, gr, gt, gd, x6, x16, x17, x18, x19, x20, x21, x22, x23, x24, x25, x26, rfl, hF⟩ := hI
      clear hdep hd
      intro K hK
      simp only [Act.put, List.setIfInBounds_toArray, List.set_cons_zero, List.set_cons_succ]
      go_simp
      refine hK.out _ _ ⟨sb2, sc2, D2, gr, gt, gd, x6, (.pointer (some ⟨g, 0, none⟩)), x17, x18, x19, x20, x21, x22, x23, x24, x25, x26, by simp only [Act.put, List.setIfInBounds_toArray, List.set_cons_zero, List.set_cons_succ], ?_⟩
      exact ⟨fun _ => rfl, fun h => hF.out.f1 (by simpa using h), fun h => hF.out.f2 (by simpa using h), fun h => hF.out.f3 (by simpa using h), fun h => hF.out.f4 (by simpa using h), fun h => hF.out.f5 (by simpa using h), fun h => hF.out.f6 (by simpa using h), fun h => hF.out.f7 (by simpa using h), fun h => hF.out.f8 (by simpa using h), fun h => hF.out.f9 (by simpa using h), fun h => hF.out.f10 (by simpa using h), fun h => hF.out.f11 (by simpa using h), fun h => hF.out.f12 (by simpa using h), fun h => by have := hF.out.o4_3 (by simpa using h); simpa using this, fun h => by have := hF.out.o5_4 (by simpa using h); simpa using this, fun h => by have := hF.out.o10_5 (by simpa using h); simpa using this, fun h => by have := hF.out.o10_9 (by simpa using h); simpa using this, fun h => by have := hF.out.o12_10 (by simpa using h); simpa using this, fun h => by have := hF.out.o12_11 (by simpa using h); simpa using this, hF.out.bl, fun h => hF.out.m0 (by simpa using h), fun h => hF.out.m1 (by simpa using h), fun h => hF.out.rw_ (by simpa using h), fun h => hF.out.tg (by simpa using h), fun h h2 => hF.out.dz (by simpa using h) (by simpa using h2), fun h => hF.out.fin (by simpa using h)⟩
    · intro d a W hI hd hdep
      obtain ⟨sb2, sc2, D2, gr, gt, gd, x6, x16, x17, x18, x19, x20, x21, x22, x23, x24, x25, x26, rfl, hF⟩ := hI
      clear hdep hd
      intro K hK
      simp only [Act.put, List.setIfInBounds_toArray, List.set_cons_zero, List.set_cons_succ]
      go_simp
      refine hK.out _ _ ⟨sb2, sc2, D2, gr, gt, gd, x6, x16, (.pointer (some ⟨pb, 2, none⟩)), x18, x19, x20, x21, x22, x23, x24, x25, x26, by simp only [Act.put, List.setIfInBounds_toArray, List.set_cons_zero, List.set_cons_succ], ?_⟩
      exact ⟨fun h => hF.out.f0 (by simpa using h), fun _ => rfl, fun h => hF.out.f2 (by simpa using h), fun h => hF.out.f3 (by simpa using h), fun h => hF.out.f4 (by simpa using h), fun h => hF.out.f5 (by simpa using h), fun h => hF.out.f6 (by simpa using h), fun h => hF.out.f7 (by simpa using h), fun h => hF.out.f8 (by simpa using h), fun h => hF.out.f9 (by simpa using h), fun h => hF.out.f10 (by simpa using h), fun h => hF.out.f11 (by simpa using h), fun h => hF.out.f12 (by simpa using h), fun h => by have := hF.out.o4_3 (by simpa using h); simpa using this, fun h => by have := hF.out.o5_4 (by simpa using h); simpa using this, fun h => by have := hF.out.o10_5 (by simpa using h); simpa using this, fun h => by have := hF.out.o10_9 (by simpa using h); simpa using this, fun h => by have := hF.out.o12_10 (by simpa using h); simpa using this, fun h => by have := hF.out.o12_11 (by simpa using h); simpa using this, hF.out.bl, fun h => hF.out.m0 (by simpa using h), fun h => hF.out.m1 (by simpa using h), fun h => hF.out.rw_ (by simpa using h), fun h => hF.out.tg (by simpa using h), fun h h2 => hF.out.dz (by simpa using h) (by simpa using h2), fun h => hF.out.fin (by simpa using h)⟩
    · intro d a W hI hd hdep
      obtain ⟨sb2, sc2, D2, gr, gt, gd, x6, x16, x17, x18, x19, x20, x21, x22, x23, x24, x25, x26, rfl, hF⟩ := hI
      have hd1 : d 1 = true := dep_of hdep 1 (by kernel_rfl)
      obtain rfl := hF.out.f1 hd1
      have ya := (hF.out.bl.cell (p := ⟨pb, 2, none⟩) HPB.out.1).trans HPB.out.2.1
      clear hdep hd hd1
      intro K hK
      simp only [Act.put, List.setIfInBounds_toArray, List.set_cons_zero, List.set_cons_succ]
      go_simp
      refine hK.out _ _ ⟨sb2, sc2, D2, gr, gt, gd, x6, x16, (.pointer (some ⟨pb, 2, none⟩)), (.slice b2 n2 k2), x19, x20, x21, x22, x23, x24, x25, x26, by simp only [Act.put, List.setIfInBounds_toArray, List.set_cons_zero, List.set_cons_succ], ?_⟩
      exact ⟨fun h => hF.out.f0 (by simpa using h), fun h => hF.out.f1 (by simpa using h), fun _ => rfl, fun h => hF.out.f3 (by simpa using h), fun h => hF.out.f4 (by simpa using h), fun h => hF.out.f5 (by simpa using h), fun h => hF.out.f6 (by simpa using h), fun h => hF.out.f7 (by simpa using h), fun h => hF.out.f8 (by simpa using h), fun h => hF.out.f9 (by simpa using h), fun h => hF.out.f10 (by simpa using h), fun h => hF.out.f11 (by simpa using h), fun h => hF.out.f12 (by simpa using h), fun h => by have := hF.out.o4_3 (by simpa using h); simpa using this, fun h => by have := hF.out.o5_4 (by simpa using h); simpa using this, fun h => by have := hF.out.o10_5 (by simpa using h); simpa using this, fun h => by have := hF.out.o10_9 (by simpa using h); simpa using this, fun h => by have := hF.out.o12_10 (by simpa using h); simpa using this, fun h => by have := hF.out.o12_11 (by simpa using h); simpa using this, hF.out.bl, fun h => hF.out.m0 (by simpa using h), fun h => hF.out.m1 (by simpa using h), fun h => hF.out.rw_ (by simpa using h), fun h => hF.out.tg (by simpa using h), fun h h2 => hF.out.dz (by simpa using h) (by simpa using h2), fun h => hF.out.fin (by simpa using h)⟩
    · intro d a W hI hd hdep
      obtain ⟨sb2, sc2, D2, gr, gt, gd, x6, x16, x17, x18, x19, x20, x21, x22, x23, x24, x25, x26, rfl, hF⟩ := hI
      have hd2 : d 2 = true := dep_of hdep 2 (by kernel_rfl)
      obtain rfl := hF.out.f2 hd2
      have HN4 : Hid (d 4 = false) := no_later hF.out.o4_3 hd
      have hcl := HSO.out W hF.out.bl
      clear hdep hd hd2
      intro K hK
      simp only [Act.put, List.setIfInBounds_toArray, List.set_cons_zero, List.set_cons_succ]
      go_simp
      refine hcl.mono ?_
      rintro _ W1 ⟨rfl, hb1⟩
      clear hcl
      go_simp
      refine hK.out _ _ ⟨sb2, sc2, D2, gr, gt, gd, x6, x16, x17, (.slice b2 n2 k2), (.agg #[.int .u64 (c.1.toNat : Int), .int .u64 (c.2.1.toNat : Int), .int .u64 (c.2.2.1.toNat : Int), .int .u64 (c.2.2.2.toNat : Int)]), x20, x21, x22, x23, x24, x25, x26, by simp only [Act.put, List.setIfInBounds_toArray, List.set_cons_zero, List.set_cons_succ], ?_⟩
      exact ⟨fun h => hF.out.f0 (by simpa using h), fun h => hF.out.f1 (by simpa using h), fun h => hF.out.f2 (by simpa using h), fun _ => rfl, fun h => hF.out.f4 (by simpa using h), fun h => hF.out.f5 (by simpa using h), fun h => hF.out.f6 (by simpa using h), fun h => hF.out.f7 (by simpa using h), fun h => hF.out.f8 (by simpa using h), fun h => hF.out.f9 (by simpa using h), fun h => hF.out.f10 (by simpa using h), fun h => hF.out.f11 (by simpa using h), fun h => hF.out.f12 (by simpa using h), fun _ => by simp, fun h => by have := hF.out.o5_4 (by simpa using h); simpa using this, fun h => by have := hF.out.o10_5 (by simpa using h); simpa using this, fun h => by have := hF.out.o10_9 (by simpa using h); simpa using this, fun h => by have := hF.out.o12_10 (by simpa using h); simpa using this, fun h => by have := hF.out.o12_11 (by simpa using h); simpa using this, hF.out.bl.trans (hb1.mono (HGE.out W hF.out.bl)), fun h => (hF.out.m0 (by simpa using h)).next hb1, fun h => by have := HN4.out; simp [this] at h, fun h => own_below (hF.out.rw_ (by simpa using h)) hb1, fun h => own_below (hF.out.tg (by simpa using h)) hb1, fun h h2 => ⟨(hF.out.dz (by simpa using h) (by simpa using h2)).1.of_block (hb1.block _ (hF.out.dz (by simpa using h) (by simpa using h2)).1.lt), (hF.out.dz (by simpa using h) (by simpa using h2)).2⟩, fun h => ⟨(hF.out.fin (by simpa using h)).1.of_block (hb1.block _ (hF.out.fin (by simpa using h)).1.lt), (hF.out.fin (by simpa using h)).2⟩⟩
    · intro d a W hI hd hdep
      obtain ⟨sb2, sc2, D2, gr, gt, gd, x6, x16, x17, x18, x19, x20, x21, x22, x23, x24, x25, x26, rfl, hF⟩ := hI
      have hd0 : d 0 = true := dep_of hdep 0 (by kernel_rfl)
      have hd3 : d 3 = true := dep_of hdep 3 (by kernel_rfl)
      obtain rfl := hF.out.f0 hd0
      obtain rfl := hF.out.f3 hd3
      have e4_3 := hd3
      have HN5 : Hid (d 5 = false) := no_later hF.out.o5_4 hd
      have HN10 : Hid (d 10 = false) := no_later hF.out.o10_5 HN5.out
      have HN12 : Hid (d 12 = false) := no_later hF.out.o12_10 HN10.out
      have hm0 := hF.out.m0 hd
      have hcl := HRO.out W hm0
      clear hdep hd hd0 hd3
      intro K hK
      simp only [Act.put, List.setIfInBounds_toArray, List.set_cons_zero, List.set_cons_succ]
      go_simp
      refine hcl.mono ?_
      rintro _ W1 ⟨rfl, hp1⟩
      obtain ⟨sb3, sc3, D3, g1, g2, g3⟩ := hp1
      clear hcl
      go_simp
      refine hK.out _ _ ⟨sb3, sc3, D3, gr, gt, gd, x6, (.pointer (some ⟨g, 0, none⟩)), x17, x18, (.agg #[.int .u64 (c.1.toNat : Int), .int .u64 (c.2.1.toNat : Int), .int .u64 (c.2.2.1.toNat : Int), .int .u64 (c.2.2.2.toNat : Int)]), (.agg l.toArray), x21, x22, x23, x24, x25, x26, by simp only [Act.put, List.setIfInBounds_toArray, List.set_cons_zero, List.set_cons_succ], ?_⟩
      exact ⟨fun h => hF.out.f0 (by simpa using h), fun h => hF.out.f1 (by simpa using h), fun h => hF.out.f2 (by simpa using h), fun h => hF.out.f3 (by simpa using h), fun _ => rfl, fun h => hF.out.f5 (by simpa using h), fun h => hF.out.f6 (by simpa using h), fun h => hF.out.f7 (by simpa using h), fun h => hF.out.f8 (by simpa using h), fun h => hF.out.f9 (by simpa using h), fun h => hF.out.f10 (by simpa using h), fun h => hF.out.f11 (by simpa using h), fun h => hF.out.f12 (by simpa using h), fun _ => by simpa using e4_3, fun _ => by simp, fun h => by have := hF.out.o10_5 (by simpa using h); simpa using this, fun h => by have := hF.out.o10_9 (by simpa using h); simpa using this, fun h => by have := hF.out.o12_10 (by simpa using h); simpa using this, fun h => by have := hF.out.o12_11 (by simpa using h); simpa using this, fm_below g2 hm0 hF.out.bl, fun h => by simp at h, fun _ => HG1.out _ _ _ _ g1, fun h => by have := HN5.out; simp [this] at h, fun h => fm_own g2 hm0 (hF.out.tg (by simpa using h)) (by decide) (by decide), fun h h2 => ⟨fm_row g2 hm0 (hF.out.dz (by simpa using h) (by simpa using h2)).1 (by decide) (by decide), (hF.out.dz (by simpa using h) (by simpa using h2)).2⟩, fun h => by have := HN12.out; simp [this] at h⟩
    · intro d a W hI hd hdep
      obtain ⟨sb2, sc2, D2, gr, gt, gd, x6, x16, x17, x18, x19, x20, x21, x22, x23, x24, x25, x26, rfl, hF⟩ := hI
      have hd4 : d 4 = true := dep_of hdep 4 (by kernel_rfl)
      obtain rfl := hF.out.f4 hd4
      have e5_4 := hd4
      have HN10 : Hid (d 10 = false) := no_later hF.out.o10_5 hd
      have HN12 : Hid (d 12 = false) := no_later hF.out.o12_10 HN10.out
      have B1 := (Below.refl W.heap.size W).alloc (Nat.le_refl _) (Obj.cells l.toArray 72)
      clear hdep hd hd4
      intro K hK
      refine step_buildRow (by rfl) _ (by rfl) l HLL.out.2 (by simp only [Act.put, List.setIfInBounds_toArray, List.set_cons_zero, List.set_cons_succ]; rfl) ?_
      simp only [Act.put, List.setIfInBounds_toArray, List.set_cons_zero, List.set_cons_succ]
      refine hK.out _ _ ⟨sb2, sc2, D2, W.heap.size, gt, gd, x6, x16, x17, x18, x19, (.agg l.toArray), (.slice (some ⟨W.heap.size, 0, none⟩) 1 1), x22, x23, x24, x25, x26, by simp only [Act.put, List.setIfInBounds_toArray, List.set_cons_zero, List.set_cons_succ], ?_⟩
      exact ⟨fun h => hF.out.f0 (by simpa using h), fun h => hF.out.f1 (by simpa using h), fun h => hF.out.f2 (by simpa using h), fun h => hF.out.f3 (by simpa using h), fun h => hF.out.f4 (by simpa using h), fun _ => rfl, fun h => hF.out.f6 (by simpa using h), fun h => hF.out.f7 (by simpa using h), fun h => hF.out.f8 (by simpa using h), fun h => hF.out.f9 (by simpa using h), fun h => by have := HN10.out; simp [this] at h, fun h => hF.out.f11 (by simpa using h), fun h => hF.out.f12 (by simpa using h), fun h => by have := hF.out.o4_3 (by simpa using h); simpa using this, fun _ => by simpa using e5_4, fun _ => by simp, fun h => by have := hF.out.o10_9 (by simpa using h); simpa using this, fun h => by have := hF.out.o12_10 (by simpa using h); simpa using this, fun h => by have := hF.out.o12_11 (by simpa using h); simpa using this, hF.out.bl.trans (B1.mono (HGE.out W hF.out.bl)), fun h => (hF.out.m0 (by simpa using h)).next B1, fun h => (hF.out.m1 (by simpa using h)).next B1, fun _ => HOR.out W hF.out.bl, fun h => own_below (hF.out.tg (by simpa using h)) B1, fun h h2 => ⟨(hF.out.dz (by simpa using h) (by simpa using h2)).1.of_block (B1.block _ (hF.out.dz (by simpa using h) (by simpa using h2)).1.lt), (hF.out.dz (by simpa using h) (by simpa using h2)).2⟩, fun h => by have := HN12.out; simp [this] at h⟩
    · intro d a W hI hd hdep
      obtain ⟨sb2, sc2, D2, gr, gt, gd, x6, x16, x17, x18, x19, x20, x21, x22, x23, x24, x25, x26, rfl, hF⟩ := hI
      clear hdep hd
      intro K hK
      simp only [Act.put, List.setIfInBounds_toArray, List.set_cons_zero, List.set_cons_succ]
      go_simp
      refine hK.out _ _ ⟨sb2, sc2, D2, gr, gt, gd, x6, x16, x17, x18, x19, x20, x21, (.pointer (some ⟨pb, 5, none⟩)), x23, x24, x25, x26, by simp only [Act.put, List.setIfInBounds_toArray, List.set_cons_zero, List.set_cons_succ], ?_⟩
      exact ⟨fun h => hF.out.f0 (by simpa using h), fun h => hF.out.f1 (by simpa using h), fun h => hF.out.f2 (by simpa using h), fun h => hF.out.f3 (by simpa using h), fun h => hF.out.f4 (by simpa using h), fun h => hF.out.f5 (by simpa using h), fun _ => rfl, fun h => hF.out.f7 (by simpa using h), fun h => hF.out.f8 (by simpa using h), fun h => hF.out.f9 (by simpa using h), fun h => hF.out.f10 (by simpa using h), fun h => hF.out.f11 (by simpa using h), fun h => hF.out.f12 (by simpa using h), fun h => by have := hF.out.o4_3 (by simpa using h); simpa using this, fun h => by have := hF.out.o5_4 (by simpa using h); simpa using this, fun h => by have := hF.out.o10_5 (by simpa using h); simpa using this, fun h => by have := hF.out.o10_9 (by simpa using h); simpa using this, fun h => by have := hF.out.o12_10 (by simpa using h); simpa using this, fun h => by have := hF.out.o12_11 (by simpa using h); simpa using this, hF.out.bl, fun h => hF.out.m0 (by simpa using h), fun h => hF.out.m1 (by simpa using h), fun h => hF.out.rw_ (by simpa using h), fun h => hF.out.tg (by simpa using h), fun h h2 => hF.out.dz (by simpa using h) (by simpa using h2), fun h => hF.out.fin (by simpa using h)⟩
    · intro d a W hI hd hdep
      obtain ⟨sb2, sc2, D2, gr, gt, gd, x6, x16, x17, x18, x19, x20, x21, x22, x23, x24, x25, x26, rfl, hF⟩ := hI
      have hd6 : d 6 = true := dep_of hdep 6 (by kernel_rfl)
      obtain rfl := hF.out.f6 hd6
      have ya := (hF.out.bl.cell (p := ⟨pb, 5, none⟩) HPB.out.1).trans HPB.out.2.2
      clear hdep hd hd6
      intro K hK
      simp only [Act.put, List.setIfInBounds_toArray, List.set_cons_zero, List.set_cons_succ]
      go_simp
      refine hK.out _ _ ⟨sb2, sc2, D2, gr, gt, gd, x6, x16, x17, x18, x19, x20, x21, (.pointer (some ⟨pb, 5, none⟩)), (.slice b5 n5 k5), x24, x25, x26, by simp only [Act.put, List.setIfInBounds_toArray, List.set_cons_zero, List.set_cons_succ], ?_⟩
      exact ⟨fun h => hF.out.f0 (by simpa using h), fun h => hF.out.f1 (by simpa using h), fun h => hF.out.f2 (by simpa using h), fun h => hF.out.f3 (by simpa using h), fun h => hF.out.f4 (by simpa using h), fun h => hF.out.f5 (by simpa using h), fun h => hF.out.f6 (by simpa using h), fun _ => rfl, fun h => hF.out.f8 (by simpa using h), fun h => hF.out.f9 (by simpa using h), fun h => hF.out.f10 (by simpa using h), fun h => hF.out.f11 (by simpa using h), fun h => hF.out.f12 (by simpa using h), fun h => by have := hF.out.o4_3 (by simpa using h); simpa using this, fun h => by have := hF.out.o5_4 (by simpa using h); simpa using this, fun h => by have := hF.out.o10_5 (by simpa using h); simpa using this, fun h => by have := hF.out.o10_9 (by simpa using h); simpa using this, fun h => by have := hF.out.o12_10 (by simpa using h); simpa using this, fun h => by have := hF.out.o12_11 (by simpa using h); simpa using this, hF.out.bl, fun h => hF.out.m0 (by simpa using h), fun h => hF.out.m1 (by simpa using h), fun h => hF.out.rw_ (by simpa using h), fun h => hF.out.tg (by simpa using h), fun h h2 => hF.out.dz (by simpa using h) (by simpa using h2), fun h => hF.out.fin (by simpa using h)⟩
    · intro d a W hI hd hdep
      obtain ⟨sb2, sc2, D2, gr, gt, gd, x6, x16, x17, x18, x19, x20, x21, x22, x23, x24, x25, x26, rfl, hF⟩ := hI
      have hd7 : d 7 = true := dep_of hdep 7 (by kernel_rfl)
      obtain rfl := hF.out.f7 hd7
      have hcl := HIX.out W hF.out.bl
      clear hdep hd hd7
      intro K hK
      simp only [Act.put, List.setIfInBounds_toArray, List.set_cons_zero, List.set_cons_succ]
      go_simp
      refine hcl.mono ?_
      rintro _ W1 ⟨rfl, hb1⟩
      clear hcl
      go_simp
      refine hK.out _ _ ⟨sb2, sc2, D2, gr, gt, gd, x6, x16, x17, x18, x19, x20, x21, x22, (.slice b5 n5 k5), (.int .i64 tz), x25, x26, by simp only [Act.put, List.setIfInBounds_toArray, List.set_cons_zero, List.set_cons_succ], ?_⟩
      exact ⟨fun h => hF.out.f0 (by simpa using h), fun h => hF.out.f1 (by simpa using h), fun h => hF.out.f2 (by simpa using h), fun h => hF.out.f3 (by simpa using h), fun h => hF.out.f4 (by simpa using h), fun h => hF.out.f5 (by simpa using h), fun h => hF.out.f6 (by simpa using h), fun h => hF.out.f7 (by simpa using h), fun _ => rfl, fun h => hF.out.f9 (by simpa using h), fun h => hF.out.f10 (by simpa using h), fun h => hF.out.f11 (by simpa using h), fun h => hF.out.f12 (by simpa using h), fun h => by have := hF.out.o4_3 (by simpa using h); simpa using this, fun h => by have := hF.out.o5_4 (by simpa using h); simpa using this, fun h => by have := hF.out.o10_5 (by simpa using h); simpa using this, fun h => by have := hF.out.o10_9 (by simpa using h); simpa using this, fun h => by have := hF.out.o12_10 (by simpa using h); simpa using this, fun h => by have := hF.out.o12_11 (by simpa using h); simpa using this, hF.out.bl.trans (hb1.mono (HGE.out W hF.out.bl)), fun h => (hF.out.m0 (by simpa using h)).next hb1, fun h => (hF.out.m1 (by simpa using h)).next hb1, fun h => own_below (hF.out.rw_ (by simpa using h)) hb1, fun h => own_below (hF.out.tg (by simpa using h)) hb1, fun h h2 => ⟨(hF.out.dz (by simpa using h) (by simpa using h2)).1.of_block (hb1.block _ (hF.out.dz (by simpa using h) (by simpa using h2)).1.lt), (hF.out.dz (by simpa using h) (by simpa using h2)).2⟩, fun h => ⟨(hF.out.fin (by simpa using h)).1.of_block (hb1.block _ (hF.out.fin (by simpa using h)).1.lt), (hF.out.fin (by simpa using h)).2⟩⟩
    · intro d a W hI hd hdep
      obtain ⟨sb2, sc2, D2, gr, gt, gd, x6, x16, x17, x18, x19, x20, x21, x22, x23, x24, x25, x26, rfl, hF⟩ := hI
      have hd8 : d 8 = true := dep_of hdep 8 (by kernel_rfl)
      obtain rfl := hF.out.f8 hd8
      have HN10 : Hid (d 10 = false) := no_later hF.out.o10_9 hd
      have HN12 : Hid (d 12 = false) := no_later hF.out.o12_10 HN10.out
      have B1 := (Below.refl W.heap.size W).alloc (Nat.le_refl _) (Obj.cells #[.int .i64 tz] 3)
      clear hdep hd hd8
      intro K hK
      simp only [Act.put, List.setIfInBounds_toArray, List.set_cons_zero, List.set_cons_succ]
      go_simp
      refine hK.out _ _ ⟨sb2, sc2, D2, gr, W.heap.size, gd, x6, x16, x17, x18, x19, x20, x21, x22, x23, (.int .i64 tz), (.slice (some ⟨W.heap.size, 0, none⟩) 1 1), x26, by simp only [Act.put, List.setIfInBounds_toArray, List.set_cons_zero, List.set_cons_succ], ?_⟩
      exact ⟨fun h => hF.out.f0 (by simpa using h), fun h => hF.out.f1 (by simpa using h), fun h => hF.out.f2 (by simpa using h), fun h => hF.out.f3 (by simpa using h), fun h => hF.out.f4 (by simpa using h), fun h => hF.out.f5 (by simpa using h), fun h => hF.out.f6 (by simpa using h), fun h => hF.out.f7 (by simpa using h), fun h => hF.out.f8 (by simpa using h), fun _ => rfl, fun h => by have := HN10.out; simp [this] at h, fun h => hF.out.f11 (by simpa using h), fun h => hF.out.f12 (by simpa using h), fun h => by have := hF.out.o4_3 (by simpa using h); simpa using this, fun h => by have := hF.out.o5_4 (by simpa using h); simpa using this, fun h => by have := hF.out.o10_5 (by simpa using h); simpa using this, fun _ => by simp, fun h => by have := hF.out.o12_10 (by simpa using h); simpa using this, fun h => by have := hF.out.o12_11 (by simpa using h); simpa using this, hF.out.bl.trans (B1.mono (HGE.out W hF.out.bl)), fun h => (hF.out.m0 (by simpa using h)).next B1, fun h => (hF.out.m1 (by simpa using h)).next B1, fun h => own_below (hF.out.rw_ (by simpa using h)) B1, fun _ => HOT.out W hF.out.bl, fun h h2 => ⟨(hF.out.dz (by simpa using h) (by simpa using h2)).1.of_block (B1.block _ (hF.out.dz (by simpa using h) (by simpa using h2)).1.lt), (hF.out.dz (by simpa using h) (by simpa using h2)).2⟩, fun h => by have := HN12.out; simp [this] at h⟩
    · intro d a W hI hd hdep
      obtain ⟨sb2, sc2, D2, gr, gt, gd, x6, x16, x17, x18, x19, x20, x21, x22, x23, x24, x25, x26, rfl, hF⟩ := hI
      have hd5 : d 5 = true := dep_of hdep 5 (by kernel_rfl)
      have hd9 : d 9 = true := dep_of hdep 9 (by kernel_rfl)
      obtain rfl := hF.out.f5 hd5
      obtain rfl := hF.out.f9 hd9
      have e10_5 := hd5
      have e10_9 := hd9
      clear hdep hd hd5 hd9
      intro K hK
      simp only [Act.put, List.setIfInBounds_toArray, List.set_cons_zero, List.set_cons_succ]
      go_simp
      refine hK.out _ _ ⟨sb2, sc2, D2, gr, gt, gd, x6, x16, x17, x18, x19, x20, (.slice (some ⟨gr, 0, none⟩) 1 1), x22, x23, x24, (.slice (some ⟨gt, 0, none⟩) 1 1), (.agg #[(.slice (some ⟨gr, 0, none⟩) 1 1), (.slice (some ⟨gt, 0, none⟩) 1 1)]), by simp only [Act.put, List.setIfInBounds_toArray, List.set_cons_zero, List.set_cons_succ], ?_⟩
      exact ⟨fun h => hF.out.f0 (by simpa using h), fun h => hF.out.f1 (by simpa using h), fun h => hF.out.f2 (by simpa using h), fun h => hF.out.f3 (by simpa using h), fun h => hF.out.f4 (by simpa using h), fun h => hF.out.f5 (by simpa using h), fun h => hF.out.f6 (by simpa using h), fun h => hF.out.f7 (by simpa using h), fun h => hF.out.f8 (by simpa using h), fun h => hF.out.f9 (by simpa using h), fun _ => rfl, fun h => hF.out.f11 (by simpa using h), fun h => hF.out.f12 (by simpa using h), fun h => by have := hF.out.o4_3 (by simpa using h); simpa using this, fun h => by have := hF.out.o5_4 (by simpa using h); simpa using this, fun _ => by simpa using e10_5, fun _ => by simpa using e10_9, fun _ => by simp, fun h => by have := hF.out.o12_11 (by simpa using h); simpa using this, hF.out.bl, fun h => hF.out.m0 (by simpa using h), fun h => hF.out.m1 (by simpa using h), fun h => hF.out.rw_ (by simpa using h), fun h => hF.out.tg (by simpa using h), fun h h2 => hF.out.dz (by simpa using h) (by simpa using h2), fun h => hF.out.fin (by simpa using h)⟩
    · intro d a W hI hd hdep
      obtain ⟨sb2, sc2, D2, gr, gt, gd, x6, x16, x17, x18, x19, x20, x21, x22, x23, x24, x25, x26, rfl, hF⟩ := hI
      have HN12 : Hid (d 12 = false) := no_later hF.out.o12_11 hd
      have B1 := (Below.refl W.heap.size W).alloc (Nat.le_refl _) (Obj.cells #[.slice none 0 0, .slice none 0 0] 30)
      clear hdep hd
      intro K hK
      simp only [Act.put, List.setIfInBounds_toArray, List.set_cons_zero, List.set_cons_succ]
      go_simp
      refine hK.out _ _ ⟨sb2, sc2, D2, gr, gt, W.heap.size, (.pointer (some ⟨W.heap.size, 0, none⟩)), x16, x17, x18, x19, x20, x21, x22, x23, x24, x25, x26, by simp only [Act.put, List.setIfInBounds_toArray, List.set_cons_zero, List.set_cons_succ], ?_⟩
      exact ⟨fun h => hF.out.f0 (by simpa using h), fun h => hF.out.f1 (by simpa using h), fun h => hF.out.f2 (by simpa using h), fun h => hF.out.f3 (by simpa using h), fun h => hF.out.f4 (by simpa using h), fun h => hF.out.f5 (by simpa using h), fun h => hF.out.f6 (by simpa using h), fun h => hF.out.f7 (by simpa using h), fun h => hF.out.f8 (by simpa using h), fun h => hF.out.f9 (by simpa using h), fun h => hF.out.f10 (by simpa using h), fun _ => rfl, fun h => hF.out.f12 (by simpa using h), fun h => by have := hF.out.o4_3 (by simpa using h); simpa using this, fun h => by have := hF.out.o5_4 (by simpa using h); simpa using this, fun h => by have := hF.out.o10_5 (by simpa using h); simpa using this, fun h => by have := hF.out.o10_9 (by simpa using h); simpa using this, fun h => by have := hF.out.o12_10 (by simpa using h); simpa using this, fun _ => by simp, hF.out.bl.trans (B1.mono (HGE.out W hF.out.bl)), fun h => (hF.out.m0 (by simpa using h)).next B1, fun h => (hF.out.m1 (by simpa using h)).next B1, fun h => own_below (hF.out.rw_ (by simpa using h)) B1, fun h => own_below (hF.out.tg (by simpa using h)) B1, fun _ _ => ⟨row_new2 W, HGE.out W hF.out.bl⟩, fun h => by have := HN12.out; simp [this] at h⟩
    · intro d a W hI hd hdep
      obtain ⟨sb2, sc2, D2, gr, gt, gd, x6, x16, x17, x18, x19, x20, x21, x22, x23, x24, x25, x26, rfl, hF⟩ := hI
      have hd11 : d 11 = true := dep_of hdep 11 (by kernel_rfl)
      have hd10 : d 10 = true := dep_of hdep 10 (by kernel_rfl)
      obtain rfl := hF.out.f11 hd11
      obtain rfl := hF.out.f10 hd10
      have e12_10 := hd10
      have e12_11 := hd11
      have hdz := hF.out.dz hd11 hd
      have ya := hdz.1.cell (i := 0) (by omega)
      have yb := hdz.1.cell (i := 1) (by omega)
      have yc := hdz.1.frozen 0
      have yd := hdz.1.frozen 1
      have HK1 : Hid (Kt 30 W ((W.setCell ⟨gd, 0, none⟩ (.slice (some ⟨gr, 0, none⟩) 1 1)).setCell ⟨gd, 1, none⟩ (.slice (some ⟨gt, 0, none⟩) 1 1))) := ⟨by simp [World.setCell], fun k _ hn => by rw [Below.heap_setCell _ _ _ _ (fun e => hn (by rw [e]; exact row_ty hdz.1)), Below.heap_setCell _ _ _ _ (fun e => hn (by rw [e]; exact row_ty hdz.1))]⟩
      have HR2 : Hid (((W.setCell ⟨gd, 0, none⟩ (.slice (some ⟨gr, 0, none⟩) 1 1)).setCell ⟨gd, 1, none⟩ (.slice (some ⟨gt, 0, none⟩) 1 1)).rowIs gd 30 2 (dv gr 1 1 gt 1 1) ∧ Below B w1 ((W.setCell ⟨gd, 0, none⟩ (.slice (some ⟨gr, 0, none⟩) 1 1)).setCell ⟨gd, 1, none⟩ (.slice (some ⟨gt, 0, none⟩) 1 1))) := ⟨((hdz.1.set 0 _).set 1 _).congr (fun i hi => by
        unfold dv
        have : i = 0 ∨ i = 1 := by omega
        rcases this with e | e <;> simp [e]), (hF.out.bl.setCell hdz.2 _).setCell hdz.2 _⟩
      have HGD : Hid (B ≤ gd) := hdz.2
      clear hdz
      clear hdep hd hd11 hd10
      intro K hK
      simp only [Act.put, List.setIfInBounds_toArray, List.set_cons_zero, List.set_cons_succ]
      go_simp
      refine hK.out _ _ ⟨sb2, sc2, D2, gr, gt, gd, (.pointer (some ⟨gd, 0, none⟩)), x16, x17, x18, x19, x20, x21, x22, x23, x24, x25, (.agg #[(.slice (some ⟨gr, 0, none⟩) 1 1), (.slice (some ⟨gt, 0, none⟩) 1 1)]), by simp only [Act.put, List.setIfInBounds_toArray, List.set_cons_zero, List.set_cons_succ], ?_⟩
      exact ⟨fun h => hF.out.f0 (by simpa using h), fun h => hF.out.f1 (by simpa using h), fun h => hF.out.f2 (by simpa using h), fun h => hF.out.f3 (by simpa using h), fun h => hF.out.f4 (by simpa using h), fun h => hF.out.f5 (by simpa using h), fun h => hF.out.f6 (by simpa using h), fun h => hF.out.f7 (by simpa using h), fun h => hF.out.f8 (by simpa using h), fun h => hF.out.f9 (by simpa using h), fun h => hF.out.f10 (by simpa using h), fun h => hF.out.f11 (by simpa using h), fun _ => trivial, fun h => by have := hF.out.o4_3 (by simpa using h); simpa using this, fun h => by have := hF.out.o5_4 (by simpa using h); simpa using this, fun h => by have := hF.out.o10_5 (by simpa using h); simpa using this, fun h => by have := hF.out.o10_9 (by simpa using h); simpa using this, fun _ => by simpa using e12_10, fun _ => by simpa using e12_11, HR2.out.2, fun h => (hF.out.m0 (by simpa using h)).kt HK1.out (by decide) (by decide), fun h => (hF.out.m1 (by simpa using h)).kt HK1.out (by decide) (by decide), fun h => HK1.out.own (by decide) (hF.out.rw_ (by simpa using h)), fun h => HK1.out.own (by decide) (hF.out.tg (by simpa using h)), fun _ h => by simp at h, fun _ => ⟨HR2.out.1, HGD.out⟩⟩
  · intro d a W hI hall
    obtain ⟨sb2, sc2, D2, gr, gt, gd, x6, x16, x17, x18, x19, x20, x21, x22, x23, x24, x25, x26, rfl, hF⟩ := hI
    simp only [List.length_cons, List.length_nil] at hall
    obtain rfl := hF.out.f0 (hall 0 (by omega))
    obtain rfl := hF.out.f1 (hall 1 (by omega))
    obtain rfl := hF.out.f2 (hall 2 (by omega))
    obtain rfl := hF.out.f3 (hall 3 (by omega))
    obtain rfl := hF.out.f4 (hall 4 (by omega))
    obtain rfl := hF.out.f5 (hall 5 (by omega))
    obtain rfl := hF.out.f6 (hall 6 (by omega))
    obtain rfl := hF.out.f7 (hall 7 (by omega))
    obtain rfl := hF.out.f8 (hall 8 (by omega))
    obtain rfl := hF.out.f9 (hall 9 (by omega))
    obtain rfl := hF.out.f10 (hall 10 (by omega))
    obtain rfl := hF.out.f11 (hall 11 (by omega))
    have hfin := hF.out.fin (hall 12 (by omega))
    have HM1 : Hid (Far p 1 ∧ ∃ sb sc D rb rc tb tc, Mm w1 B g hb mb fo fc gd p 1 1 1 sb sc D rb rc tb tc W) := ⟨far_one p, sb2, sc2, D2, gr, 1, gt, 1, ⟨hF.out.m1 (hall 4 (by omega)), hfin.1, hF.out.rw_ (hall 5 (by omega)), hF.out.tg (hall 9 (by omega)), hF.out.bl, hfin.2⟩⟩
    clear hF hall hfin HMA HSO HRO HG1 HLL HOR HIX HOT HBL2
    obtain ⟨w2, rfl⟩ : ∃ z, z = W := ⟨_, rfl⟩
    simp only [Act.put, List.setIfInBounds_toArray, List.set_cons_zero, List.set_cons_succ]
    go_wp2_with fail
    go_loopw [] (fun wr => ∃ k : Nat, Hid (Far p k ∧ ∃ sb sc D rb rc tb tc, Mm w1 B g hb mb fo fc gd p k k k sb sc D rb rc tb tc wr)) (fun wr => 202 - rowsOf gd wr)
    case atStart => exact ⟨1, HM1⟩
    case round =>
      clear HM1
      obtain ⟨k, HA⟩ := hrel
      obtain ⟨hfar, sb, sc, D, rb, rc, tb, tc, hmm⟩ := HA.out
      have HFAR : Hid (Far p k) := hfar
      have HMM : Hid (Mm w1 B g hb mb fo fc gd p k k k sb sc D rb rc tb tc wr) := hmm
      have HROW : Hid (rowsOf gd wr = k) := hmm.rowsOf
      have HK2 : Hid (k ≤ 201) := hfar.le200
      clear HA hmm
      have y0 := HMM.out.bx.cell (i := 0) (by omega)
      have y1 := HMM.out.ma.bx.cell (i := 2) (by omega)
      simp only [dv] at y0
      simp only [mv] at y1
      by_cases h1 : k < (G p k).length
      · by_cases h2 : (G p k).length ≤ 200
        · have HLT : Hid (k < (G p k).length) := h1
          have HLE : Hid ((G p k).length ≤ 200) := h2
          have d1 : decide ((k : Int) < ((G p k).length : Int)) = true := by simp; omega
          have d2 : decide (((G p k).length : Int) ≤ 200) = true := by simp; omega
          have e1 : decide (k < (G p k).length) = true := by simp; omega
          have e2 : decide ((G p k).length ≤ 200) = true := by simp; omega
          obtain ⟨c, HCC⟩ : ∃ c, Hid ((G p k).getD k empty = c) := ⟨_, (rfl : _ = _)⟩
          have HTK : Hid (tA p k = tgF p c) := by show _ = _; unfold tA tagF; rw [if_neg (by have := hfar.pos; omega), HCC.out]
          clear h1 h2 hfar
          go_upto_region 6 with fail
          go_quiet (fail)
          go_upto_region 7 with fail
          have HM7 : Hid (Mm w1 B g hb mb fo fc gd p k k k sb sc D rb rc tb tc (wr.drewN nq)) := HMM.out.next ⟨rfl, rfl, rfl, Nat.le_refl _, fun _ _ => rfl⟩
          clear y0 y1 d1 d2 e1 e2 HMM
          generalize wr.drewN nq = w7 at HM7 ⊢
          have HMM := HM7
          clear HM7
          refine wp_region_free mixed (fun a0 d a W => ∃ (ga : Nat) (x7 x44 x45 x46 x47 x48 x49 x50 x51 x52 : Value), a = ((((((((((a0.put (some 7) x7).put (some 44) x44).put (some 45) x45).put (some 46) x46).put (some 47) x47).put (some 48) x48).put (some 49) x49).put (some 50) x50).put (some 51) x51).put (some 52) x52) ∧ Hid (RM7 w1 w7 B g hb mb fo fc gd p k sb sc D rb rc tb tc c ga d x7 x44 x45 x46 x47 x48 x49 x50 x51 x52 W)) (by kernel_rfl) ⟨0, u7, u44, u45, u46, u47, u48, u49, u50, u51, u52, by simp only [Act.put, List.setIfInBounds_toArray, List.set_cons_zero, List.set_cons_succ], ?_⟩ ?_ ?_
          · exact ⟨fun h => no_way h, fun h => no_way h, fun h => no_way h, fun h => no_way h, fun h => no_way h, fun h => no_way h, fun h => no_way h, fun h => no_way h, fun h => no_way h, fun h => no_way h, fun _ => trivial, fun h => no_way h, (Below.refl _ _).drew, fun h => no_way h, fun h => no_way h⟩
          · simp only [StepAll, and_true]
            refine ⟨?_, ?_, ?_, ?_, ?_, ?_, ?_, ?_, ?_, ?_, ?_⟩
            · intro d a W hI hd hdep
              obtain ⟨ga, x7, x44, x45, x46, x47, x48, x49, x50, x51, x52, rfl, hF⟩ := hI
              clear hdep hd
              intro K hK
              simp only [Act.put, List.setIfInBounds_toArray, List.set_cons_zero, List.set_cons_succ]
              go_simp
              refine hK.out _ _ ⟨ga, x7, (.pointer (some ⟨g, 0, none⟩)), x45, x46, x47, x48, x49, x50, x51, x52, by simp only [Act.put, List.setIfInBounds_toArray, List.set_cons_zero, List.set_cons_succ], ?_⟩
              exact ⟨fun _ => rfl, fun h => hF.out.f1 (by simpa using h), fun h => hF.out.f2 (by simpa using h), fun h => hF.out.f3 (by simpa using h), fun h => hF.out.f4 (by simpa using h), fun h => hF.out.f5 (by simpa using h), fun h => hF.out.f6 (by simpa using h), fun h => hF.out.f7 (by simpa using h), fun h => hF.out.f8 (by simpa using h), fun h => hF.out.f9 (by simpa using h), fun h => hF.out.f10 (by simpa using h), fun h => by have := hF.out.o10_9 (by simpa using h); simpa using this, hF.out.b7, fun h h2 => hF.out.al (by simpa using h) (by simpa using h2), fun h => hF.out.fin (by simpa using h)⟩
            · intro d a W hI hd hdep
              obtain ⟨ga, x7, x44, x45, x46, x47, x48, x49, x50, x51, x52, rfl, hF⟩ := hI
              have hd0 : d 0 = true := dep_of hdep 0 (by kernel_rfl)
              obtain rfl := hF.out.f0 hd0
              clear hdep hd hd0
              intro K hK
              simp only [Act.put, List.setIfInBounds_toArray, List.set_cons_zero, List.set_cons_succ]
              go_simp
              refine hK.out _ _ ⟨ga, x7, (.pointer (some ⟨g, 0, none⟩)), (.pointer (some ⟨g, 0, none⟩)), x46, x47, x48, x49, x50, x51, x52, by simp only [Act.put, List.setIfInBounds_toArray, List.set_cons_zero, List.set_cons_succ], ?_⟩
              exact ⟨fun h => hF.out.f0 (by simpa using h), fun _ => rfl, fun h => hF.out.f2 (by simpa using h), fun h => hF.out.f3 (by simpa using h), fun h => hF.out.f4 (by simpa using h), fun h => hF.out.f5 (by simpa using h), fun h => hF.out.f6 (by simpa using h), fun h => hF.out.f7 (by simpa using h), fun h => hF.out.f8 (by simpa using h), fun h => hF.out.f9 (by simpa using h), fun h => hF.out.f10 (by simpa using h), fun h => by have := hF.out.o10_9 (by simpa using h); simpa using this, hF.out.b7, fun h h2 => hF.out.al (by simpa using h) (by simpa using h2), fun h => hF.out.fin (by simpa using h)⟩
            · intro d a W hI hd hdep
              obtain ⟨ga, x7, x44, x45, x46, x47, x48, x49, x50, x51, x52, rfl, hF⟩ := hI
              have hd1 : d 1 = true := dep_of hdep 1 (by kernel_rfl)
              obtain rfl := hF.out.f1 hd1
              clear hdep hd hd1
              intro K hK
              simp only [Act.put, List.setIfInBounds_toArray, List.set_cons_zero, List.set_cons_succ]
              go_simp
              refine hK.out _ _ ⟨ga, x7, x44, (.pointer (some ⟨g, 0, none⟩)), (.pointer (some ⟨g, 2, none⟩)), x47, x48, x49, x50, x51, x52, by simp only [Act.put, List.setIfInBounds_toArray, List.set_cons_zero, List.set_cons_succ], ?_⟩
              exact ⟨fun h => hF.out.f0 (by simpa using h), fun h => hF.out.f1 (by simpa using h), fun _ => rfl, fun h => hF.out.f3 (by simpa using h), fun h => hF.out.f4 (by simpa using h), fun h => hF.out.f5 (by simpa using h), fun h => hF.out.f6 (by simpa using h), fun h => hF.out.f7 (by simpa using h), fun h => hF.out.f8 (by simpa using h), fun h => hF.out.f9 (by simpa using h), fun h => hF.out.f10 (by simpa using h), fun h => by have := hF.out.o10_9 (by simpa using h); simpa using this, hF.out.b7, fun h h2 => hF.out.al (by simpa using h) (by simpa using h2), fun h => hF.out.fin (by simpa using h)⟩
            · intro d a W hI hd hdep
              obtain ⟨ga, x7, x44, x45, x46, x47, x48, x49, x50, x51, x52, rfl, hF⟩ := hI
              have hd2 : d 2 = true := dep_of hdep 2 (by kernel_rfl)
              obtain rfl := hF.out.f2 hd2
              have hmm := HMM.out.next hF.out.b7
              have ya := hmm.ma.bx.cell (i := 2) (by omega)
              simp only [mv] at ya
              clear hmm
              clear hdep hd hd2
              intro K hK
              simp only [Act.put, List.setIfInBounds_toArray, List.set_cons_zero, List.set_cons_succ]
              go_simp
              refine hK.out _ _ ⟨ga, x7, x44, x45, (.pointer (some ⟨g, 2, none⟩)), (.slice (some ⟨sb, 0, none⟩) (G p k).length sc), x48, x49, x50, x51, x52, by simp only [Act.put, List.setIfInBounds_toArray, List.set_cons_zero, List.set_cons_succ], ?_⟩
              exact ⟨fun h => hF.out.f0 (by simpa using h), fun h => hF.out.f1 (by simpa using h), fun h => hF.out.f2 (by simpa using h), fun _ => rfl, fun h => hF.out.f4 (by simpa using h), fun h => hF.out.f5 (by simpa using h), fun h => hF.out.f6 (by simpa using h), fun h => hF.out.f7 (by simpa using h), fun h => hF.out.f8 (by simpa using h), fun h => hF.out.f9 (by simpa using h), fun h => hF.out.f10 (by simpa using h), fun h => by have := hF.out.o10_9 (by simpa using h); simpa using this, hF.out.b7, fun h h2 => hF.out.al (by simpa using h) (by simpa using h2), fun h => hF.out.fin (by simpa using h)⟩
            · intro d a W hI hd hdep
              obtain ⟨ga, x7, x44, x45, x46, x47, x48, x49, x50, x51, x52, rfl, hF⟩ := hI
              clear hdep hd
              intro K hK
              simp only [Act.put, List.setIfInBounds_toArray, List.set_cons_zero, List.set_cons_succ]
              go_simp
              refine hK.out _ _ ⟨ga, x7, x44, x45, x46, x47, (.pointer (some ⟨gd, 0, none⟩)), x49, x50, x51, x52, by simp only [Act.put, List.setIfInBounds_toArray, List.set_cons_zero, List.set_cons_succ], ?_⟩
              exact ⟨fun h => hF.out.f0 (by simpa using h), fun h => hF.out.f1 (by simpa using h), fun h => hF.out.f2 (by simpa using h), fun h => hF.out.f3 (by simpa using h), fun _ => rfl, fun h => hF.out.f5 (by simpa using h), fun h => hF.out.f6 (by simpa using h), fun h => hF.out.f7 (by simpa using h), fun h => hF.out.f8 (by simpa using h), fun h => hF.out.f9 (by simpa using h), fun h => hF.out.f10 (by simpa using h), fun h => by have := hF.out.o10_9 (by simpa using h); simpa using this, hF.out.b7, fun h h2 => hF.out.al (by simpa using h) (by simpa using h2), fun h => hF.out.fin (by simpa using h)⟩
            · intro d a W hI hd hdep
              obtain ⟨ga, x7, x44, x45, x46, x47, x48, x49, x50, x51, x52, rfl, hF⟩ := hI
              have hd4 : d 4 = true := dep_of hdep 4 (by kernel_rfl)
              obtain rfl := hF.out.f4 hd4
              have hmm := HMM.out.next hF.out.b7
              have ya := hmm.bx.cell (i := 0) (by omega)
              simp only [dv] at ya
              clear hmm
              clear hdep hd hd4
              intro K hK
              simp only [Act.put, List.setIfInBounds_toArray, List.set_cons_zero, List.set_cons_succ]
              go_simp
              refine hK.out _ _ ⟨ga, x7, x44, x45, x46, x47, (.pointer (some ⟨gd, 0, none⟩)), (.slice (some ⟨rb, 0, none⟩) k rc), x50, x51, x52, by simp only [Act.put, List.setIfInBounds_toArray, List.set_cons_zero, List.set_cons_succ], ?_⟩
              exact ⟨fun h => hF.out.f0 (by simpa using h), fun h => hF.out.f1 (by simpa using h), fun h => hF.out.f2 (by simpa using h), fun h => hF.out.f3 (by simpa using h), fun h => hF.out.f4 (by simpa using h), fun _ => rfl, fun h => hF.out.f6 (by simpa using h), fun h => hF.out.f7 (by simpa using h), fun h => hF.out.f8 (by simpa using h), fun h => hF.out.f9 (by simpa using h), fun h => hF.out.f10 (by simpa using h), fun h => by have := hF.out.o10_9 (by simpa using h); simpa using this, hF.out.b7, fun h h2 => hF.out.al (by simpa using h) (by simpa using h2), fun h => hF.out.fin (by simpa using h)⟩
            · intro d a W hI hd hdep
              obtain ⟨ga, x7, x44, x45, x46, x47, x48, x49, x50, x51, x52, rfl, hF⟩ := hI
              have hd5 : d 5 = true := dep_of hdep 5 (by kernel_rfl)
              obtain rfl := hF.out.f5 hd5
              clear hdep hd hd5
              intro K hK
              simp only [Act.put, List.setIfInBounds_toArray, List.set_cons_zero, List.set_cons_succ]
              go_simp
              refine hK.out _ _ ⟨ga, x7, x44, x45, x46, x47, x48, (.slice (some ⟨rb, 0, none⟩) k rc), (.int .i64 (k : Int)), x51, x52, by simp only [Act.put, List.setIfInBounds_toArray, List.set_cons_zero, List.set_cons_succ], ?_⟩
              exact ⟨fun h => hF.out.f0 (by simpa using h), fun h => hF.out.f1 (by simpa using h), fun h => hF.out.f2 (by simpa using h), fun h => hF.out.f3 (by simpa using h), fun h => hF.out.f4 (by simpa using h), fun h => hF.out.f5 (by simpa using h), fun _ => rfl, fun h => hF.out.f7 (by simpa using h), fun h => hF.out.f8 (by simpa using h), fun h => hF.out.f9 (by simpa using h), fun h => hF.out.f10 (by simpa using h), fun h => by have := hF.out.o10_9 (by simpa using h); simpa using this, hF.out.b7, fun h h2 => hF.out.al (by simpa using h) (by simpa using h2), fun h => hF.out.fin (by simpa using h)⟩
            · intro d a W hI hd hdep
              obtain ⟨ga, x7, x44, x45, x46, x47, x48, x49, x50, x51, x52, rfl, hF⟩ := hI
              have hd3 : d 3 = true := dep_of hdep 3 (by kernel_rfl)
              have hd6 : d 6 = true := dep_of hdep 6 (by kernel_rfl)
              obtain rfl := hF.out.f3 hd3
              obtain rfl := hF.out.f6 hd6
              have hx0 : (0 : Int) ≤ (k : Int) := by omega
              have hx1 : (k : Int) < ((G p k).length : Int) := by have := HLT.out; omega
              clear hdep hd hd3 hd6
              intro K hK
              simp only [Act.put, List.setIfInBounds_toArray, List.set_cons_zero, List.set_cons_succ]
              go_simp
              refine hK.out _ _ ⟨ga, x7, x44, x45, x46, (.slice (some ⟨sb, 0, none⟩) (G p k).length sc), x48, x49, (.int .i64 (k : Int)), (.pointer (some ⟨sb, k * 4, none⟩)), x52, by simp only [Act.put, List.setIfInBounds_toArray, List.set_cons_zero, List.set_cons_succ], ?_⟩
              exact ⟨fun h => hF.out.f0 (by simpa using h), fun h => hF.out.f1 (by simpa using h), fun h => hF.out.f2 (by simpa using h), fun h => hF.out.f3 (by simpa using h), fun h => hF.out.f4 (by simpa using h), fun h => hF.out.f5 (by simpa using h), fun h => hF.out.f6 (by simpa using h), fun _ => rfl, fun h => hF.out.f8 (by simpa using h), fun h => hF.out.f9 (by simpa using h), fun h => hF.out.f10 (by simpa using h), fun h => by have := hF.out.o10_9 (by simpa using h); simpa using this, hF.out.b7, fun h h2 => hF.out.al (by simpa using h) (by simpa using h2), fun h => hF.out.fin (by simpa using h)⟩
            · intro d a W hI hd hdep
              obtain ⟨ga, x7, x44, x45, x46, x47, x48, x49, x50, x51, x52, rfl, hF⟩ := hI
              have hd7 : d 7 = true := dep_of hdep 7 (by kernel_rfl)
              obtain rfl := hF.out.f7 hd7
              have hmm := HMM.out.next hF.out.b7
              have hx : ∀ j, j < 4 → W.cell? ⟨sb, k * 4 + j, none⟩ = some (.int .u64 ((wd c j).toNat : Int)) := fun j hj => by have := own_set4 hmm.ma.st rfl k HLT.out j hj; rwa [HCC.out] at this
              have ya : W.cell? ⟨sb, k * 4, none⟩ = some (.int .u64 (c.1.toNat : Int)) := hx 0 (by omega)
              have yb : W.cell? ⟨sb, k * 4 + 1, none⟩ = some (.int .u64 (c.2.1.toNat : Int)) := hx 1 (by omega)
              have yc : W.cell? ⟨sb, k * 4 + 2, none⟩ = some (.int .u64 (c.2.2.1.toNat : Int)) := hx 2 (by omega)
              have yd : W.cell? ⟨sb, k * 4 + 3, none⟩ = some (.int .u64 (c.2.2.2.toNat : Int)) := hx 3 (by omega)
              clear hmm hx
              clear hdep hd hd7
              intro K hK
              simp only [Act.put, List.setIfInBounds_toArray, List.set_cons_zero, List.set_cons_succ]
              go_simp
              refine hK.out _ _ ⟨ga, x7, x44, x45, x46, x47, x48, x49, x50, (.pointer (some ⟨sb, k * 4, none⟩)), (.agg #[.int .u64 (c.1.toNat : Int), .int .u64 (c.2.1.toNat : Int), .int .u64 (c.2.2.1.toNat : Int), .int .u64 (c.2.2.2.toNat : Int)]), by simp only [Act.put, List.setIfInBounds_toArray, List.set_cons_zero, List.set_cons_succ], ?_⟩
              exact ⟨fun h => hF.out.f0 (by simpa using h), fun h => hF.out.f1 (by simpa using h), fun h => hF.out.f2 (by simpa using h), fun h => hF.out.f3 (by simpa using h), fun h => hF.out.f4 (by simpa using h), fun h => hF.out.f5 (by simpa using h), fun h => hF.out.f6 (by simpa using h), fun h => hF.out.f7 (by simpa using h), fun _ => rfl, fun h => hF.out.f9 (by simpa using h), fun h => hF.out.f10 (by simpa using h), fun h => by have := hF.out.o10_9 (by simpa using h); simpa using this, hF.out.b7, fun h h2 => hF.out.al (by simpa using h) (by simpa using h2), fun h => hF.out.fin (by simpa using h)⟩
            · intro d a W hI hd hdep
              obtain ⟨ga, x7, x44, x45, x46, x47, x48, x49, x50, x51, x52, rfl, hF⟩ := hI
              have HN10 : Hid (d 10 = false) := no_later hF.out.o10_9 hd
              have B1 := (Below.refl W.heap.size W).alloc (Nat.le_refl _) (Obj.cells #[.int .u64 0, .int .u64 0, .int .u64 0, .int .u64 0] 74)
              clear hdep hd
              intro K hK
              simp only [Act.put, List.setIfInBounds_toArray, List.set_cons_zero, List.set_cons_succ]
              go_simp
              refine hK.out _ _ ⟨W.heap.size, (.pointer (some ⟨W.heap.size, 0, none⟩)), x44, x45, x46, x47, x48, x49, x50, x51, x52, by simp only [Act.put, List.setIfInBounds_toArray, List.set_cons_zero, List.set_cons_succ], ?_⟩
              exact ⟨fun h => hF.out.f0 (by simpa using h), fun h => hF.out.f1 (by simpa using h), fun h => hF.out.f2 (by simpa using h), fun h => hF.out.f3 (by simpa using h), fun h => hF.out.f4 (by simpa using h), fun h => hF.out.f5 (by simpa using h), fun h => hF.out.f6 (by simpa using h), fun h => hF.out.f7 (by simpa using h), fun h => hF.out.f8 (by simpa using h), fun _ => rfl, fun h => hF.out.f10 (by simpa using h), fun _ => by simp, hF.out.b7.trans (B1.mono hF.out.b7.size), fun _ _ => ⟨hF.out.b7.size, snew W _⟩, fun h => by have := HN10.out; simp [this] at h⟩
            · intro d a W hI hd hdep
              obtain ⟨ga, x7, x44, x45, x46, x47, x48, x49, x50, x51, x52, rfl, hF⟩ := hI
              have hd9 : d 9 = true := dep_of hdep 9 (by kernel_rfl)
              have hd8 : d 8 = true := dep_of hdep 8 (by kernel_rfl)
              obtain rfl := hF.out.f9 hd9
              obtain rfl := hF.out.f8 hd8
              have e10_9 := hd9
              have hal := hF.out.al hd9 hd
              obtain ⟨⟨ya, yb, yc, yd⟩, za, zb, zc, zd⟩ := sblock4 (d := empty) hal.2
              have HAL : Hid (w7.heap.size ≤ ga ∧ W.heap[ga]? = some (.cells #[.int .u64 (empty.1.toNat : Int), .int .u64 (empty.2.1.toNat : Int), .int .u64 (empty.2.2.1.toNat : Int), .int .u64 (empty.2.2.2.toNat : Int)] 74)) := hal
              clear hal
              clear hdep hd hd9 hd8
              intro K hK
              simp only [Act.put, List.setIfInBounds_toArray, List.set_cons_zero, List.set_cons_succ]
              go_simp
              refine hK.out _ _ ⟨ga, (.pointer (some ⟨ga, 0, none⟩)), x44, x45, x46, x47, x48, x49, x50, x51, (.agg #[.int .u64 (c.1.toNat : Int), .int .u64 (c.2.1.toNat : Int), .int .u64 (c.2.2.1.toNat : Int), .int .u64 (c.2.2.2.toNat : Int)]), by simp only [Act.put, List.setIfInBounds_toArray, List.set_cons_zero, List.set_cons_succ], ?_⟩
              exact ⟨fun h => hF.out.f0 (by simpa using h), fun h => hF.out.f1 (by simpa using h), fun h => hF.out.f2 (by simpa using h), fun h => hF.out.f3 (by simpa using h), fun h => hF.out.f4 (by simpa using h), fun h => hF.out.f5 (by simpa using h), fun h => hF.out.f6 (by simpa using h), fun h => hF.out.f7 (by simpa using h), fun h => hF.out.f8 (by simpa using h), fun h => hF.out.f9 (by simpa using h), fun _ => trivial, fun _ => by simpa using e10_9, sbe4 hF.out.b7 HAL.out.1 _ _ _ _, fun _ h => by simp at h, fun _ => ⟨HAL.out.1, sst4 HAL.out.2 c⟩⟩
          · intro d a W hI hall
            obtain ⟨ga, x7, x44, x45, x46, x47, x48, x49, x50, x51, x52, rfl, hF⟩ := hI
            simp only [List.length_cons, List.length_nil] at hall
            obtain rfl := hF.out.f0 (hall 0 (by omega))
            obtain rfl := hF.out.f1 (hall 1 (by omega))
            obtain rfl := hF.out.f2 (hall 2 (by omega))
            obtain rfl := hF.out.f3 (hall 3 (by omega))
            obtain rfl := hF.out.f4 (hall 4 (by omega))
            obtain rfl := hF.out.f5 (hall 5 (by omega))
            obtain rfl := hF.out.f6 (hall 6 (by omega))
            obtain rfl := hF.out.f7 (hall 7 (by omega))
            obtain rfl := hF.out.f8 (hall 8 (by omega))
            obtain rfl := hF.out.f9 (hall 9 (by omega))
            have hfin := hF.out.fin (hall 10 (by omega))
            have HM8 : Hid (Mm w1 B g hb mb fo fc gd p k k k sb sc D rb rc tb tc W) := HMM.out.next hF.out.b7
            have HAB : Hid (W.heap[ga]? = some (.cells #[.int .u64 (c.1.toNat : Int), .int .u64 (c.2.1.toNat : Int), .int .u64 (c.2.2.1.toNat : Int), .int .u64 (c.2.2.2.toNat : Int)] 74)) := hfin.2
            have HNA : Hid (¬ Xs g mb sb ga) := fun hx => by
              have h := hfin.1
              obtain ⟨l1, l2, l3, l4⟩ := HMM.out.ma.lt
              rcases hx with rfl | rfl | rfl <;> omega
            clear hF hall hfin HMM
            obtain ⟨w8, rfl⟩ : ∃ z, z = W := ⟨_, rfl⟩
            simp only [Act.put, List.setIfInBounds_toArray, List.set_cons_zero, List.set_cons_succ]
            go_upto_region 8 with fail
            obtain ⟨bc, HBC⟩ : ∃ z, Hid (bh p c = z) := ⟨_, (rfl : _ = _)⟩
            have HNXE : Hid (nx p (G p k) k = bc) := by show _ = _; unfold nx; rw [if_neg (by have := HFAR.out.pos; omega), HCC.out, HBC.out]
            have HBE : Hid (∀ W, Ma B g hb mb fo fc sb sc p (G p k) D W → Calls Try.prog 29 #[.pointer (some ⟨g, 0, none⟩), .agg #[.int .u64 (c.1.toNat : Int), .int .u64 (c.2.1.toNat : Int), .int .u64 (c.2.2.1.toNat : Int), .int .u64 (c.2.2.2.toNat : Int)]] W fun e w' => e = .returned (.agg #[.int .u64 (bc.1.toNat : Int), .int .u64 (bc.2.1.toNat : Int), .int .u64 (bc.2.2.1.toNat : Int), .int .u64 (bc.2.2.2.toNat : Int)]) ∧ Below W.heap.size W w') := fun W hW => by
              have := mbehind_any B g hb mb fo fc sb sc p (G p k) D c W hW HFL.out
              rwa [HBC.out] at this
            have HRO : Hid (∀ W, Ma B g hb mb fo fc sb sc p (G p k) D W → Calls Try.prog 26 #[.pointer (some ⟨g, 0, none⟩), .agg #[.int .u64 (bc.1.toNat : Int), .int .u64 (bc.2.1.toNat : Int), .int .u64 (bc.2.2.1.toNat : Int), .int .u64 (bc.2.2.2.toNat : Int)]] W fun e w' => e = .returned (.agg (rl (rA p k)).toArray) ∧ RowP B g hb mb fo fc sb p (G p k) bc W w') := fun W hW => by
              have := row_any B g hb mb fo fc sb sc p (G p k) D bc W hW (G_pos p k) (by have := HLE.out; omega)
              have e : (rl fun b => num (grow (hv p) (G p k) bc 256) (meet bc (hv p b))) = rl (rA p k) := by
                congr 1
                funext b
                show _ = num (grow (hv p) (G p k) (nx p (G p k) k) 256) (meet (nx p (G p k) k) (hv p b))
                rw [HNXE.out]
              rwa [e] at this
            have HNX : Hid (∀ sb' sc' D' W', Ma B g hb mb fo fc sb' sc' p (grow (hv p) (G p k) bc 256) D' W' → Ma B g hb mb fo fc sb' sc' p (grow (hv p) (G p k) (nx p (G p k) k) 256) D' W') := fun _ _ _ _ h => by rw [HNXE.out]; exact h
            have HL1 : Hid (∀ u ∈ rl (rA p k), u.oneCell' = true) := rl_mem _
            have hlen := rl_length (rA p k)
            obtain ⟨l, HLL0⟩ : ∃ l, Hid (rl (rA p k) = l) := ⟨_, (rfl : _ = _)⟩
            rw [HLL0.out] at HRO HL1 hlen
            have HLL : Hid (rl (rA p k) = l ∧ l.length = 256) := ⟨HLL0.out, hlen⟩
            clear hlen HLL0
            refine wp_region_free mixed (fun a0 d a W => ∃ (sb2 : Nat) (sc2 : Nat) (D2 : DataW Unit) (gb : Nat) (gr : Nat) (cr : Nat) (x53 x54 x55 x56 x57 x58 x59 x60 x61 x62 : Value), a = ((((((((((a0.put (some 53) x53).put (some 54) x54).put (some 55) x55).put (some 56) x56).put (some 57) x57).put (some 58) x58).put (some 59) x59).put (some 60) x60).put (some 61) x61).put (some 62) x62) ∧ Hid (RM8 w1 w8 B g hb mb fo fc gd p k sb sc D rb rc tb tc ga c bc l sb2 sc2 D2 gb gr cr d x53 x54 x55 x56 x57 x58 x59 x60 x61 x62 W)) (by kernel_rfl) ⟨0, 0, .map [], 0, 0, 0, u53, u54, u55, u56, u57, u58, u59, u60, u61, u62, by simp only [Act.put, List.setIfInBounds_toArray, List.set_cons_zero, List.set_cons_succ], ?_⟩ ?_ ?_
            · exact ⟨fun h => no_way h, fun h => no_way h, fun h => no_way h, fun h => no_way h, fun h => no_way h, fun h => no_way h, fun h => no_way h, fun h => no_way h, fun h => no_way h, fun h => no_way h, fun _ => trivial, fun h => no_way h, fun h => no_way h, fun h => no_way h, fun h => no_way h, fun h => no_way h, fun h => no_way h, HAB.out, fun _ => HM8.out.bx.drew, fun _ => HM8.out.drew, fun h => no_way h, fun h => no_way h, fun h => no_way h, fun h => no_way h⟩
            · simp only [StepAll, and_true]
              refine ⟨?_, ?_, ?_, ?_, ?_, ?_, ?_, ?_, ?_, ?_, ?_⟩
              · intro d a W hI hd hdep
                obtain ⟨sb2, sc2, D2, gb, gr, cr, x53, x54, x55, x56, x57, x58, x59, x60, x61, x62, rfl, hF⟩ := hI
                clear hdep hd
                intro K hK
                simp only [Act.put, List.setIfInBounds_toArray, List.set_cons_zero, List.set_cons_succ]
                go_simp
                refine hK.out _ _ ⟨sb2, sc2, D2, gb, gr, cr, (.pointer (some ⟨gd, 0, none⟩)), x54, x55, x56, x57, x58, x59, x60, x61, x62, by simp only [Act.put, List.setIfInBounds_toArray, List.set_cons_zero, List.set_cons_succ], ?_⟩
                exact ⟨fun _ => rfl, fun h => hF.out.f1 (by simpa using h), fun h => hF.out.f2 (by simpa using h), fun h => hF.out.f3 (by simpa using h), fun h => hF.out.f4 (by simpa using h), fun h => hF.out.f5 (by simpa using h), fun h => hF.out.f6 (by simpa using h), fun h => hF.out.f7 (by simpa using h), fun h => hF.out.f8 (by simpa using h), fun h => hF.out.f9 (by simpa using h), fun h => hF.out.f10 (by simpa using h), fun h => by have := hF.out.o6_5 (by simpa using h); simpa using this, fun h => by have := hF.out.o7_6 (by simpa using h); simpa using this, fun h => by have := hF.out.o8_1 (by simpa using h); simpa using this, fun h => by have := hF.out.o8_7 (by simpa using h); simpa using this, fun h => by have := hF.out.o8_6 (by simpa using h); simpa using this, fun h => by have := hF.out.q10_8 (by simpa using h); simpa using this, hF.out.ab, fun h => hF.out.bx (by simpa using h), fun h => hF.out.m0 (by simpa using h), fun h h2 => hF.out.m1 (by simpa using h) (by simpa using h2), fun h h2 => hF.out.bs (by simpa using h) (by simpa using h2), fun h h2 => hF.out.th (by simpa using h) (by simpa using h2), fun h => hF.out.fin (by simpa using h)⟩
              · intro d a W hI hd hdep
                obtain ⟨sb2, sc2, D2, gb, gr, cr, x53, x54, x55, x56, x57, x58, x59, x60, x61, x62, rfl, hF⟩ := hI
                have hd0 : d 0 = true := dep_of hdep 0 (by kernel_rfl)
                obtain rfl := hF.out.f0 hd0
                have HN8 : Hid (d 8 = false) := no_later hF.out.o8_1 hd
                have ya := (hF.out.bx HN8.out).cell (i := 0) (by omega)
                simp only [dv] at ya
                clear hdep hd hd0
                intro K hK
                simp only [Act.put, List.setIfInBounds_toArray, List.set_cons_zero, List.set_cons_succ]
                go_simp
                refine hK.out _ _ ⟨sb2, sc2, D2, gb, gr, cr, (.pointer (some ⟨gd, 0, none⟩)), (.slice (some ⟨rb, 0, none⟩) k rc), x55, x56, x57, x58, x59, x60, x61, x62, by simp only [Act.put, List.setIfInBounds_toArray, List.set_cons_zero, List.set_cons_succ], ?_⟩
                exact ⟨fun h => hF.out.f0 (by simpa using h), fun _ => rfl, fun h => hF.out.f2 (by simpa using h), fun h => hF.out.f3 (by simpa using h), fun h => hF.out.f4 (by simpa using h), fun h => hF.out.f5 (by simpa using h), fun h => hF.out.f6 (by simpa using h), fun h => hF.out.f7 (by simpa using h), fun h => hF.out.f8 (by simpa using h), fun h => hF.out.f9 (by simpa using h), fun h => hF.out.f10 (by simpa using h), fun h => by have := hF.out.o6_5 (by simpa using h); simpa using this, fun h => by have := hF.out.o7_6 (by simpa using h); simpa using this, fun _ => by simp, fun h => by have := hF.out.o8_7 (by simpa using h); simpa using this, fun h => by have := hF.out.o8_6 (by simpa using h); simpa using this, fun h => by have := hF.out.q10_8 (by simpa using h); simpa using this, hF.out.ab, fun h => hF.out.bx (by simpa using h), fun h => hF.out.m0 (by simpa using h), fun h h2 => hF.out.m1 (by simpa using h) (by simpa using h2), fun h h2 => hF.out.bs (by simpa using h) (by simpa using h2), fun h h2 => hF.out.th (by simpa using h) (by simpa using h2), fun h => hF.out.fin (by simpa using h)⟩
              · intro d a W hI hd hdep
                obtain ⟨sb2, sc2, D2, gb, gr, cr, x53, x54, x55, x56, x57, x58, x59, x60, x61, x62, rfl, hF⟩ := hI
                clear hdep hd
                intro K hK
                simp only [Act.put, List.setIfInBounds_toArray, List.set_cons_zero, List.set_cons_succ]
                go_simp
                refine hK.out _ _ ⟨sb2, sc2, D2, gb, gr, cr, x53, x54, (.pointer (some ⟨g, 0, none⟩)), x56, x57, x58, x59, x60, x61, x62, by simp only [Act.put, List.setIfInBounds_toArray, List.set_cons_zero, List.set_cons_succ], ?_⟩
                exact ⟨fun h => hF.out.f0 (by simpa using h), fun h => hF.out.f1 (by simpa using h), fun _ => rfl, fun h => hF.out.f3 (by simpa using h), fun h => hF.out.f4 (by simpa using h), fun h => hF.out.f5 (by simpa using h), fun h => hF.out.f6 (by simpa using h), fun h => hF.out.f7 (by simpa using h), fun h => hF.out.f8 (by simpa using h), fun h => hF.out.f9 (by simpa using h), fun h => hF.out.f10 (by simpa using h), fun h => by have := hF.out.o6_5 (by simpa using h); simpa using this, fun h => by have := hF.out.o7_6 (by simpa using h); simpa using this, fun h => by have := hF.out.o8_1 (by simpa using h); simpa using this, fun h => by have := hF.out.o8_7 (by simpa using h); simpa using this, fun h => by have := hF.out.o8_6 (by simpa using h); simpa using this, fun h => by have := hF.out.q10_8 (by simpa using h); simpa using this, hF.out.ab, fun h => hF.out.bx (by simpa using h), fun h => hF.out.m0 (by simpa using h), fun h h2 => hF.out.m1 (by simpa using h) (by simpa using h2), fun h h2 => hF.out.bs (by simpa using h) (by simpa using h2), fun h h2 => hF.out.th (by simpa using h) (by simpa using h2), fun h => hF.out.fin (by simpa using h)⟩
              · intro d a W hI hd hdep
                obtain ⟨sb2, sc2, D2, gb, gr, cr, x53, x54, x55, x56, x57, x58, x59, x60, x61, x62, rfl, hF⟩ := hI
                clear hdep hd
                intro K hK
                simp only [Act.put, List.setIfInBounds_toArray, List.set_cons_zero, List.set_cons_succ]
                go_simp
                refine hK.out _ _ ⟨sb2, sc2, D2, gb, gr, cr, x53, x54, x55, (.pointer (some ⟨g, 0, none⟩)), x57, x58, x59, x60, x61, x62, by simp only [Act.put, List.setIfInBounds_toArray, List.set_cons_zero, List.set_cons_succ], ?_⟩
                exact ⟨fun h => hF.out.f0 (by simpa using h), fun h => hF.out.f1 (by simpa using h), fun h => hF.out.f2 (by simpa using h), fun _ => rfl, fun h => hF.out.f4 (by simpa using h), fun h => hF.out.f5 (by simpa using h), fun h => hF.out.f6 (by simpa using h), fun h => hF.out.f7 (by simpa using h), fun h => hF.out.f8 (by simpa using h), fun h => hF.out.f9 (by simpa using h), fun h => hF.out.f10 (by simpa using h), fun h => by have := hF.out.o6_5 (by simpa using h); simpa using this, fun h => by have := hF.out.o7_6 (by simpa using h); simpa using this, fun h => by have := hF.out.o8_1 (by simpa using h); simpa using this, fun h => by have := hF.out.o8_7 (by simpa using h); simpa using this, fun h => by have := hF.out.o8_6 (by simpa using h); simpa using this, fun h => by have := hF.out.q10_8 (by simpa using h); simpa using this, hF.out.ab, fun h => hF.out.bx (by simpa using h), fun h => hF.out.m0 (by simpa using h), fun h h2 => hF.out.m1 (by simpa using h) (by simpa using h2), fun h h2 => hF.out.bs (by simpa using h) (by simpa using h2), fun h h2 => hF.out.th (by simpa using h) (by simpa using h2), fun h => hF.out.fin (by simpa using h)⟩
              · intro d a W hI hd hdep
                obtain ⟨sb2, sc2, D2, gb, gr, cr, x53, x54, x55, x56, x57, x58, x59, x60, x61, x62, rfl, hF⟩ := hI
                obtain ⟨⟨ya, yb, yc, yd⟩, -⟩ := sblock4 hF.out.ab
                clear hdep hd
                intro K hK
                simp only [Act.put, List.setIfInBounds_toArray, List.set_cons_zero, List.set_cons_succ]
                go_simp
                refine hK.out _ _ ⟨sb2, sc2, D2, gb, gr, cr, x53, x54, x55, x56, (.agg #[.int .u64 (c.1.toNat : Int), .int .u64 (c.2.1.toNat : Int), .int .u64 (c.2.2.1.toNat : Int), .int .u64 (c.2.2.2.toNat : Int)]), x58, x59, x60, x61, x62, by simp only [Act.put, List.setIfInBounds_toArray, List.set_cons_zero, List.set_cons_succ], ?_⟩
                exact ⟨fun h => hF.out.f0 (by simpa using h), fun h => hF.out.f1 (by simpa using h), fun h => hF.out.f2 (by simpa using h), fun h => hF.out.f3 (by simpa using h), fun _ => rfl, fun h => hF.out.f5 (by simpa using h), fun h => hF.out.f6 (by simpa using h), fun h => hF.out.f7 (by simpa using h), fun h => hF.out.f8 (by simpa using h), fun h => hF.out.f9 (by simpa using h), fun h => hF.out.f10 (by simpa using h), fun h => by have := hF.out.o6_5 (by simpa using h); simpa using this, fun h => by have := hF.out.o7_6 (by simpa using h); simpa using this, fun h => by have := hF.out.o8_1 (by simpa using h); simpa using this, fun h => by have := hF.out.o8_7 (by simpa using h); simpa using this, fun h => by have := hF.out.o8_6 (by simpa using h); simpa using this, fun h => by have := hF.out.q10_8 (by simpa using h); simpa using this, hF.out.ab, fun h => hF.out.bx (by simpa using h), fun h => hF.out.m0 (by simpa using h), fun h h2 => hF.out.m1 (by simpa using h) (by simpa using h2), fun h h2 => hF.out.bs (by simpa using h) (by simpa using h2), fun h h2 => hF.out.th (by simpa using h) (by simpa using h2), fun h => hF.out.fin (by simpa using h)⟩
              · intro d a W hI hd hdep
                obtain ⟨sb2, sc2, D2, gb, gr, cr, x53, x54, x55, x56, x57, x58, x59, x60, x61, x62, rfl, hF⟩ := hI
                have hd3 : d 3 = true := dep_of hdep 3 (by kernel_rfl)
                have hd4 : d 4 = true := dep_of hdep 4 (by kernel_rfl)
                obtain rfl := hF.out.f3 hd3
                obtain rfl := hF.out.f4 hd4
                have HN6 : Hid (d 6 = false) := no_later hF.out.o6_5 hd
                have HN8 : Hid (d 8 = false) := no_later hF.out.o8_6 HN6.out
                have HN10 : Hid (d 10 = false) := no_later hF.out.q10_8 HN8.out
                have hm0 := hF.out.m0 HN6.out
                have hcl := HBE.out W hm0.ma
                clear hdep hd hd3 hd4
                intro K hK
                simp only [Act.put, List.setIfInBounds_toArray, List.set_cons_zero, List.set_cons_succ]
                go_simp
                refine hcl.mono ?_
                rintro _ W1 ⟨rfl, hb1⟩
                clear hcl
                go_simp
                refine hK.out _ _ ⟨sb2, sc2, D2, gb, gr, cr, x53, x54, x55, (.pointer (some ⟨g, 0, none⟩)), (.agg #[.int .u64 (c.1.toNat : Int), .int .u64 (c.2.1.toNat : Int), .int .u64 (c.2.2.1.toNat : Int), .int .u64 (c.2.2.2.toNat : Int)]), (.agg #[.int .u64 (bc.1.toNat : Int), .int .u64 (bc.2.1.toNat : Int), .int .u64 (bc.2.2.1.toNat : Int), .int .u64 (bc.2.2.2.toNat : Int)]), x59, x60, x61, x62, by simp only [Act.put, List.setIfInBounds_toArray, List.set_cons_zero, List.set_cons_succ], ?_⟩
                exact ⟨fun h => hF.out.f0 (by simpa using h), fun h => hF.out.f1 (by simpa using h), fun h => hF.out.f2 (by simpa using h), fun h => hF.out.f3 (by simpa using h), fun h => hF.out.f4 (by simpa using h), fun _ => rfl, fun h => hF.out.f6 (by simpa using h), fun h => hF.out.f7 (by simpa using h), fun h => hF.out.f8 (by simpa using h), fun h => hF.out.f9 (by simpa using h), fun h => hF.out.f10 (by simpa using h), fun _ => by simp, fun h => by have := hF.out.o7_6 (by simpa using h); simpa using this, fun h => by have := hF.out.o8_1 (by simpa using h); simpa using this, fun h => by have := hF.out.o8_7 (by simpa using h); simpa using this, fun h => by have := hF.out.o8_6 (by simpa using h); simpa using this, fun h => by have := hF.out.q10_8 (by simpa using h); simpa using this, (hb1.block _ (Array.getElem?_eq_some_iff.1 hF.out.ab).1).trans hF.out.ab, fun _ => (hm0.next hb1).bx, fun _ => hm0.next hb1, fun h => by have := HN6.out; simp [this] at h, fun h => by have h9 := hF.out.o7_6 (by simpa using h); have := HN6.out; simp [this] at h9, fun h => by have := HN8.out; simp [this] at h, fun h => by have := HN10.out; simp [this] at h⟩
              · intro d a W hI hd hdep
                obtain ⟨sb2, sc2, D2, gb, gr, cr, x53, x54, x55, x56, x57, x58, x59, x60, x61, x62, rfl, hF⟩ := hI
                have hd2 : d 2 = true := dep_of hdep 2 (by kernel_rfl)
                have hd5 : d 5 = true := dep_of hdep 5 (by kernel_rfl)
                obtain rfl := hF.out.f2 hd2
                obtain rfl := hF.out.f5 hd5
                have e6_5 := hd5
                have HN7 : Hid (d 7 = false) := no_later hF.out.o7_6 hd
                have HN8 : Hid (d 8 = false) := no_later hF.out.o8_6 hd
                have HN10 : Hid (d 10 = false) := no_later hF.out.q10_8 HN8.out
                have hm0 := hF.out.m0 hd
                have hcl := HRO.out W hm0.ma
                clear hdep hd hd2 hd5
                intro K hK
                simp only [Act.put, List.setIfInBounds_toArray, List.set_cons_zero, List.set_cons_succ]
                go_simp
                refine hcl.mono ?_
                rintro _ W1 ⟨rfl, hp1⟩
                obtain ⟨sb3, sc3, D3, g1, g2, g3⟩ := hp1
                clear hcl
                go_simp
                refine hK.out _ _ ⟨sb3, sc3, D3, gb, gr, cr, x53, x54, (.pointer (some ⟨g, 0, none⟩)), x56, x57, (.agg #[.int .u64 (bc.1.toNat : Int), .int .u64 (bc.2.1.toNat : Int), .int .u64 (bc.2.2.1.toNat : Int), .int .u64 (bc.2.2.2.toNat : Int)]), (.agg l.toArray), x60, x61, x62, by simp only [Act.put, List.setIfInBounds_toArray, List.set_cons_zero, List.set_cons_succ], ?_⟩
                exact ⟨fun h => hF.out.f0 (by simpa using h), fun h => hF.out.f1 (by simpa using h), fun h => hF.out.f2 (by simpa using h), fun h => hF.out.f3 (by simpa using h), fun h => hF.out.f4 (by simpa using h), fun h => hF.out.f5 (by simpa using h), fun _ => rfl, fun h => hF.out.f7 (by simpa using h), fun h => hF.out.f8 (by simpa using h), fun h => hF.out.f9 (by simpa using h), fun h => hF.out.f10 (by simpa using h), fun _ => by simpa using e6_5, fun _ => by simp, fun h => by have := hF.out.o8_1 (by simpa using h); simpa using this, fun h => by have := hF.out.o8_7 (by simpa using h); simpa using this, fun _ => by simp, fun h => by have := hF.out.q10_8 (by simpa using h); simpa using this, (g2.blk ga (Array.getElem?_eq_some_iff.1 hF.out.ab).1 HNA.out).trans hF.out.ab, fun _ => fm_row g2 hm0.ma hm0.bx (by decide) (by decide), fun h => by simp at h, fun _ _ => hm0.rowed (HNX.out _ _ _ _ g1) g2, fun h => by have := HN7.out; simp [this] at h, fun h => by have := HN8.out; simp [this] at h, fun h => by have := HN10.out; simp [this] at h⟩
              · intro d a W hI hd hdep
                obtain ⟨sb2, sc2, D2, gb, gr, cr, x53, x54, x55, x56, x57, x58, x59, x60, x61, x62, rfl, hF⟩ := hI
                have hd6 : d 6 = true := dep_of hdep 6 (by kernel_rfl)
                obtain rfl := hF.out.f6 hd6
                have e7_6 := hd6
                have HN8 : Hid (d 8 = false) := no_later hF.out.o8_7 hd
                have HN10 : Hid (d 10 = false) := no_later hF.out.q10_8 HN8.out
                have hm1 := hF.out.m1 hd6 HN8.out
                have B1 := (Below.refl W.heap.size W).alloc (Nat.le_refl _) (Obj.cells l.toArray 72)
                clear hdep hd hd6
                intro K hK
                refine step_buildRow (by rfl) _ (by rfl) l HLL.out.2 (by simp only [Act.put, List.setIfInBounds_toArray, List.set_cons_zero, List.set_cons_succ]; rfl) ?_
                simp only [Act.put, List.setIfInBounds_toArray, List.set_cons_zero, List.set_cons_succ]
                refine hK.out _ _ ⟨sb2, sc2, D2, W.heap.size, gr, cr, x53, x54, x55, x56, x57, x58, (.agg l.toArray), (.slice (some ⟨W.heap.size, 0, none⟩) 1 1), x61, x62, by simp only [Act.put, List.setIfInBounds_toArray, List.set_cons_zero, List.set_cons_succ], ?_⟩
                exact ⟨fun h => hF.out.f0 (by simpa using h), fun h => hF.out.f1 (by simpa using h), fun h => hF.out.f2 (by simpa using h), fun h => hF.out.f3 (by simpa using h), fun h => hF.out.f4 (by simpa using h), fun h => hF.out.f5 (by simpa using h), fun h => hF.out.f6 (by simpa using h), fun _ => rfl, fun h => hF.out.f8 (by simpa using h), fun h => hF.out.f9 (by simpa using h), fun h => hF.out.f10 (by simpa using h), fun h => by have := hF.out.o6_5 (by simpa using h); simpa using this, fun _ => by simpa using e7_6, fun h => by have := hF.out.o8_1 (by simpa using h); simpa using this, fun _ => by simp, fun h => by have := hF.out.o8_6 (by simpa using h); simpa using this, fun h => by have := hF.out.q10_8 (by simpa using h); simpa using this, (B1.block _ (Array.getElem?_eq_some_iff.1 hF.out.ab).1).trans hF.out.ab, fun _ => (hm1.next B1).bx, fun h => by have := e7_6; simp [this] at h, fun _ _ => hm1.next B1, fun _ _ j u hj => by rw [cell_new W l 72 j]; exact hj, fun h => by have := HN8.out; simp [this] at h, fun h => by have := HN10.out; simp [this] at h⟩
              · intro d a W hI hd hdep
                obtain ⟨sb2, sc2, D2, gb, gr, cr, x53, x54, x55, x56, x57, x58, x59, x60, x61, x62, rfl, hF⟩ := hI
                have hd1 : d 1 = true := dep_of hdep 1 (by kernel_rfl)
                have hd7 : d 7 = true := dep_of hdep 7 (by kernel_rfl)
                obtain rfl := hF.out.f1 hd1
                obtain rfl := hF.out.f7 hd7
                have e8_1 := hd1
                have e8_7 := hd7
                have e8_6 := hF.out.o7_6 hd7
                have HN10 : Hid (d 10 = false) := no_later hF.out.q10_8 hd
                have hm1 := hF.out.m1 e8_6 hd
                have hbk := hF.out.bs hd7 hd
                have hm := run_append_lies (P := Try.prog) W 28 28 B 72 i72 _ 256 512 Try.underlying28 H72.out.1 H72.out.2.1 H72.out.2.2.1 H72.out.2.2.2 HSZ2.out (by omega) (.slice (some ⟨rb, 0, none⟩) k rc) k (rcs p k) hm1.rows ⟨gb, 0, none⟩ 1 1 l (by rw [HLL.out.2]) (fun j u hj => by rw [Addr.add_lit, Nat.zero_add]; exact hbk j u hj) HL1.out (by omega) (by have := HK2.out; unfold maxLen; omega) (by have := HK2.out; omega) hm1.ma.ge.2.2.2.2 W.heap.size rfl
                have hmm := hm.choose_spec.choose_spec.choose_spec
                generalize hm.choose_spec.choose_spec.choose = W1x at hmm
                generalize hm.choose_spec.choose = cr2 at hmm
                generalize hm.choose = gr2 at hmm
                have hrun := hmm.1
                have hgr := hm1.growR (gr := gr2) (cr := cr2) hmm.2.2.1 (by rw [rcs_succ, HLL.out.1]; exact hmm.2.1)
                have HM : Hid (W1x.rowIs gd 30 2 (dv rb rc k tb tc k) ∧ Mm w1 B g hb mb fo fc gd p (k + 1) (k + 1) k sb2 sc2 D2 gr2 cr2 tb tc (W1x.setCell ⟨gd, 0, none⟩ (.slice (some ⟨gr2, 0, none⟩) (k + 1) cr2)) ∧ W1x.heap[ga]? = some (.cells #[.int .u64 (c.1.toNat : Int), .int .u64 (c.2.1.toNat : Int), .int .u64 (c.2.2.1.toNat : Int), .int .u64 (c.2.2.2.toNat : Int)] 74)) := ⟨hgr.1, hgr.2.1, (hgr.2.2.blk ga ((Array.getElem?_eq_some_iff.1 hF.out.ab).1) (fun e => by have := e.one ⟨_, hF.out.ab⟩; revert this; decide)).trans hF.out.ab⟩
                clear hmm hm hbk hm1 hgr
                clear hdep hd hd1 hd7
                intro K hK
                refine step_call_append (sv := (.slice (some ⟨rb, 0, none⟩) k rc)) (xv := .slice (some ⟨gb, 0, none⟩) 1 1) (v := (.slice (some ⟨gr2, 0, none⟩) (k + 1) cr2)) (W1 := W1x) (by rfl) _ _ 28 (by rfl) (by simp only [Act.put, List.setIfInBounds_toArray, List.set_cons_zero, List.set_cons_succ]; rfl) (by simp only [Act.put, List.setIfInBounds_toArray, List.set_cons_zero, List.set_cons_succ]; rfl) (by exact hrun) ?_
                simp only [Act.put, List.setIfInBounds_toArray, List.set_cons_zero, List.set_cons_succ]
                refine hK.out _ _ ⟨sb2, sc2, D2, gb, gr2, cr2, x53, (.slice (some ⟨rb, 0, none⟩) k rc), x55, x56, x57, x58, x59, (.slice (some ⟨gb, 0, none⟩) 1 1), (.slice (some ⟨gr2, 0, none⟩) (k + 1) cr2), x62, by simp only [Act.put, List.setIfInBounds_toArray, List.set_cons_zero, List.set_cons_succ], ?_⟩
                exact ⟨fun h => hF.out.f0 (by simpa using h), fun h => hF.out.f1 (by simpa using h), fun h => hF.out.f2 (by simpa using h), fun h => hF.out.f3 (by simpa using h), fun h => hF.out.f4 (by simpa using h), fun h => hF.out.f5 (by simpa using h), fun h => hF.out.f6 (by simpa using h), fun h => hF.out.f7 (by simpa using h), fun _ => rfl, fun h => hF.out.f9 (by simpa using h), fun h => hF.out.f10 (by simpa using h), fun h => by have := hF.out.o6_5 (by simpa using h); simpa using this, fun h => by have := hF.out.o7_6 (by simpa using h); simpa using this, fun _ => by simpa using e8_1, fun _ => by simpa using e8_7, fun _ => by simpa using e8_6, fun _ => by simp, HM.out.2.2, fun h => by simp at h, fun h => by have := e8_6; simp [this] at h, fun _ h => by simp at h, fun _ h => by simp at h, fun _ _ => ⟨HM.out.1, HM.out.2.1⟩, fun h => by have := HN10.out; simp [this] at h⟩
              · intro d a W hI hd hdep
                obtain ⟨sb2, sc2, D2, gb, gr, cr, x53, x54, x55, x56, x57, x58, x59, x60, x61, x62, rfl, hF⟩ := hI
                clear hdep hd
                intro K hK
                simp only [Act.put, List.setIfInBounds_toArray, List.set_cons_zero, List.set_cons_succ]
                go_simp
                refine hK.out _ _ ⟨sb2, sc2, D2, gb, gr, cr, x53, x54, x55, x56, x57, x58, x59, x60, x61, (.pointer (some ⟨gd, 0, none⟩)), by simp only [Act.put, List.setIfInBounds_toArray, List.set_cons_zero, List.set_cons_succ], ?_⟩
                exact ⟨fun h => hF.out.f0 (by simpa using h), fun h => hF.out.f1 (by simpa using h), fun h => hF.out.f2 (by simpa using h), fun h => hF.out.f3 (by simpa using h), fun h => hF.out.f4 (by simpa using h), fun h => hF.out.f5 (by simpa using h), fun h => hF.out.f6 (by simpa using h), fun h => hF.out.f7 (by simpa using h), fun h => hF.out.f8 (by simpa using h), fun _ => rfl, fun h => hF.out.f10 (by simpa using h), fun h => by have := hF.out.o6_5 (by simpa using h); simpa using this, fun h => by have := hF.out.o7_6 (by simpa using h); simpa using this, fun h => by have := hF.out.o8_1 (by simpa using h); simpa using this, fun h => by have := hF.out.o8_7 (by simpa using h); simpa using this, fun h => by have := hF.out.o8_6 (by simpa using h); simpa using this, fun h => by have := hF.out.q10_8 (by simpa using h); simpa using this, hF.out.ab, fun h => hF.out.bx (by simpa using h), fun h => hF.out.m0 (by simpa using h), fun h h2 => hF.out.m1 (by simpa using h) (by simpa using h2), fun h h2 => hF.out.bs (by simpa using h) (by simpa using h2), fun h h2 => hF.out.th (by simpa using h) (by simpa using h2), fun h => hF.out.fin (by simpa using h)⟩
              · intro d a W hI hd hdep
                obtain ⟨sb2, sc2, D2, gb, gr, cr, x53, x54, x55, x56, x57, x58, x59, x60, x61, x62, rfl, hF⟩ := hI
                have hd9 : d 9 = true := dep_of hdep 9 (by kernel_rfl)
                have hd8 : d 8 = true := dep_of hdep 8 (by kernel_rfl)
                obtain rfl := hF.out.f9 hd9
                obtain rfl := hF.out.f8 hd8
                have e10_8 := hd8
                have hth := hF.out.th hd8 hd
                have ya := hth.1.cell (i := 0) (by omega)
                simp only [dv] at ya
                have yb := hth.1.frozen 0
                have HTH : Hid _ := hth.2
                have HGA : Hid (ga ≠ gd) := fun e => by have h1 := row_ty hth.1; rw [← e] at h1; have := h1.one ⟨_, hF.out.ab⟩; revert this; decide
                clear hth
                clear hdep hd hd9 hd8
                intro K hK
                simp only [Act.put, List.setIfInBounds_toArray, List.set_cons_zero, List.set_cons_succ]
                go_simp
                refine hK.out _ _ ⟨sb2, sc2, D2, gb, gr, cr, x53, x54, x55, x56, x57, x58, x59, x60, (.slice (some ⟨gr, 0, none⟩) (k + 1) cr), (.pointer (some ⟨gd, 0, none⟩)), by simp only [Act.put, List.setIfInBounds_toArray, List.set_cons_zero, List.set_cons_succ], ?_⟩
                exact ⟨fun h => hF.out.f0 (by simpa using h), fun h => hF.out.f1 (by simpa using h), fun h => hF.out.f2 (by simpa using h), fun h => hF.out.f3 (by simpa using h), fun h => hF.out.f4 (by simpa using h), fun h => hF.out.f5 (by simpa using h), fun h => hF.out.f6 (by simpa using h), fun h => hF.out.f7 (by simpa using h), fun h => hF.out.f8 (by simpa using h), fun h => hF.out.f9 (by simpa using h), fun _ => trivial, fun h => by have := hF.out.o6_5 (by simpa using h); simpa using this, fun h => by have := hF.out.o7_6 (by simpa using h); simpa using this, fun h => by have := hF.out.o8_1 (by simpa using h); simpa using this, fun h => by have := hF.out.o8_7 (by simpa using h); simpa using this, fun h => by have := hF.out.o8_6 (by simpa using h); simpa using this, fun _ => by simpa using e10_8, (Below.heap_setCell _ _ _ _ HGA.out).trans hF.out.ab, fun h => by have := e10_8; simp [this] at h, fun h => by have := hF.out.o8_6 e10_8; simp [this] at h, fun _ h => by have := e10_8; simp [this] at h, fun _ h => by have := e10_8; simp [this] at h, fun _ h => by simp at h, fun _ => HTH.out⟩
            · intro d a W hI hall
              obtain ⟨sb2, sc2, D2, gb, gr, cr, x53, x54, x55, x56, x57, x58, x59, x60, x61, x62, rfl, hF⟩ := hI
              simp only [List.length_cons, List.length_nil] at hall
              obtain rfl := hF.out.f0 (hall 0 (by omega))
              obtain rfl := hF.out.f1 (hall 1 (by omega))
              obtain rfl := hF.out.f2 (hall 2 (by omega))
              obtain rfl := hF.out.f3 (hall 3 (by omega))
              obtain rfl := hF.out.f4 (hall 4 (by omega))
              obtain rfl := hF.out.f5 (hall 5 (by omega))
              obtain rfl := hF.out.f6 (hall 6 (by omega))
              obtain rfl := hF.out.f7 (hall 7 (by omega))
              obtain rfl := hF.out.f8 (hall 8 (by omega))
              obtain rfl := hF.out.f9 (hall 9 (by omega))
              have HM9x : Hid (Mm w1 B g hb mb fo fc gd p (k + 1) (k + 1) k sb2 sc2 D2 gr cr tb tc W) := hF.out.fin (hall 10 (by omega))
              have HAB9 : Hid (W.heap[ga]? = some (.cells #[.int .u64 (c.1.toNat : Int), .int .u64 (c.2.1.toNat : Int), .int .u64 (c.2.2.1.toNat : Int), .int .u64 (c.2.2.2.toNat : Int)] 74)) := hF.out.ab
              clear hF hall HM8 HAB HBE HRO HNX HLL HL1 HNA
              obtain ⟨w9, rfl⟩ : ∃ z, z = W := ⟨_, rfl⟩
              obtain ⟨sb, HSBX⟩ : ∃ z, z = sb2 := ⟨_, rfl⟩
              subst HSBX
              obtain ⟨sc, HSBX⟩ : ∃ z, z = sc2 := ⟨_, rfl⟩
              subst HSBX
              obtain ⟨D, HSBX⟩ : ∃ z, z = D2 := ⟨_, rfl⟩
              subst HSBX
              obtain ⟨rb, HSBX⟩ : ∃ z, z = gr := ⟨_, rfl⟩
              subst HSBX
              obtain ⟨rc, HSBX⟩ : ∃ z, z = cr := ⟨_, rfl⟩
              subst HSBX
              have HM9 := HM9x
              clear HM9x
              simp only [Act.put, List.setIfInBounds_toArray, List.set_cons_zero, List.set_cons_succ]
              go_upto_region 9 with fail
              have HTG : Hid (∀ W, Below B w1 W → Calls Try.prog 30 #[.agg #[.slice b0 n0 k0, .slice b1 n1 k1, .slice b2 n2 k2, .slice b3 n3 k3, .slice b4 n4 k4, .slice b5 n5 k5], .agg #[.int .u64 (c.1.toNat : Int), .int .u64 (c.2.1.toNat : Int), .int .u64 (c.2.2.1.toNat : Int), .int .u64 (c.2.2.2.toNat : Int)]] W fun e w' => e = .returned (.int .i64 (tA p k)) ∧ Below W.heap.size W w') := fun W hW => by
                have := tagOf_any _ _ _ _ _ _ p c W (HP1.out.below (by rw [HBB.out]; exact hW)) HOK.out.1 HOK.out.2
                rwa [← HTK.out] at this
              obtain ⟨tz, HTA⟩ : ∃ z, Hid (tA p k = z) := ⟨_, (rfl : _ = _)⟩
              rw [HTA.out] at HTG
              refine wp_region_free mixed (fun a0 d a W => ∃ (gb : Nat) (gr : Nat) (cr : Nat) (x63 x64 x65 x66 x67 x68 x69 x70 : Value), a = ((((((((a0.put (some 63) x63).put (some 64) x64).put (some 65) x65).put (some 66) x66).put (some 67) x67).put (some 68) x68).put (some 69) x69).put (some 70) x70) ∧ Hid (RM9 w1 B g hb mb fo fc gd p k sb sc D rb rc tb tc ga c tz pb b0 b1 b2 b3 b4 b5 n0 n1 n2 n3 n4 n5 k0 k1 k2 k3 k4 k5 gb gr cr d x63 x64 x65 x66 x67 x68 x69 x70 W)) (by kernel_rfl) ⟨0, 0, 0, u63, u64, u65, u66, u67, u68, u69, u70, by simp only [Act.put, List.setIfInBounds_toArray, List.set_cons_zero, List.set_cons_succ], ?_⟩ ?_ ?_
              · exact ⟨fun h => no_way h, fun h => no_way h, fun h => no_way h, fun h => no_way h, fun h => no_way h, fun h => no_way h, fun h => no_way h, fun h => no_way h, fun _ => trivial, fun h => no_way h, fun h => no_way h, fun h => no_way h, fun h => no_way h, fun h => no_way h, HM9.out.bl.drew, fun _ => HAB9.out, fun _ => HM9.out.drew, fun h => no_way h, fun h => no_way h, fun h => no_way h⟩
              · simp only [StepAll, and_true]
                refine ⟨?_, ?_, ?_, ?_, ?_, ?_, ?_, ?_, ?_⟩
                · intro d a W hI hd hdep
                  obtain ⟨gb, gr, cr, x63, x64, x65, x66, x67, x68, x69, x70, rfl, hF⟩ := hI
                  clear hdep hd
                  intro K hK
                  simp only [Act.put, List.setIfInBounds_toArray, List.set_cons_zero, List.set_cons_succ]
                  go_simp
                  refine hK.out _ _ ⟨gb, gr, cr, (.pointer (some ⟨gd, 1, none⟩)), x64, x65, x66, x67, x68, x69, x70, by simp only [Act.put, List.setIfInBounds_toArray, List.set_cons_zero, List.set_cons_succ], ?_⟩
                  exact ⟨fun _ => rfl, fun h => hF.out.f1 (by simpa using h), fun h => hF.out.f2 (by simpa using h), fun h => hF.out.f3 (by simpa using h), fun h => hF.out.f4 (by simpa using h), fun h => hF.out.f5 (by simpa using h), fun h => hF.out.f6 (by simpa using h), fun h => hF.out.f7 (by simpa using h), fun h => hF.out.f8 (by simpa using h), fun h => by have := hF.out.o4_3 (by simpa using h); simpa using this, fun h => by have := hF.out.o5_4 (by simpa using h); simpa using this, fun h => by have := hF.out.o6_1 (by simpa using h); simpa using this, fun h => by have := hF.out.o6_5 (by simpa using h); simpa using this, fun h => by have := hF.out.q8_6 (by simpa using h); simpa using this, hF.out.bl, fun h => hF.out.ab (by simpa using h), fun h => hF.out.m0 (by simpa using h), fun h h2 => hF.out.bs (by simpa using h) (by simpa using h2), fun h h2 => hF.out.th (by simpa using h) (by simpa using h2), fun h => hF.out.fin (by simpa using h)⟩
                · intro d a W hI hd hdep
                  obtain ⟨gb, gr, cr, x63, x64, x65, x66, x67, x68, x69, x70, rfl, hF⟩ := hI
                  have hd0 : d 0 = true := dep_of hdep 0 (by kernel_rfl)
                  obtain rfl := hF.out.f0 hd0
                  have HN6 : Hid (d 6 = false) := no_later hF.out.o6_1 hd
                  have ya := (hF.out.m0 HN6.out).bx.cell (i := 1) (by omega)
                  simp only [dv] at ya
                  clear hdep hd hd0
                  intro K hK
                  simp only [Act.put, List.setIfInBounds_toArray, List.set_cons_zero, List.set_cons_succ]
                  go_simp
                  refine hK.out _ _ ⟨gb, gr, cr, (.pointer (some ⟨gd, 1, none⟩)), (.slice (some ⟨tb, 0, none⟩) k tc), x65, x66, x67, x68, x69, x70, by simp only [Act.put, List.setIfInBounds_toArray, List.set_cons_zero, List.set_cons_succ], ?_⟩
                  exact ⟨fun h => hF.out.f0 (by simpa using h), fun _ => rfl, fun h => hF.out.f2 (by simpa using h), fun h => hF.out.f3 (by simpa using h), fun h => hF.out.f4 (by simpa using h), fun h => hF.out.f5 (by simpa using h), fun h => hF.out.f6 (by simpa using h), fun h => hF.out.f7 (by simpa using h), fun h => hF.out.f8 (by simpa using h), fun h => by have := hF.out.o4_3 (by simpa using h); simpa using this, fun h => by have := hF.out.o5_4 (by simpa using h); simpa using this, fun _ => by simp, fun h => by have := hF.out.o6_5 (by simpa using h); simpa using this, fun h => by have := hF.out.q8_6 (by simpa using h); simpa using this, hF.out.bl, fun h => hF.out.ab (by simpa using h), fun h => hF.out.m0 (by simpa using h), fun h h2 => hF.out.bs (by simpa using h) (by simpa using h2), fun h h2 => hF.out.th (by simpa using h) (by simpa using h2), fun h => hF.out.fin (by simpa using h)⟩
                · intro d a W hI hd hdep
                  obtain ⟨gb, gr, cr, x63, x64, x65, x66, x67, x68, x69, x70, rfl, hF⟩ := hI
                  have y0 := (hF.out.bl.cell (p := ⟨pb, 0, none⟩) HPB.out.1).trans HPC.out.1
                  have y1 := (hF.out.bl.cell (p := ⟨pb, 1, none⟩) HPB.out.1).trans HPC.out.2.1
                  have y2 := (hF.out.bl.cell (p := ⟨pb, 2, none⟩) HPB.out.1).trans HPC.out.2.2.1
                  have y3 := (hF.out.bl.cell (p := ⟨pb, 3, none⟩) HPB.out.1).trans HPC.out.2.2.2.1
                  have y4 := (hF.out.bl.cell (p := ⟨pb, 4, none⟩) HPB.out.1).trans HPC.out.2.2.2.2.1
                  have y5 := (hF.out.bl.cell (p := ⟨pb, 5, none⟩) HPB.out.1).trans HPC.out.2.2.2.2.2
                  clear hdep hd
                  intro K hK
                  simp only [Act.put, List.setIfInBounds_toArray, List.set_cons_zero, List.set_cons_succ]
                  go_simp
                  refine hK.out _ _ ⟨gb, gr, cr, x63, x64, (.agg #[.slice b0 n0 k0, .slice b1 n1 k1, .slice b2 n2 k2, .slice b3 n3 k3, .slice b4 n4 k4, .slice b5 n5 k5]), x66, x67, x68, x69, x70, by simp only [Act.put, List.setIfInBounds_toArray, List.set_cons_zero, List.set_cons_succ], ?_⟩
                  exact ⟨fun h => hF.out.f0 (by simpa using h), fun h => hF.out.f1 (by simpa using h), fun _ => rfl, fun h => hF.out.f3 (by simpa using h), fun h => hF.out.f4 (by simpa using h), fun h => hF.out.f5 (by simpa using h), fun h => hF.out.f6 (by simpa using h), fun h => hF.out.f7 (by simpa using h), fun h => hF.out.f8 (by simpa using h), fun h => by have := hF.out.o4_3 (by simpa using h); simpa using this, fun h => by have := hF.out.o5_4 (by simpa using h); simpa using this, fun h => by have := hF.out.o6_1 (by simpa using h); simpa using this, fun h => by have := hF.out.o6_5 (by simpa using h); simpa using this, fun h => by have := hF.out.q8_6 (by simpa using h); simpa using this, hF.out.bl, fun h => hF.out.ab (by simpa using h), fun h => hF.out.m0 (by simpa using h), fun h h2 => hF.out.bs (by simpa using h) (by simpa using h2), fun h h2 => hF.out.th (by simpa using h) (by simpa using h2), fun h => hF.out.fin (by simpa using h)⟩
                · intro d a W hI hd hdep
                  obtain ⟨gb, gr, cr, x63, x64, x65, x66, x67, x68, x69, x70, rfl, hF⟩ := hI
                  have HN4 : Hid (d 4 = false) := no_later hF.out.o4_3 hd
                  obtain ⟨⟨ya, yb, yc, yd⟩, -⟩ := sblock4 (hF.out.ab HN4.out)
                  clear hdep hd
                  intro K hK
                  simp only [Act.put, List.setIfInBounds_toArray, List.set_cons_zero, List.set_cons_succ]
                  go_simp
                  refine hK.out _ _ ⟨gb, gr, cr, x63, x64, x65, (.agg #[.int .u64 (c.1.toNat : Int), .int .u64 (c.2.1.toNat : Int), .int .u64 (c.2.2.1.toNat : Int), .int .u64 (c.2.2.2.toNat : Int)]), x67, x68, x69, x70, by simp only [Act.put, List.setIfInBounds_toArray, List.set_cons_zero, List.set_cons_succ], ?_⟩
                  exact ⟨fun h => hF.out.f0 (by simpa using h), fun h => hF.out.f1 (by simpa using h), fun h => hF.out.f2 (by simpa using h), fun _ => rfl, fun h => hF.out.f4 (by simpa using h), fun h => hF.out.f5 (by simpa using h), fun h => hF.out.f6 (by simpa using h), fun h => hF.out.f7 (by simpa using h), fun h => hF.out.f8 (by simpa using h), fun _ => by simp, fun h => by have := hF.out.o5_4 (by simpa using h); simpa using this, fun h => by have := hF.out.o6_1 (by simpa using h); simpa using this, fun h => by have := hF.out.o6_5 (by simpa using h); simpa using this, fun h => by have := hF.out.q8_6 (by simpa using h); simpa using this, hF.out.bl, fun h => hF.out.ab (by simpa using h), fun h => hF.out.m0 (by simpa using h), fun h h2 => hF.out.bs (by simpa using h) (by simpa using h2), fun h h2 => hF.out.th (by simpa using h) (by simpa using h2), fun h => hF.out.fin (by simpa using h)⟩
                · intro d a W hI hd hdep
                  obtain ⟨gb, gr, cr, x63, x64, x65, x66, x67, x68, x69, x70, rfl, hF⟩ := hI
                  have hd2 : d 2 = true := dep_of hdep 2 (by kernel_rfl)
                  have hd3 : d 3 = true := dep_of hdep 3 (by kernel_rfl)
                  obtain rfl := hF.out.f2 hd2
                  obtain rfl := hF.out.f3 hd3
                  have e4_3 := hd3
                  have HN5 : Hid (d 5 = false) := no_later hF.out.o5_4 hd
                  have HN6 : Hid (d 6 = false) := no_later hF.out.o6_5 HN5.out
                  have HN8 : Hid (d 8 = false) := no_later hF.out.q8_6 HN6.out
                  have hm0 := hF.out.m0 HN6.out
                  have hcl := HTG.out W hF.out.bl
                  clear hdep hd hd2 hd3
                  intro K hK
                  simp only [Act.put, List.setIfInBounds_toArray, List.set_cons_zero, List.set_cons_succ]
                  go_simp
                  refine hcl.mono ?_
                  rintro _ W1 ⟨rfl, hb1⟩
                  clear hcl
                  go_simp
                  refine hK.out _ _ ⟨gb, gr, cr, x63, x64, (.agg #[.slice b0 n0 k0, .slice b1 n1 k1, .slice b2 n2 k2, .slice b3 n3 k3, .slice b4 n4 k4, .slice b5 n5 k5]), (.agg #[.int .u64 (c.1.toNat : Int), .int .u64 (c.2.1.toNat : Int), .int .u64 (c.2.2.1.toNat : Int), .int .u64 (c.2.2.2.toNat : Int)]), (.int .i64 tz), x68, x69, x70, by simp only [Act.put, List.setIfInBounds_toArray, List.set_cons_zero, List.set_cons_succ], ?_⟩
                  exact ⟨fun h => hF.out.f0 (by simpa using h), fun h => hF.out.f1 (by simpa using h), fun h => hF.out.f2 (by simpa using h), fun h => hF.out.f3 (by simpa using h), fun _ => rfl, fun h => hF.out.f5 (by simpa using h), fun h => hF.out.f6 (by simpa using h), fun h => hF.out.f7 (by simpa using h), fun h => hF.out.f8 (by simpa using h), fun _ => by simpa using e4_3, fun _ => by simp, fun h => by have := hF.out.o6_1 (by simpa using h); simpa using this, fun h => by have := hF.out.o6_5 (by simpa using h); simpa using this, fun h => by have := hF.out.q8_6 (by simpa using h); simpa using this, hF.out.bl.trans (hb1.mono (HGE.out W hF.out.bl)), fun h => by simp at h, fun _ => hm0.next hb1, fun h => by have := HN5.out; simp [this] at h, fun h => by have := HN6.out; simp [this] at h, fun h => by have := HN8.out; simp [this] at h⟩
                · intro d a W hI hd hdep
                  obtain ⟨gb, gr, cr, x63, x64, x65, x66, x67, x68, x69, x70, rfl, hF⟩ := hI
                  have hd4 : d 4 = true := dep_of hdep 4 (by kernel_rfl)
                  obtain rfl := hF.out.f4 hd4
                  have e5_4 := hd4
                  have HN6 : Hid (d 6 = false) := no_later hF.out.o6_5 hd
                  have HN8 : Hid (d 8 = false) := no_later hF.out.q8_6 HN6.out
                  have hm0 := hF.out.m0 HN6.out
                  clear hdep hd hd4
                  intro K hK
                  simp only [Act.put, List.setIfInBounds_toArray, List.set_cons_zero, List.set_cons_succ]
                  go_simp
                  refine hK.out _ _ ⟨W.heap.size, gr, cr, x63, x64, x65, x66, (.int .i64 tz), (.slice (some ⟨W.heap.size, 0, none⟩) 1 1), x69, x70, by simp only [Act.put, List.setIfInBounds_toArray, List.set_cons_zero, List.set_cons_succ], ?_⟩
                  have B1 := (Below.refl W.heap.size W).alloc (Nat.le_refl _) (Obj.cells #[.int .i64 tz] 3)
                  exact ⟨fun h => hF.out.f0 (by simpa using h), fun h => hF.out.f1 (by simpa using h), fun h => hF.out.f2 (by simpa using h), fun h => hF.out.f3 (by simpa using h), fun h => hF.out.f4 (by simpa using h), fun _ => rfl, fun h => hF.out.f6 (by simpa using h), fun h => hF.out.f7 (by simpa using h), fun h => hF.out.f8 (by simpa using h), fun h => by have := hF.out.o4_3 (by simpa using h); simpa using this, fun _ => by simpa using e5_4, fun h => by have := hF.out.o6_1 (by simpa using h); simpa using this, fun _ => by simp, fun h => by have := hF.out.q8_6 (by simpa using h); simpa using this, hF.out.bl.trans (B1.mono (HGE.out W hF.out.bl)), fun h => by have := e5_4; simp [this] at h, fun _ => hm0.next B1, fun _ _ j u hj => by rw [cell_new W ([.int .i64 tz] : List Value) 3 j]; exact hj, fun h => by have := HN6.out; simp [this] at h, fun h => by have := HN8.out; simp [this] at h⟩
                · intro d a W hI hd hdep
                  obtain ⟨gb, gr, cr, x63, x64, x65, x66, x67, x68, x69, x70, rfl, hF⟩ := hI
                  have hd1 : d 1 = true := dep_of hdep 1 (by kernel_rfl)
                  have hd5 : d 5 = true := dep_of hdep 5 (by kernel_rfl)
                  obtain rfl := hF.out.f1 hd1
                  obtain rfl := hF.out.f5 hd5
                  have e6_1 := hd1
                  have e6_5 := hd5
                  have HN8 : Hid (d 8 = false) := no_later hF.out.q8_6 hd
                  have e5 := hF.out.o5_4 hd5
                  have hm0 := hF.out.m0 hd
                  have hbk := hF.out.bs hd5 hd
                  have hm := run_append_lies (P := Try.prog) W 23 23 B 3 i3 _ 1 8 Try.underlying23 H3.out.1 H3.out.2.1 H3.out.2.2.1 H3.out.2.2.2 rfl (by omega) (.slice (some ⟨tb, 0, none⟩) k tc) k (tcs p k) hm0.tags ⟨gb, 0, none⟩ 1 1 [.int .i64 tz] rfl (fun j u hj => by rw [Addr.add_lit, Nat.zero_add]; exact hbk j u hj) (by intro u hu; simp at hu; subst hu; rfl) (by omega) (by have := HK2.out; unfold maxLen; omega) (by have := HK2.out; omega) hm0.ma.ge.2.2.2.2 W.heap.size rfl
                  have hmm := hm.choose_spec.choose_spec.choose_spec
                  generalize hm.choose_spec.choose_spec.choose = W1x at hmm
                  generalize hm.choose_spec.choose = cr2 at hmm
                  generalize hm.choose = gr2 at hmm
                  have hrun := hmm.1
                  have hgr := hm0.growT (gr := gr2) (cr := cr2) hmm.2.2.1 (by rw [tcs_succ, HTA.out]; exact hmm.2.1)
                  have HM : Hid (W1x.rowIs gd 30 2 (dv rb rc (k + 1) tb tc k) ∧ Mm w1 B g hb mb fo fc gd p (k + 1) (k + 1) (k + 1) sb sc D rb rc gr2 cr2 (W1x.setCell ⟨gd, 1, none⟩ (.slice (some ⟨gr2, 0, none⟩) (k + 1) cr2)) ∧ Below B w1 W1x) := ⟨hgr.1, hgr.2, hF.out.bl.grown hmm.2.2.1 hm0.ma.ge.2.2.2.2 (fun q hq => (hm0.tags.lt q hq).1)⟩
                  clear hmm hm hbk hm0 hgr
                  clear hdep hd hd1 hd5
                  intro K hK
                  refine step_call_append (sv := (.slice (some ⟨tb, 0, none⟩) k tc)) (xv := .slice (some ⟨gb, 0, none⟩) 1 1) (v := (.slice (some ⟨gr2, 0, none⟩) (k + 1) cr2)) (W1 := W1x) (by rfl) _ _ 23 (by rfl) (by simp only [Act.put, List.setIfInBounds_toArray, List.set_cons_zero, List.set_cons_succ]; rfl) (by simp only [Act.put, List.setIfInBounds_toArray, List.set_cons_zero, List.set_cons_succ]; rfl) (by exact hrun) ?_
                  simp only [Act.put, List.setIfInBounds_toArray, List.set_cons_zero, List.set_cons_succ]
                  refine hK.out _ _ ⟨gb, gr2, cr2, x63, (.slice (some ⟨tb, 0, none⟩) k tc), x65, x66, x67, (.slice (some ⟨gb, 0, none⟩) 1 1), (.slice (some ⟨gr2, 0, none⟩) (k + 1) cr2), x70, by simp only [Act.put, List.setIfInBounds_toArray, List.set_cons_zero, List.set_cons_succ], ?_⟩
                  exact ⟨fun h => hF.out.f0 (by simpa using h), fun h => hF.out.f1 (by simpa using h), fun h => hF.out.f2 (by simpa using h), fun h => hF.out.f3 (by simpa using h), fun h => hF.out.f4 (by simpa using h), fun h => hF.out.f5 (by simpa using h), fun _ => rfl, fun h => hF.out.f7 (by simpa using h), fun h => hF.out.f8 (by simpa using h), fun h => by have := hF.out.o4_3 (by simpa using h); simpa using this, fun h => by have := hF.out.o5_4 (by simpa using h); simpa using this, fun _ => by simpa using e6_1, fun _ => by simpa using e6_5, fun _ => by simp, HM.out.2.2, fun h => by have := e5; simp [this] at h, fun h => by simp at h, fun _ h => by simp at h, fun _ _ => ⟨HM.out.1, HM.out.2.1⟩, fun h => by have := HN8.out; simp [this] at h⟩
                · intro d a W hI hd hdep
                  obtain ⟨gb, gr, cr, x63, x64, x65, x66, x67, x68, x69, x70, rfl, hF⟩ := hI
                  clear hdep hd
                  intro K hK
                  simp only [Act.put, List.setIfInBounds_toArray, List.set_cons_zero, List.set_cons_succ]
                  go_simp
                  refine hK.out _ _ ⟨gb, gr, cr, x63, x64, x65, x66, x67, x68, x69, (.pointer (some ⟨gd, 1, none⟩)), by simp only [Act.put, List.setIfInBounds_toArray, List.set_cons_zero, List.set_cons_succ], ?_⟩
                  exact ⟨fun h => hF.out.f0 (by simpa using h), fun h => hF.out.f1 (by simpa using h), fun h => hF.out.f2 (by simpa using h), fun h => hF.out.f3 (by simpa using h), fun h => hF.out.f4 (by simpa using h), fun h => hF.out.f5 (by simpa using h), fun h => hF.out.f6 (by simpa using h), fun _ => rfl, fun h => hF.out.f8 (by simpa using h), fun h => by have := hF.out.o4_3 (by simpa using h); simpa using this, fun h => by have := hF.out.o5_4 (by simpa using h); simpa using this, fun h => by have := hF.out.o6_1 (by simpa using h); simpa using this, fun h => by have := hF.out.o6_5 (by simpa using h); simpa using this, fun h => by have := hF.out.q8_6 (by simpa using h); simpa using this, hF.out.bl, fun h => hF.out.ab (by simpa using h), fun h => hF.out.m0 (by simpa using h), fun h h2 => hF.out.bs (by simpa using h) (by simpa using h2), fun h h2 => hF.out.th (by simpa using h) (by simpa using h2), fun h => hF.out.fin (by simpa using h)⟩
                · intro d a W hI hd hdep
                  obtain ⟨gb, gr, cr, x63, x64, x65, x66, x67, x68, x69, x70, rfl, hF⟩ := hI
                  have hd7 : d 7 = true := dep_of hdep 7 (by kernel_rfl)
                  have hd6 : d 6 = true := dep_of hdep 6 (by kernel_rfl)
                  obtain rfl := hF.out.f7 hd7
                  obtain rfl := hF.out.f6 hd6
                  have e8_6 := hd6
                  have hth := hF.out.th hd6 hd
                  have ya := hth.1.cell (i := 1) (by omega)
                  simp only [dv] at ya
                  have yb := hth.1.frozen 1
                  have HTH : Hid _ := hth.2
                  clear hth
                  clear hdep hd hd7 hd6
                  intro K hK
                  simp only [Act.put, List.setIfInBounds_toArray, List.set_cons_zero, List.set_cons_succ]
                  go_simp
                  refine hK.out _ _ ⟨gb, gr, cr, x63, x64, x65, x66, x67, x68, (.slice (some ⟨gr, 0, none⟩) (k + 1) cr), (.pointer (some ⟨gd, 1, none⟩)), by simp only [Act.put, List.setIfInBounds_toArray, List.set_cons_zero, List.set_cons_succ], ?_⟩
                  exact ⟨fun h => hF.out.f0 (by simpa using h), fun h => hF.out.f1 (by simpa using h), fun h => hF.out.f2 (by simpa using h), fun h => hF.out.f3 (by simpa using h), fun h => hF.out.f4 (by simpa using h), fun h => hF.out.f5 (by simpa using h), fun h => hF.out.f6 (by simpa using h), fun h => hF.out.f7 (by simpa using h), fun _ => trivial, fun h => by have := hF.out.o4_3 (by simpa using h); simpa using this, fun h => by have := hF.out.o5_4 (by simpa using h); simpa using this, fun h => by have := hF.out.o6_1 (by simpa using h); simpa using this, fun h => by have := hF.out.o6_5 (by simpa using h); simpa using this, fun _ => by simpa using e8_6, HTH.out.bl, fun h => by have := hF.out.o5_4 (hF.out.o6_5 e8_6); simp [this] at h, fun h => by have := e8_6; simp [this] at h, fun _ h => by have := e8_6; simp [this] at h, fun _ h => by simp at h, fun _ => HTH.out⟩
              · intro d a W hI hall
                obtain ⟨gb, gr, cr, x63, x64, x65, x66, x67, x68, x69, x70, rfl, hF⟩ := hI
                simp only [List.length_cons, List.length_nil] at hall
                obtain rfl := hF.out.f0 (hall 0 (by omega))
                obtain rfl := hF.out.f1 (hall 1 (by omega))
                obtain rfl := hF.out.f2 (hall 2 (by omega))
                obtain rfl := hF.out.f3 (hall 3 (by omega))
                obtain rfl := hF.out.f4 (hall 4 (by omega))
                obtain rfl := hF.out.f5 (hall 5 (by omega))
                obtain rfl := hF.out.f6 (hall 6 (by omega))
                obtain rfl := hF.out.f7 (hall 7 (by omega))
                have HNXT : Hid (Far p (k + 1) ∧ ∃ sb sc D rb rc tb tc, Mm w1 B g hb mb fo fc gd p (k + 1) (k + 1) (k + 1) sb sc D rb rc tb tc W) := ⟨HFAR.out.next HLT.out HLE.out, _, _, _, _, _, _, _, hF.out.fin (hall 8 (by omega))⟩
                have HMEA : Hid (202 - rowsOf gd W < 202 - rowsOf gd wr) := by
                  show _ < _
                  rw [(hF.out.fin (hall 8 (by omega))).rowsOf, HROW.out]
                  have := HK2.out
                  omega
                clear hF hall
                simp only [Act.put, List.setIfInBounds_toArray, List.set_cons_zero, List.set_cons_succ]
                go_wp2_with fail
                go_roundw
                case rel => exact ⟨k + 1, HNXT⟩
                case measure => exact HMEA.out
        · have hend : Dm.End p k := ⟨hfar, Or.inl (by omega)⟩
          have HEND : Hid (Dm.End p k) := hend
          have HGT : Hid (200 < (G p k).length) := (by omega : 200 < (G p k).length)
          have d1 : decide ((k : Int) < ((G p k).length : Int)) = true := by simp; omega
          have d2 : decide (((G p k).length : Int) ≤ 200) = false := by simp; omega
          have e1 : decide (k < (G p k).length) = true := by simp; omega
          have e2 : decide ((G p k).length ≤ 200) = false := by simp; omega
          have d3 : decide ((200 : Int) < ((G p k).length : Int)) = true := by simp; omega
          have e3 : decide (200 < (G p k).length) = true := by simp; omega
          clear h1 h2 hfar hend
          go_upto_region 6 with fail
          go_quiet (fail)
          have HBF : Hid (Below B w1 (wr.drewN nq)) := (HMM.out.next (W' := wr.drewN nq) ⟨rfl, rfl, rfl, Nat.le_refl _, fun _ _ => rfl⟩).bl
          have y2 : (wr.drewN nq).cell? ⟨g, 2, none⟩ = some (.slice (some ⟨sb, 0, none⟩) (G p k).length sc) := y1
          clear y0 y1 HMM HROW
          generalize wr.drewN nq = w7 at HBF y2 ⊢
          have hrs := HRS.out.1.of_block (HBF.out.block _ HRS.out.2)
          have z0 := hrs.cell (i := 0) (by omega)
          have z1 := hrs.cell (i := 1) (by omega)
          have z2 := hrs.frozen 0
          have z3 := hrs.frozen 1
          go_wp2_with fail
          have hrow : ((w7.setCell ⟨rs, 0, none⟩ (.slice none 0 0)).setCell ⟨rs, 1, none⟩ (.slice none 0 0)).rowIs rs 30 2 (fun _ => .slice none 0 0) := ((hrs.set 0 _).set 1 _).congr fun i hi => by
            have : i = 0 ∨ i = 1 := by omega
            rcases this with rfl | rfl <;> simp
          have hc0 := hrow.cell (i := 0) (by omega)
          have hc1 := hrow.cell (i := 1) (by omega)
          refine bodyPost_ret (v := .tuple #[.agg #[.slice none 0 0, .slice none 0 0], .int .i64 8]) (by simp [results, Try.results9, go_sem, hc0, hc1]) rfl ⟨k, HEND.out, Or.inl ⟨HGT.out, rfl⟩, ?_⟩
          have hb9 : Below w.heap.size w w7 := HBW.out.1.trans (HBF.out.mono (by have := HBW.out.1.size; have := HBB.out; omega))
          exact (hb9.setCell (show w.heap.size ≤ rs by have := HRSE.out; omega) _).setCell (show w.heap.size ≤ rs by have := HRSE.out; omega) _
      · have hkl : (G p k).length = k := by have := hfar.le_len; omega
        have HEND : Hid (Dm.End p k) := ⟨hfar, Or.inr hkl⟩
        have HGK : Hid ((G p k).length = k ∧ k ≤ 200) := ⟨hkl, by
          obtain ⟨j, rfl⟩ : ∃ j, k = j + 1 := ⟨k - 1, by have := hfar.pos; omega⟩
          by_cases e : j = 0
          · omega
          · have h3 := hfar.le j (by omega)
            have h4 := h3.2 (by omega)
            omega⟩
        have d1 : decide ((k : Int) < ((G p k).length : Int)) = false := by simp; omega
        have e1 : decide (k < (G p k).length) = false := by simp; omega
        have d3 : decide ((200 : Int) < ((G p k).length : Int)) = false := by have := HGK.out; simp; omega
        have e3 : decide (200 < (G p k).length) = false := by have := HGK.out; simp; omega
        clear h1 hfar hkl
        go_upto_region 6 with fail
        go_quiet (fail)
        have HM7 : Hid (Mm w1 B g hb mb fo fc gd p k k k sb sc D rb rc tb tc (wr.drewN nq)) := HMM.out.next ⟨rfl, rfl, rfl, Nat.le_refl _, fun _ _ => rfl⟩
        clear y0 y1 HMM HROW
        generalize wr.drewN nq = w7 at HM7 ⊢
        have y0 := HM7.out.bx.cell (i := 0) (by omega)
        have y1 := HM7.out.bx.cell (i := 1) (by omega)
        have y2 := HM7.out.ma.bx.cell (i := 2) (by omega)
        simp only [dv] at y0 y1
        simp only [mv] at y2
        have hrs := HRS.out.1.of_block (HM7.out.bl.block _ HRS.out.2)
        have z0 := hrs.cell (i := 0) (by omega)
        have z1 := hrs.cell (i := 1) (by omega)
        have z2 := hrs.frozen 0
        have z3 := hrs.frozen 1
        go_wp2_with fail
        have hrow : ((w7.setCell ⟨rs, 0, none⟩ (.slice (some ⟨rb, 0, none⟩) k rc)).setCell ⟨rs, 1, none⟩ (.slice (some ⟨tb, 0, none⟩) k tc)).rowIs rs 30 2 (dv rb rc k tb tc k) := ((hrs.set 0 _).set 1 _).congr fun i hi => by
          unfold dv
          have : i = 0 ∨ i = 1 := by omega
          rcases this with rfl | rfl <;> simp
        have hc0 := hrow.cell (i := 0) (by omega)
        have hc1 := hrow.cell (i := 1) (by omega)
        simp only [dv] at hc0 hc1
        have k1 : Kt 30 w7 ((w7.setCell ⟨rs, 0, none⟩ (.slice (some ⟨rb, 0, none⟩) k rc)).setCell ⟨rs, 1, none⟩ (.slice (some ⟨tb, 0, none⟩) k tc)) := ⟨by simp [World.setCell], fun q _ hn => by rw [Below.heap_setCell _ _ _ _ (fun e => hn (by rw [e]; exact row_ty hrs)), Below.heap_setCell _ _ _ _ (fun e => hn (by rw [e]; exact row_ty hrs))]⟩
        refine bodyPost_ret (v := .tuple #[.agg #[.slice (some ⟨rb, 0, none⟩) k rc, .slice (some ⟨tb, 0, none⟩) k tc], .int .i64 0]) (by simp [results, Try.results9, go_sem, hc0, hc1]) rfl ⟨k, HEND.out, Or.inr ⟨HGK.out.1, HGK.out.2, rb, rc, tb, tc, rfl, ?_, ?_⟩, ?_⟩
        · have h9 := HM7.out.rw_ HFAR.out (by have := HGK.out; omega)
          obtain ⟨ao, cp, he, hm9, hw9, h9⟩ := h9
          refine ⟨ao, cp, he, hm9, hw9, h9.imp id ?_⟩
          rintro ⟨b9, o9, rfl, hb9, hc9⟩
          cases he
          have hsame := k1.blk rb hb9 (fun e => by have := e.one (own_ty HM7.out.rows rfl); revert this; decide)
          exact ⟨rb, 0, rfl, Nat.lt_of_lt_of_le hb9 k1.size, fun i hi j hj => (cell_as hsame _).trans (hc9 i hi j hj)⟩
        · have h9 := HM7.out.ts_ HFAR.out HOK.out.1
          obtain ⟨ao, cp, he, hm9, hw9, h9⟩ := h9
          refine ⟨ao, cp, he, hm9, hw9, h9.imp id ?_⟩
          rintro ⟨b9, o9, rfl, hb9, hc9⟩
          cases he
          have hsame := k1.blk tb hb9 (fun e => by have := e.one (own_ty HM7.out.tags rfl); revert this; decide)
          exact ⟨tb, 0, rfl, Nat.lt_of_lt_of_le hb9 k1.size, fun i hi => (cell_as hsame _).trans (hc9 i hi)⟩
        · have hb9 : Below w.heap.size w w7 := HBW.out.1.trans (HM7.out.bl.mono (by have := HBW.out.1.size; have := HBB.out; omega))
          exact (hb9.setCell (show w.heap.size ≤ rs by have := HRSE.out; omega) _).setCell (show w.heap.size ≤ rs by have := HRSE.out; omega) _

end Go.Proofs.Ytlmlkpdppkgenaa
