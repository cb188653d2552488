/-
  What pushref.Dfa holds: lists of places for the sets, rows and tags under way. No function is walked here.
-/
import Derived.Test.YtlmlkpdppkgenaaWMake
import Derived.Test.YtlmlkpdppkgenaaDrClos
namespace Go.Proofs.Ytlmlkpdppkgenaa
open Go.RowKit
open Cls Po Dm

/-! ### Lists and sets -/
def Bd (p : P) (c : Cl) : Prop := ∀ y, y < 256 → mem c y = true → y < p.cls.length
theorem bd_meet {p : P} (hn : p.cls.length ≤ 200) (c : Cl) (b : Nat) : Bd p (meet c (hv p b)) := fun y hy h => by
  rw [mem_meet, mem_hv hn _ hy, Bool.and_eq_true] at h
  exact hasAt_lt h.2
theorem bd_empty (p : P) : Bd p empty := fun y _ h => by rw [mem_empty] at h; cases h
theorem sel_set {p : P} {c d : Cl} (h1 : Bd p c) (h2 : Bd p d) (h : sel p.cls.length (mem c) = sel p.cls.length (mem d)) : c = d := ext_mem fun y hy => by
  rw [Bool.eq_iff_iff]
  constructor
  · intro g
    have : (y : Int) ∈ sel p.cls.length (mem c) := (sel_mem _ _ _).2 ⟨y, h1 y hy g, g, rfl⟩
    rw [h] at this
    obtain ⟨z, -, hz, e⟩ := (sel_mem _ _ _).1 this
    obtain rfl : y = z := by omega
    exact hz
  · intro g
    have : (y : Int) ∈ sel p.cls.length (mem d) := (sel_mem _ _ _).2 ⟨y, h2 y hy g, g, rfl⟩
    rw [← h] at this
    obtain ⟨z, -, hz, e⟩ := (sel_mem _ _ _).1 this
    obtain rfl : y = z := by omega
    exact hz
theorem sel_nil (n : Nat) : sel n (mem empty) = [] := by
  cases h : sel n (mem empty) with
  | nil => rfl
  | cons x l =>
    obtain ⟨y, -, h2, -⟩ := (sel_mem n (mem empty) x).1 (by rw [h]; simp)
    rw [mem_empty] at h2; cases h2
theorem sel_none {p : P} {c : Cl} (h1 : Bd p c) : sel p.cls.length (mem c) = [] ↔ c = empty :=
  ⟨fun h => sel_set h1 (bd_empty p) (by rw [h, sel_nil]), fun h => by rw [h, sel_nil]⟩
theorem add_bd {p : P} {S : List Cl} {c : Cl} (h : ∀ s ∈ S.tail, Bd p s) (hS : 0 < S.length) (hc : Bd p c) : ∀ s ∈ (add S c).tail, Bd p s := by
  unfold add; split
  · exact h
  · split
    · exact h
    · rw [tail_append hS]
      intro s hs
      rcases List.mem_append.1 hs with g | g
      · exact h s g
      · simp at g; subst g; exact hc
theorem grow_bd {p : P} (hn : p.cls.length ≤ 200) {S : List Cl} (h : ∀ s ∈ S.tail, Bd p s) (hS : 0 < S.length) (c : Cl) : ∀ k, ∀ s ∈ (grow (hv p) S c k).tail, Bd p s
  | 0 => h
  | k + 1 => add_bd (grow_bd hn h hS c k) (Nat.lt_of_lt_of_le hS (grow_pre _ _ _ _).length_le) (bd_meet hn c k)
theorem G_bd {p : P} (hn : p.cls.length ≤ 200) : ∀ k, ∀ s ∈ (G p k).tail, Bd p s
  | 0 => by simp [G]
  | k + 1 => grow_bd hn (G_bd hn k) (G_pos p k) _ _
theorem tail_getD {S : List Cl} {j : Nat} (h1 : 1 ≤ j) (h2 : j < S.length) : S.getD j empty ∈ S.tail := by
  cases S with
  | nil => simp at h2
  | cons a l =>
    obtain ⟨i, rfl⟩ : ∃ i, j = i + 1 := ⟨j - 1, by omega⟩
    rw [List.getD_cons_succ, List.getD_eq_getElem?_getD, List.getElem?_eq_getElem (by simp at h2; omega)]
    exact List.getElem_mem _
/-- Found at a place: its number. -/
theorem num_found {S : List Cl} {t : Cl} {a : Nat} (h0 : t ≠ empty) (h1 : 1 ≤ a) (h2 : a < S.length) (h3 : S.getD a empty = t) (hok : Ok S) : add S t = S ∧ num S t = (a : Int) := by
  have hm : t ∈ S.tail := by rw [← h3]; exact tail_getD h1 h2
  refine ⟨by unfold add; rw [if_neg h0, if_pos hm], ?_⟩
  rw [← h3]; exact num_of hok (by omega) h2
theorem num_new {S : List Cl} {t : Cl} (h0 : t ≠ empty) (hS : 0 < S.length) (h3 : ∀ j, 1 ≤ j → j < S.length → S.getD j empty ≠ t) : add S t = S ++ [t] ∧ num (S ++ [t]) t = (S.length : Int) := by
  have hm : t ∉ S.tail := by
    intro h
    obtain ⟨i, h1, h2, -, h4⟩ := num_at h0 h
    exact h3 i h1 h2 h4
  refine ⟨by unfold add; rw [if_neg h0, if_neg hm], ?_⟩
  unfold num
  rw [if_neg h0, tail_append hS, List.idxOf_append, if_neg hm]
  simp only [List.idxOf_cons_self, List.length_tail]
  omega
theorem getD_last (S : List Cl) (t : Cl) : (S ++ [t]).getD S.length empty = t := by simp [List.getD_eq_getElem?_getD]

/-! ### Memory -/
theorem Ints.keep {W W' : World} {v : Value} {l : List Int} (h : Ints W v l) (hs : W.heap.size ≤ W'.heap.size) (e : ∀ b, v.ownBlock = some b → W'.heap[b]? = W.heap[b]?) : Ints W' v l := by
  obtain ⟨ao, cap, rfl, hm, h | ⟨b, o, rfl, h2, h3⟩⟩ := h
  · exact ⟨ao, cap, rfl, hm, Or.inl h⟩
  · exact ⟨_, cap, rfl, hm, Or.inr ⟨b, o, rfl, Nat.lt_of_lt_of_le h2 hs, fun i hi => (cell_as (e b rfl) _).trans (h3 i hi)⟩⟩
def lv (ro : Option Addr) (rc kr gt tc kt : Nat) : Nat → Value := fun i => if i = 0 then .slice ro kr rc else .slice (some ⟨gt, 0, none⟩) kt tc
def tl2 (p : P) (S : List Cl) (k : Nat) : List Value := (List.range k).map fun i => .int .i64 (tagF p S i)
theorem tl2_length (p : P) (S : List Cl) (k : Nat) : (tl2 p S k).length = k := by simp [tl2]
theorem tl2_add (p : P) (S : List Cl) (t : Cl) (hS : 0 < S.length) : tl2 p (S ++ [t]) (S.length + 1) = tl2 p S S.length ++ [.int .i64 (tgF p t)] := by
  unfold tl2
  rw [List.range_succ, List.map_append]
  congr 1
  · apply List.map_congr_left
    intro i hi
    unfold tagF
    rw [getD_pre (List.prefix_append _ _) (by simpa using hi)]
  · simp only [List.map_cons, List.map_nil]
    unfold tagF
    rw [if_neg (by omega), getD_last]
/-- What pushref.Dfa holds: lists of the sets S, tags of the sets U, rows. -/
structure Rd (w1 : World) (B ob : Nat) (p : P) (S U : List Cl) (kr gs sc : Nat) (ro : Option Addr) (rc gt tc : Nat) (V : Nat → Value) (W : World) : Prop where
  bl : Below B w1 W
  bx : W.rowIs ob 30 2 (lv ro rc kr gt tc U.length)
  so : W.ownsRow B 23 1 (.slice (some ⟨gs, 0, none⟩) S.length sc) S.length ((List.range S.length).map V)
  el : ∀ i, i < S.length → Ints W (V i) (sel p.cls.length (mem (S.getD i empty))) ∧ ∀ b, (V i).ownBlock = some b → Ty W b 3 ∧ b ≠ gt
  rs : W.ownsRow B 72 256 (.slice ro kr rc) kr (rcs p kr)
  ta : W.ownsRow B 3 1 (.slice (some ⟨gt, 0, none⟩) U.length tc) U.length (tl2 p U U.length)
  ge : B ≤ ob ∧ B ≤ W.heap.size
variable {w1 W W' : World} {B ob kr gs sc rc gt tc : Nat} {p : P} {S U : List Cl} {ro : Option Addr} {V : Nat → Value}
theorem Ty.lt {W : World} {k : Nat} {t : TypeId} (h : Ty W k t) : k < W.heap.size := by obtain ⟨c, hc⟩ := h; exact (Array.getElem?_eq_some_iff.1 hc).1
theorem Ty.of {W W' : World} {k : Nat} {t : TypeId} (h : Ty W k t) (e : W'.heap[k]? = W.heap[k]?) : Ty W' k t := by obtain ⟨c, hc⟩ := h; exact ⟨c, e.trans hc⟩
theorem Rd.next (h : Rd w1 B ob p S U kr gs sc ro rc gt tc V W) (hb : Below W.heap.size W W') : Rd w1 B ob p S U kr gs sc ro rc gt tc V W' :=
  ⟨h.bl.trans (hb.mono h.ge.2), h.bx.of_block (hb.block _ h.bx.lt), own_below h.so hb, fun i hi => ⟨(h.el i hi).1.below hb, fun b hq => ⟨((h.el i hi).2 b hq).1.of (hb.block _ ((h.el i hi).2 b hq).1.lt), ((h.el i hi).2 b hq).2⟩⟩, own_below h.rs hb, own_below h.ta hb, h.ge.1, Nat.le_trans h.ge.2 hb.size⟩
theorem Rd.drew (h : Rd w1 B ob p S U kr gs sc ro rc gt tc V W) : Rd w1 B ob p S U kr gs sc ro rc gt tc V W.drew := h.next (Below.refl _ _).drew
/-- A store into a row that is under way. -/
theorem Rd.setr {g j : Nat} {v : Value} {f : Nat → Value} (h : Rd w1 B ob p S U kr gs sc ro rc gt tc V W) (hr : W.rowIs g 72 256 f) (hg : B ≤ g) (hn : (Value.slice ro kr rc).ownBlock ≠ some g) : Rd w1 B ob p S U kr gs sc ro rc gt tc V (W.setCell ⟨g, j, none⟩ v) := by
  have k1 : Kt 72 W (W.setCell ⟨g, j, none⟩ v) := Kt.set (row_ty hr)
  have e : ∀ b, Ty W b 3 → (W.setCell ⟨g, j, none⟩ v).heap[b]? = W.heap[b]? := fun b hb => k1.blk b hb.lt (fun e => by have := e.one hb; revert this; decide)
  refine ⟨h.bl.setCell hg _, k1.row (by decide) h.bx, k1.own (by decide) h.so, fun i hi => ⟨(h.el i hi).1.keep k1.size (fun b hq => e b ((h.el i hi).2 b hq).1), fun b hq => ⟨((h.el i hi).2 b hq).1.of (e b ((h.el i hi).2 b hq).1), ((h.el i hi).2 b hq).2⟩⟩, own_keep h.rs (fun k hk => Below.heap_setCell _ _ _ _ (fun e => hn (by have e2 : k = g := e; rw [← e2]; exact hk))), k1.own (by decide) h.ta, h.ge.1, by simp [World.setCell]; exact h.ge.2⟩
/-- A list more among the sets. -/
theorem Rd.addS {g' c' : Nat} {t : Cl} {tv : Value} (h : Rd w1 B ob p S U kr gs sc ro rc gt tc V W) (hg : W.grownBy W' (Value.slice (some ⟨gs, 0, none⟩) S.length sc).ownBlock) (ho : W'.ownsRow B 23 1 (.slice (some ⟨g', 0, none⟩) (S.length + 1) c') (S.length + 1) ((List.range S.length).map V ++ [tv])) (hi : Ints W tv (sel p.cls.length (mem t))) (ht : ∀ b, tv.ownBlock = some b → Ty W b 3 ∧ b ≠ gt) :
    Rd w1 B ob p (S ++ [t]) U kr g' c' ro rc gt tc (fun i => if i = S.length then tv else V i) W' ∧ Kt 23 W W' := by
  have k1 : Kt 23 W W' := Kt.grown hg (fun k hk => own_ty h.so hk)
  have e : ∀ b, Ty W b 3 → W'.heap[b]? = W.heap[b]? := fun b hb => k1.blk b hb.lt (fun e => by have := e.one hb; revert this; decide)
  have hlen : (S ++ [t]).length = S.length + 1 := by simp
  refine ⟨⟨h.bl.grown hg h.ge.2 (fun k hk => (h.so.lt k hk).1), k1.row (by decide) h.bx, ?_, fun i hi2 => ?_, k1.own (by decide) h.rs, k1.own (by decide) h.ta, h.ge.1, Nat.le_trans h.ge.2 k1.size⟩, k1⟩
  · rw [hlen, List.range_succ, List.map_append]
    have e2 : (List.range S.length).map (fun i => if i = S.length then tv else V i) = (List.range S.length).map V := by
      apply List.map_congr_left
      intro i hi3
      rw [if_neg (by simp at hi3; omega)]
    rw [e2]
    simpa using ho
  · rw [hlen] at hi2
    by_cases e3 : i = S.length
    · subst e3
      rw [if_pos rfl, getD_last]
      exact ⟨hi.keep k1.size (fun b hq => e b (ht b hq).1), fun b hq => ⟨(ht b hq).1.of (e b (ht b hq).1), (ht b hq).2⟩⟩
    · rw [if_neg e3, getD_pre (List.prefix_append _ _) (by omega)]
      have h9 := h.el i (by omega)
      exact ⟨h9.1.keep k1.size (fun b hq => e b (h9.2 b hq).1), fun b hq => ⟨(h9.2 b hq).1.of (e b (h9.2 b hq).1), (h9.2 b hq).2⟩⟩
/-- A tag more. -/
theorem Rd.addT {g' c' : Nat} {t : Cl} (h : Rd w1 B ob p (S ++ [t]) S kr gs sc ro rc gt tc V W) (hS : 0 < S.length) (hg : W.grownBy W' (Value.slice (some ⟨gt, 0, none⟩) S.length tc).ownBlock) (ho : W'.ownsRow B 3 1 (.slice (some ⟨g', 0, none⟩) (S.length + 1) c') (S.length + 1) (tl2 p S S.length ++ [.int .i64 (tgF p t)])) (hr : (Value.slice (some ⟨gt, 0, none⟩) S.length tc).ownBlock = some g' ∨ g' = W.heap.size) :
    W'.rowIs ob 30 2 (lv ro rc kr gt tc S.length) ∧ Rd w1 B ob p (S ++ [t]) (S ++ [t]) kr gs sc ro rc g' c' V (W'.setCell ⟨ob, 1, none⟩ (.slice (some ⟨g', 0, none⟩) (S.length + 1) c')) ∧ Kt 3 W W' ∧ Below B w1 W' := by
  have k1 : Kt 3 W W' := Kt.grown hg (fun k hk => own_ty h.ta hk)
  have b1 := k1.row (by decide) h.bx
  have k2 : Kt 30 W' (W'.setCell ⟨ob, 1, none⟩ (.slice (some ⟨g', 0, none⟩) (S.length + 1) c')) := Kt.set (row_ty b1)
  have hlen : (S ++ [t]).length = S.length + 1 := by simp
  have hbl := h.bl.grown hg h.ge.2 (fun k hk => (h.ta.lt k hk).1)
  have hr2 : g' = gt ∨ g' = W.heap.size := hr.imp (fun x => by simpa [Value.ownBlock, eq_comm] using x) id
  refine ⟨b1, ⟨hbl.setCell h.ge.1 _, ?_, k2.own (by decide) (k1.own (by decide) h.so), fun i hi => ?_, k2.own (by decide) (k1.own (by decide) h.rs), ?_, h.ge.1, ?_⟩, k1, hbl⟩
  · rw [hlen]
    refine (b1.set 1 _).congr fun i hi => ?_
    unfold lv
    have : i = 0 ∨ i = 1 := by omega
    rcases this with e | e <;> simp [e]
  · have h9 := h.el i hi
    have e : ∀ b, (V i).ownBlock = some b → W'.heap[b]? = W.heap[b]? := fun b hq => hg.block b (h9.2 b hq).1.lt (fun x => (h9.2 b hq).2 (by simpa [Value.ownBlock] using x))
    have e2 : ∀ b, (V i).ownBlock = some b → (W'.setCell ⟨ob, 1, none⟩ (.slice (some ⟨g', 0, none⟩) (S.length + 1) c')).heap[b]? = W'.heap[b]? := fun b hq => k2.blk b (Nat.lt_of_lt_of_le (h9.2 b hq).1.lt k1.size) (fun x => by have := x.one ((h9.2 b hq).1.of (e b hq)); revert this; decide)
    refine ⟨(h9.1.keep k1.size e).keep k2.size e2, fun b hq => ⟨((h9.2 b hq).1.of (e b hq)).of (e2 b hq), fun x => ?_⟩⟩
    rcases hr2 with r | r
    · exact (h9.2 b hq).2 (x.trans r)
    · have := (h9.2 b hq).1.lt; omega
  · rw [hlen, tl2_add p S t hS]
    exact k2.own (by decide) ho
  · have := k1.size
    have := h.ge.2
    simp [World.setCell]; omega
/-- A row more. -/
theorem Rd.addR {g' c' : Nat} (h : Rd w1 B ob p S U kr gs sc ro rc gt tc V W) (hg : W.grownBy W' (Value.slice ro kr rc).ownBlock) (ho : W'.ownsRow B 72 256 (.slice (some ⟨g', 0, none⟩) (kr + 1) c') (kr + 1) (rcs p (kr + 1))) :
    W'.rowIs ob 30 2 (lv ro rc kr gt tc U.length) ∧ Rd w1 B ob p S U (kr + 1) gs sc (some ⟨g', 0, none⟩) c' gt tc V (W'.setCell ⟨ob, 0, none⟩ (.slice (some ⟨g', 0, none⟩) (kr + 1) c')) := by
  have k1 : Kt 72 W W' := Kt.grown hg (fun k hk => own_ty h.rs hk)
  have b1 := k1.row (by decide) h.bx
  have k2 : Kt 30 W' (W'.setCell ⟨ob, 0, none⟩ (.slice (some ⟨g', 0, none⟩) (kr + 1) c')) := Kt.set (row_ty b1)
  refine ⟨b1, ⟨(h.bl.grown hg h.ge.2 (fun k hk => (h.rs.lt k hk).1)).setCell h.ge.1 _, ?_, k2.own (by decide) (k1.own (by decide) h.so), fun i hi => ?_, k2.own (by decide) ho, k2.own (by decide) (k1.own (by decide) h.ta), h.ge.1, ?_⟩⟩
  · refine (b1.set 0 _).congr fun i hi => ?_
    unfold lv
    have : i = 0 ∨ i = 1 := by omega
    rcases this with e | e <;> simp [e]
  · have h9 := h.el i hi
    have e : ∀ b, (V i).ownBlock = some b → W'.heap[b]? = W.heap[b]? := fun b hq => k1.blk b (h9.2 b hq).1.lt (fun x => by have := x.one (h9.2 b hq).1; revert this; decide)
    have e2 : ∀ b, (V i).ownBlock = some b → (W'.setCell ⟨ob, 0, none⟩ (.slice (some ⟨g', 0, none⟩) (kr + 1) c')).heap[b]? = W'.heap[b]? := fun b hq => k2.blk b (Nat.lt_of_lt_of_le (h9.2 b hq).1.lt k1.size) (fun x => by have := x.one ((h9.2 b hq).1.of (e b hq)); revert this; decide)
    exact ⟨(h9.1.keep k1.size e).keep k2.size e2, fun b hq => ⟨((h9.2 b hq).1.of (e b hq)).of (e2 b hq), (h9.2 b hq).2⟩⟩
  · have := k1.size
    have := h.ge.2
    simp [World.setCell]; omega
/-- The list of set i. -/
theorem Rd.at_ (h : Rd w1 B ob p S U kr gs sc ro rc gt tc V W) {i : Nat} (hi : i < S.length) : W.cell? ⟨gs, i, none⟩ = some (V i) := by
  obtain ⟨-, ⟨h1, _⟩ | ⟨g', cap', cur, hv, hg, hh, hn, hc, hs, ht⟩⟩ := h.so
  · cases h1
  · cases hv
    have e : ((List.range S.length).map V)[i]? = some (V i) := by simp [hi]
    rw [← ht, List.getElem?_take_of_lt (by omega)] at e
    have e1 : W.cell? ⟨gs, i, none⟩ = cur[i]? := by simp [World.cell?, hh]
    rw [e1]
    simpa using e
/-- So far all went well. -/
def Gd (p : P) (n : Nat) : Prop := (∀ j, j < n → j < (G p j).length ∧ (G p j).length ≤ 200) ∧ (G p n).length ≤ 200
theorem Gd.far {n : Nat} (h : Gd p n) (hn : 0 < n) : Far p n := ⟨hn, fun j hj => ⟨(h.1 j hj).1, fun _ => (h.1 j hj).2⟩⟩
theorem Gd.le {n : Nat} (h : Gd p n) : n ≤ 200 := by
  cases n with
  | zero => omega
  | succ n => have := h.1 n (by omega); omega
theorem Gd.next {n : Nat} (h : Gd p n) (h1 : n < (G p n).length) (h2 : (G p (n + 1)).length ≤ 200) : Gd p (n + 1) :=
  ⟨fun j hj => by
    by_cases e : j = n
    · subst e; exact ⟨h1, h.2⟩
    · exact h.1 j (by omega), h2⟩
theorem Gd.over {n : Nat} (h : Gd p n) (h1 : n < (G p n).length) (h2 : 200 < (G p (n + 1)).length) : Dm.End p (n + 1) :=
  ⟨⟨by omega, fun j hj => by
    by_cases e : j = n
    · subst e; exact ⟨h1, fun _ => h.2⟩
    · exact ⟨(h.1 j (by omega)).1, fun _ => (h.1 j (by omega)).2⟩⟩, Or.inl h2⟩
end Go.Proofs.Ytlmlkpdppkgenaa
