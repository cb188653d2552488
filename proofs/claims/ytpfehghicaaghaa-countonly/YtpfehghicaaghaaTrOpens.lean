/-
  What a tree is that is handed in, or made: its Kids one behind the other in memory, all the way down; and lists of events. No function is walked here.
-/
import Derived.Test.YtpfehghicaaghaaKeeps
import Derived.Test.YtpfehghicaaghaaCheck
import Derived.Test.YtpfehghicaaghaaTrMath
import Derived.Deep.Slices
set_option maxRecDepth 20000
namespace Go.Proofs.Ytpfehghicaaghaa
open Go.ChangeShapes Go.WideShapes Go.ChangeAt Go.RowKit
open Cg

theorem kcells32 : Try.prog.cellsOf 32 = 3 := by kernel_rfl
theorem kcells30 : Try.prog.cellsOf 30 = 1 := by kernel_rfl
theorem info32 : (Try.prog.info? 32).map (fun i => (i.zero, i.size, i.bytes)) = some (some (.agg #[.int .i64 0, .int .i64 0, .slice none 0 0]), 3, 40) := by kernel_rfl

/-- A value is that tree; its blocks are such as P tells. -/
inductive Tx (w : World) (P : Nat → Prop) : Value → T → Prop where
  | mk (p k : Int) (ao : Option Addr) (cap : Nat) (kids : List T) (vals : Nat → Value) (hm : kids.length ≤ 9223372036854775807)
      (hc : kids = [] ∨ ∃ b o, ao = some ⟨b, o, none⟩ ∧ P b ∧ b < w.heap.size ∧ ∀ i, i < kids.length → ∀ j, j < 3 → w.cell? ⟨b, o + i * 3 + j, none⟩ = (vals i).cells[j]?)
      (hr : ∀ i (hi : i < kids.length), Tx w P (vals i) kids[i]) :
      Tx w P (.agg #[.int .i64 p, .int .i64 k, .slice ao kids.length cap]) (.mk p k kids)
theorem cell_same {w w' : World} {b o : Nat} (h : w'.heap[b]? = w.heap[b]?) : w'.cell? ⟨b, o, none⟩ = w.cell? ⟨b, o, none⟩ := by simp [World.cell?, h]
theorem Tx.next {w w' : World} {P : Nat → Prop} {v : Value} {t : T} (h : Tx w P v t) (hb : ∀ b, b < w.heap.size → P b → w'.heap[b]? = w.heap[b]?) (hs : w.heap.size ≤ w'.heap.size) : Tx w' P v t := by
  induction h with
  | mk p k ao cap kids vals hm hc hr ih =>
    refine .mk p k ao cap kids vals hm ?_ ih
    rcases hc with h | ⟨b, o, h1, h2, h3, h4⟩
    · exact Or.inl h
    · exact Or.inr ⟨b, o, h1, h2, Nat.lt_of_lt_of_le h3 hs, fun i hi j hj => (cell_same (hb b h3 h2)).trans (h4 i hi j hj)⟩
theorem Tx.mono {w : World} {P Q : Nat → Prop} {v : Value} {t : T} (h : Tx w P v t) (hb : ∀ b, b < w.heap.size → P b → Q b) : Tx w Q v t := by
  induction h with
  | mk p k ao cap kids vals hm hc hr ih =>
    refine .mk p k ao cap kids vals hm ?_ ih
    rcases hc with h | ⟨b, o, h1, h2, h3, h4⟩
    · exact Or.inl h
    · exact Or.inr ⟨b, o, h1, hb b h3 h2, h3, h4⟩
theorem Tx.bel {w w' : World} {P : Nat → Prop} {v : Value} {t : T} (h : Tx w P v t) (hb : Below w.heap.size w w') : Tx w' P v t := h.next (fun b hl _ => hb.block b hl) hb.size
theorem Tx.shape {w : World} {P : Nat → Prop} {v : Value} {t : T} (h : Tx w P v t) : ∃ (p k : Int) (ao : Option Addr) (cap : Nat) (kids : List T) (vals : Nat → Value), v = .agg #[.int .i64 p, .int .i64 k, .slice ao kids.length cap] ∧ t = .mk p k kids ∧ kids.length ≤ 9223372036854775807 ∧ (kids = [] ∨ ∃ b o, ao = some ⟨b, o, none⟩ ∧ P b ∧ b < w.heap.size ∧ ∀ i, i < kids.length → ∀ j, j < 3 → w.cell? ⟨b, o + i * 3 + j, none⟩ = (vals i).cells[j]?) ∧ ∀ i (hi : i < kids.length), Tx w P (vals i) kids[i] := by
  cases h with
  | mk p k ao cap kids vals hm hc hr => exact ⟨p, k, ao, cap, kids, vals, rfl, rfl, hm, hc, hr⟩
/-- One Kid. -/
structure Kid (w : World) (P : Nat → Prop) (b o i : Nat) (t : T) (p' k' : Int) (a' : Option Addr) (n' c' : Nat) : Prop where
  c0 : w.cell? ⟨b, o + i * 3, none⟩ = some (.int .i64 p')
  c1 : w.cell? ⟨b, o + i * 3 + 1, none⟩ = some (.int .i64 k')
  c2 : w.cell? ⟨b, o + i * 3 + 2, none⟩ = some (.slice a' n' c')
  tx : Tx w P (.agg #[.int .i64 p', .int .i64 k', .slice a' n' c']) t
  lt : b < w.heap.size
  ok : P b
  pr : p' = t.p
  tok : k' = t.k
  len : n' = t.kids.length
/-- The Kids of a tree, each with its cells. -/
theorem Tx.kid {w : World} {P : Nat → Prop} {p k : Int} {ao : Option Addr} {n cap : Nat} {kids : List T} (h : Tx w P (.agg #[.int .i64 p, .int .i64 k, .slice ao n cap]) (.mk p k kids)) (i : Nat) (hi : i < kids.length) :
    ∃ b o p' k' a' n' c', ao = some ⟨b, o, none⟩ ∧ Kid w P b o i kids[i] p' k' a' n' c' := by
  obtain ⟨p2, k2, ao2, cap2, kids2, vals, e1, e2, hm, hc, hr⟩ := h.shape
  simp at e1
  injection e2 with e3 e4 e5
  subst e5
  obtain ⟨rfl, rfl, rfl, rfl, rfl⟩ := e1
  rcases hc with h | ⟨b, o, h1, h2, h3, h4⟩
  · subst h; cases hi
  · obtain ⟨p', k', a', c', kids', vals', hv, ht, -⟩ := (hr i hi).shape
    refine ⟨b, o, p', k', a', kids'.length, c', h1, ?_⟩
    have q := h4 i hi
    rw [hv] at q
    have hx := hr i hi
    rw [hv] at hx
    exact ⟨q 0 (by omega), q 1 (by omega), q 2 (by omega), hx, h3, h2, by rw [ht]; rfl, by rw [ht]; rfl, by rw [ht]; rfl⟩
theorem Kid.next {w w' : World} {P : Nat → Prop} {b o i : Nat} {t : T} {p' k' : Int} {a' : Option Addr} {n' c' : Nat} (h : Kid w P b o i t p' k' a' n' c') (hb : Below w.heap.size w w') : Kid w' P b o i t p' k' a' n' c' :=
  ⟨(hb.cell (p := ⟨b, o + i * 3, none⟩) h.lt).trans h.c0, (hb.cell (p := ⟨b, o + i * 3 + 1, none⟩) h.lt).trans h.c1, (hb.cell (p := ⟨b, o + i * 3 + 2, none⟩) h.lt).trans h.c2, h.tx.bel hb, Nat.lt_of_lt_of_le h.lt hb.size, h.ok, h.pr, h.tok, h.len⟩
/-- A tree in a box of its own. -/
structure Bx (w : World) (g : Nat) (p k : Int) (a : Option Addr) (n c : Nat) : Prop where
  lt : g < w.heap.size
  c0 : w.cell? ⟨g, 0, none⟩ = some (.int .i64 p)
  c1 : w.cell? ⟨g, 1, none⟩ = some (.int .i64 k)
  c2 : w.cell? ⟨g, 2, none⟩ = some (.slice a n c)
theorem Bx.box (w : World) (p k : Int) (a : Option Addr) (n c : Nat) : Bx (w.alloc (Obj.cells #[.int .i64 p, .int .i64 k, .slice a n c] 32)) w.heap.size p k a n c :=
  ⟨by simp, cell_new w _ 32 0, cell_new w _ 32 1, cell_new w _ 32 2⟩
theorem Bx.next {w w' : World} {g : Nat} {p k : Int} {a : Option Addr} {n c : Nat} (h : Bx w g p k a n c) (hb : Below w.heap.size w w') : Bx w' g p k a n c :=
  ⟨Nat.lt_of_lt_of_le h.lt hb.size, (hb.cell (p := ⟨g, 0, none⟩) h.lt).trans h.c0, (hb.cell (p := ⟨g, 1, none⟩) h.lt).trans h.c1, (hb.cell (p := ⟨g, 2, none⟩) h.lt).trans h.c2⟩
/-- Two numbers in a box of their own. -/
structure B2 (w : World) (g : Nat) (x y : Int) : Prop where
  lt : g < w.heap.size
  c0 : w.cell? ⟨g, 0, none⟩ = some (.int .i64 x)
  c1 : w.cell? ⟨g, 1, none⟩ = some (.int .i64 y)
theorem B2.box (w : World) (x y : Int) (ty : Nat) : B2 (w.alloc (Obj.cells #[.int .i64 x, .int .i64 y] ty)) w.heap.size x y :=
  ⟨by simp, cell_new w _ ty 0, cell_new w _ ty 1⟩
theorem B2.next {w w' : World} {g : Nat} {x y : Int} (h : B2 w g x y) (hb : Below w.heap.size w w') : B2 w' g x y :=
  ⟨Nat.lt_of_lt_of_le h.lt hb.size, (hb.cell (p := ⟨g, 0, none⟩) h.lt).trans h.c0, (hb.cell (p := ⟨g, 1, none⟩) h.lt).trans h.c1⟩
/-- The production of that number. -/
theorem Pds.prod {w : World} {ao : Option Addr} {m c : Nat} {ps : List Pd} (h : Pds w (.slice ao m c) ps) {p : Int} (hp : isPr ps p = true) :
    ∃ b o bo bc, ao = some ⟨b, o, none⟩ ∧ m = ps.length ∧ b < w.heap.size ∧ w.cell? ⟨b, o + p.toNat * 2, none⟩ = some (.int .i64 (headOf ps p)) ∧ w.cell? ⟨b, o + p.toNat * 2 + 1, none⟩ = some (.slice bo (bodyOf ps p).length bc) ∧ Syms w (.slice bo (bodyOf ps p).length bc) (bodyOf ps p) := by
  obtain ⟨h0, h1⟩ := isPr_le hp
  have hl : p.toNat < ps.length := by omega
  obtain ⟨ao2, cap, hv, hm, h | ⟨b, o, e1, e2, e3⟩⟩ := h
  · subst h; simp at hl
  · simp at hv
    obtain ⟨rfl, rfl, rfl⟩ := hv
    obtain ⟨d0, u, d1, hs⟩ := e3 p.toNat hl
    have eg : ps.getD p.toNat (0, []) = ps[p.toNat] := by rw [List.getD_eq_getElem?_getD, List.getElem?_eq_getElem hl]; rfl
    have hs' := hs
    obtain ⟨bo, bc, rfl, -⟩ := hs'
    refine ⟨b, o, bo, bc, e1, rfl, e2, ?_, ?_, ?_⟩
    · unfold headOf; rw [eg]; exact d0
    · unfold bodyOf; rw [eg]; exact d1
    · unfold bodyOf; rw [eg]; exact hs

variable {H : Type} {enc : TypeId × Value → H}
theorem open_tree_cells {W : World} : ∀ (m : Nat) {cs : List Value} {y : DataW H × List MemPlace}, DataW.trod enc Try.prog W 0 (fun _ => true) true m 32 cs = some y → ∃ t, Tx W (fun _ => True) (.agg cs.toArray) t := by
  intro m
  induction m using Nat.strongRecOn with
  | ind m ih =>
    intro cs y h
    obtain ⟨xs, n, hn, _, hl, hxl, hf⟩ := DataW.trod_struct Try.underlying32 h
    rw [kcells32] at hl
    match cs, hl with
    | [x0, x1, x2], _ =>
      match xs, hxl with
      | [y0, y1, y2], _ =>
        have f0 := hf 0 _ rfl
        have f1 := hf 1 _ rfl
        have f2 := hf 2 _ rfl
        simp [kcells3, kcells30] at f0 f1 f2
        obtain ⟨z, e0, _, _⟩ := DataW.trod_int Try.underlying3 f0
        obtain ⟨z1, e1, _, _⟩ := DataW.trod_int Try.underlying3 f1
        simp at e0 e1
        subst e0 e1
        rcases DataW.trod_slice Try.underlying30 f2 with ⟨h0, _⟩ | ⟨a, len, cap, elems, rest, n', hn', e5, _, hb, hlc, hmx, hlen, hel, _, _⟩
        · simp at h0
          subst h0
          exact ⟨.mk z z1 [], .mk z z1 none 0 [] (fun _ => undef) (by simp) (Or.inl rfl) (fun i hi => absurd hi (Nat.not_lt_zero _))⟩
        · simp at e5
          subst e5
          have hE : ∀ i, i < len → ∃ q : T × List Value, Tx W (fun _ => True) (.agg q.2.toArray) q.1 ∧ ∀ j, j < 3 → W.cell? ((a.add (i * 3)).add j) = q.2[j]? := fun i hi => by
            have h1 := hel i hi
            rw [kcells32] at h1
            have h2 : elems[i]? = some elems[i] := List.getElem?_eq_getElem (by omega)
            rw [h2] at h1
            cases hcs : W.cells? 0 (a.add (i * 3)) 3 with
            | none => rw [hcs] at h1; cases h1
            | some cs' =>
              rw [hcs] at h1
              obtain ⟨t, ht⟩ := ih n' (by omega) h1
              obtain ⟨_, hlen', hat⟩ := World.cells?_some hcs
              refine ⟨(t, cs'), ht, fun j hj => ?_⟩
              have := hat j (by omega)
              rw [this]
          have : Inhabited (T × List Value) := ⟨(.mk 0 0 [], [])⟩
          obtain ⟨F, hF⟩ := Go.Deep.choose_lt hE
          have hkl : ((List.range len).map fun i => (F i).1).length = len := by simp
          refine ⟨.mk z z1 ((List.range len).map fun i => (F i).1), ?_⟩
          have hx := Tx.mk (w := W) (P := fun _ => True) z z1 (some a) cap ((List.range len).map fun i => (F i).1) (fun i => .agg (F i).2.toArray) (by rw [hkl]; unfold maxLen at hmx; omega) ?_ (fun i hi => by
            have hi' : i < len := by rwa [hkl] at hi
            simpa using (hF i hi').1)
          · rw [hkl] at hx; exact hx
          · by_cases h0 : len = 0
            · left; subst h0; simp
            · right
              obtain ⟨b, off, spot⟩ := a
              have hc0 := (hF 0 (by omega)).2 0 (by omega)
              obtain ⟨_, _, _, _, _, _, hs, _⟩ := (hF 0 (by omega)).1.shape
              have hc1 : W.cell? (((⟨b, off, spot⟩ : Addr).add (0 * 3)).add 0) ≠ Option.none := by
                rw [hc0]
                simp only [Value.agg.injEq] at hs
                have := congrArg Array.toList hs
                simp at this
                rw [this]; simp
              obtain ⟨u, hu⟩ := Option.ne_none_iff_exists'.1 hc1
              have hspot : spot = Option.none := by simpa [Addr.add] using World.cell?_spot hu
              subst hspot
              have e : ∀ i j, ((⟨b, off, Option.none⟩ : Addr).add (i * 3)).add j = ⟨b, off + i * 3 + j, Option.none⟩ := fun i j => by rw [Go.WideShapes.add_plain, Go.WideShapes.add_plain]
              refine ⟨b, off, rfl, trivial, ?_, fun i hi j hj => ?_⟩
              · rw [e] at hu
                exact World.block_lt_of_cell? W _ hu
              · have := (hF i (by rwa [hkl] at hi)).2 j hj
                rw [e] at this
                rw [this]
                simp [Value.cells]
theorem open_tree {W : World} {v : Value} {d : DataW H} {p : List MemPlace} {r : Reach} {b0 : Nat} (hv : Value.okWide Try.prog W r b0 32 v) (h : DataW.Trod enc Try.prog W 0 (fun _ => true) true 32 v d p) : ∃ t : T, Tx W (fun _ => True) v t := by
  obtain ⟨m, hm⟩ := h
  simp only [Value.okWide, Try.underlying32] at hv
  obtain ⟨cs, rfl, _⟩ := hv
  obtain ⟨t, ht⟩ := open_tree_cells m hm
  exact ⟨t, by simpa [Value.cells] using ht⟩

end Go.Proofs.Ytpfehghicaaghaa
