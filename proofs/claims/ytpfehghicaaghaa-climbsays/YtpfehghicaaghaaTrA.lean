/-
  What a tree is that is handed in, or made: its Kids one behind the other in memory, all the way down; and lists of events. No function is walked here. The contracts of trees.isProd, isOf, whole. The contract of trees.(*walk).mayStand. A region that draws its order, whose first operations only read (their callees leave what is held of the world) and lead on to the last ones, which come one behind the other: one walk in the order of the text serves. No function is walked here. What stays while a tree is walked through: blocks of other types than numbers and walks; appending in drawn regions. No function is walked here.
-/
import Derived.Test.YtpfehghicaaghaaWkA
import Derived.Test.YtpfehghicaaghaaGrM
import Derived.Deep.Slices
import Derived.BigQuiet
import Derived.Deep.Cut
import Derived.Deep.DeepCutAuto
import Derived.Test.YtpfehghicaaghaaFcW
import Derived.Deep.AppendLies
namespace Go.Proofs.Ytpfehghicaaghaa
open Go.ChangeShapes Go.WideShapes Go.ChangeAt Go.RowKit
open Cg

theorem kcells32 : Try.prog.cellsOf 32 = 3 := by kernel_rfl
theorem kcells30 : Try.prog.cellsOf 30 = 1 := by kernel_rfl
theorem info32 : (Try.prog.info? 32).map (fun i => (i.zero, i.size, i.bytes)) = some (some (.agg #[.int .i64 0, .int .i64 0, .slice none 0 0]), 3, 40) := by kernel_rfl

/-- A value is that tree; its blocks are such as P tells. -/
inductive Tx (w : World) (P : Nat → Prop) : Value → T → Prop where
  | mk (p k : Int) (ao : Option Addr) (cap : Nat) (kids : List T) (vals : Nat → Value) (hm : kids.length ≤ 9223372036854775807)
      (hc : kids = [] ∨ ∃ b o, ao = some ⟨b, o, none⟩ ∧ P b ∧ b < w.heap.size ∧ ∀ i, i < kids.length → ∀ j, j < 3 → w.cell? ⟨b, o + i * 3 + j, none⟩ = (vals i).cells[j]?)
      (hr : ∀ i (hi : i < kids.length), Tx w P (vals i) kids[i]) :
      Tx w P (.agg #[.int .i64 p, .int .i64 k, .slice ao kids.length cap]) (.mk p k kids)
theorem cell_same {w w' : World} {b o : Nat} (h : w'.heap[b]? = w.heap[b]?) : w'.cell? ⟨b, o, none⟩ = w.cell? ⟨b, o, none⟩ := by simp [World.cell?, h]
theorem Tx.next {w w' : World} {P : Nat → Prop} {v : Value} {t : T} (h : Tx w P v t) (hb : ∀ b, b < w.heap.size → P b → w'.heap[b]? = w.heap[b]?) (hs : w.heap.size ≤ w'.heap.size) : Tx w' P v t := by
  induction h with
  | mk p k ao cap kids vals hm hc hr ih =>
    refine .mk p k ao cap kids vals hm ?_ ih
    rcases hc with h | ⟨b, o, h1, h2, h3, h4⟩
    · exact Or.inl h
    · exact Or.inr ⟨b, o, h1, h2, Nat.lt_of_lt_of_le h3 hs, fun i hi j hj => (cell_same (hb b h3 h2)).trans (h4 i hi j hj)⟩
theorem Tx.mono {w : World} {P Q : Nat → Prop} {v : Value} {t : T} (h : Tx w P v t) (hb : ∀ b, b < w.heap.size → P b → Q b) : Tx w Q v t := by
  induction h with
  | mk p k ao cap kids vals hm hc hr ih =>
    refine .mk p k ao cap kids vals hm ?_ ih
    rcases hc with h | ⟨b, o, h1, h2, h3, h4⟩
    · exact Or.inl h
    · exact Or.inr ⟨b, o, h1, hb b h3 h2, h3, h4⟩
theorem Tx.bel {w w' : World} {P : Nat → Prop} {v : Value} {t : T} (h : Tx w P v t) (hb : Below w.heap.size w w') : Tx w' P v t := h.next (fun b hl _ => hb.block b hl) hb.size
theorem Tx.shape {w : World} {P : Nat → Prop} {v : Value} {t : T} (h : Tx w P v t) : ∃ (p k : Int) (ao : Option Addr) (cap : Nat) (kids : List T) (vals : Nat → Value), v = .agg #[.int .i64 p, .int .i64 k, .slice ao kids.length cap] ∧ t = .mk p k kids ∧ kids.length ≤ 9223372036854775807 ∧ (kids = [] ∨ ∃ b o, ao = some ⟨b, o, none⟩ ∧ P b ∧ b < w.heap.size ∧ ∀ i, i < kids.length → ∀ j, j < 3 → w.cell? ⟨b, o + i * 3 + j, none⟩ = (vals i).cells[j]?) ∧ ∀ i (hi : i < kids.length), Tx w P (vals i) kids[i] := by
  cases h with
  | mk p k ao cap kids vals hm hc hr => exact ⟨p, k, ao, cap, kids, vals, rfl, rfl, hm, hc, hr⟩
/-- One Kid. -/
structure Kid (w : World) (P : Nat → Prop) (b o i : Nat) (t : T) (p' k' : Int) (a' : Option Addr) (n' c' : Nat) : Prop where
  c0 : w.cell? ⟨b, o + i * 3, none⟩ = some (.int .i64 p')
  c1 : w.cell? ⟨b, o + i * 3 + 1, none⟩ = some (.int .i64 k')
  c2 : w.cell? ⟨b, o + i * 3 + 2, none⟩ = some (.slice a' n' c')
  tx : Tx w P (.agg #[.int .i64 p', .int .i64 k', .slice a' n' c']) t
  lt : b < w.heap.size
  ok : P b
  pr : p' = t.p
  tok : k' = t.k
  len : n' = t.kids.length
/-- The Kids of a tree, each with its cells. -/
theorem Tx.kid {w : World} {P : Nat → Prop} {p k : Int} {ao : Option Addr} {n cap : Nat} {kids : List T} (h : Tx w P (.agg #[.int .i64 p, .int .i64 k, .slice ao n cap]) (.mk p k kids)) (i : Nat) (hi : i < kids.length) :
    ∃ b o p' k' a' n' c', ao = some ⟨b, o, none⟩ ∧ Kid w P b o i kids[i] p' k' a' n' c' := by
  obtain ⟨p2, k2, ao2, cap2, kids2, vals, e1, e2, hm, hc, hr⟩ := h.shape
  simp at e1
  injection e2 with e3 e4 e5
  subst e5
  obtain ⟨rfl, rfl, rfl, rfl, rfl⟩ := e1
  rcases hc with h | ⟨b, o, h1, h2, h3, h4⟩
  · subst h; cases hi
  · obtain ⟨p', k', a', c', kids', vals', hv, ht, -⟩ := (hr i hi).shape
    refine ⟨b, o, p', k', a', kids'.length, c', h1, ?_⟩
    have q := h4 i hi
    rw [hv] at q
    have hx := hr i hi
    rw [hv] at hx
    exact ⟨q 0 (by omega), q 1 (by omega), q 2 (by omega), hx, h3, h2, by rw [ht]; rfl, by rw [ht]; rfl, by rw [ht]; rfl⟩
theorem Kid.next {w w' : World} {P : Nat → Prop} {b o i : Nat} {t : T} {p' k' : Int} {a' : Option Addr} {n' c' : Nat} (h : Kid w P b o i t p' k' a' n' c') (hb : Below w.heap.size w w') : Kid w' P b o i t p' k' a' n' c' :=
  ⟨(hb.cell (p := ⟨b, o + i * 3, none⟩) h.lt).trans h.c0, (hb.cell (p := ⟨b, o + i * 3 + 1, none⟩) h.lt).trans h.c1, (hb.cell (p := ⟨b, o + i * 3 + 2, none⟩) h.lt).trans h.c2, h.tx.bel hb, Nat.lt_of_lt_of_le h.lt hb.size, h.ok, h.pr, h.tok, h.len⟩
/-- A tree in a box of its own. -/
structure Bx (w : World) (g : Nat) (p k : Int) (a : Option Addr) (n c : Nat) : Prop where
  lt : g < w.heap.size
  c0 : w.cell? ⟨g, 0, none⟩ = some (.int .i64 p)
  c1 : w.cell? ⟨g, 1, none⟩ = some (.int .i64 k)
  c2 : w.cell? ⟨g, 2, none⟩ = some (.slice a n c)
theorem Bx.box (w : World) (p k : Int) (a : Option Addr) (n c : Nat) : Bx (w.alloc (Obj.cells #[.int .i64 p, .int .i64 k, .slice a n c] 32)) w.heap.size p k a n c :=
  ⟨by simp, cell_new w _ 32 0, cell_new w _ 32 1, cell_new w _ 32 2⟩
theorem Bx.next {w w' : World} {g : Nat} {p k : Int} {a : Option Addr} {n c : Nat} (h : Bx w g p k a n c) (hb : Below w.heap.size w w') : Bx w' g p k a n c :=
  ⟨Nat.lt_of_lt_of_le h.lt hb.size, (hb.cell (p := ⟨g, 0, none⟩) h.lt).trans h.c0, (hb.cell (p := ⟨g, 1, none⟩) h.lt).trans h.c1, (hb.cell (p := ⟨g, 2, none⟩) h.lt).trans h.c2⟩
/-- Two numbers in a box of their own. -/
structure B2 (w : World) (g : Nat) (x y : Int) : Prop where
  lt : g < w.heap.size
  c0 : w.cell? ⟨g, 0, none⟩ = some (.int .i64 x)
  c1 : w.cell? ⟨g, 1, none⟩ = some (.int .i64 y)
theorem B2.box (w : World) (x y : Int) (ty : Nat) : B2 (w.alloc (Obj.cells #[.int .i64 x, .int .i64 y] ty)) w.heap.size x y :=
  ⟨by simp, cell_new w _ ty 0, cell_new w _ ty 1⟩
theorem B2.next {w w' : World} {g : Nat} {x y : Int} (h : B2 w g x y) (hb : Below w.heap.size w w') : B2 w' g x y :=
  ⟨Nat.lt_of_lt_of_le h.lt hb.size, (hb.cell (p := ⟨g, 0, none⟩) h.lt).trans h.c0, (hb.cell (p := ⟨g, 1, none⟩) h.lt).trans h.c1⟩
/-- The production of that number. -/
theorem Pds.prod {w : World} {ao : Option Addr} {m c : Nat} {ps : List Pd} (h : Pds w (.slice ao m c) ps) {p : Int} (hp : isPr ps p = true) :
    ∃ b o bo bc, ao = some ⟨b, o, none⟩ ∧ m = ps.length ∧ b < w.heap.size ∧ w.cell? ⟨b, o + p.toNat * 2, none⟩ = some (.int .i64 (headOf ps p)) ∧ w.cell? ⟨b, o + p.toNat * 2 + 1, none⟩ = some (.slice bo (bodyOf ps p).length bc) ∧ Syms w (.slice bo (bodyOf ps p).length bc) (bodyOf ps p) := by
  obtain ⟨h0, h1⟩ := isPr_le hp
  have hl : p.toNat < ps.length := by omega
  obtain ⟨ao2, cap, hv, hm, h | ⟨b, o, e1, e2, e3⟩⟩ := h
  · subst h; simp at hl
  · simp at hv
    obtain ⟨rfl, rfl, rfl⟩ := hv
    obtain ⟨d0, u, d1, hs⟩ := e3 p.toNat hl
    have eg : ps.getD p.toNat (0, []) = ps[p.toNat] := by rw [List.getD_eq_getElem?_getD, List.getElem?_eq_getElem hl]; rfl
    have hs' := hs
    obtain ⟨bo, bc, rfl, -⟩ := hs'
    refine ⟨b, o, bo, bc, e1, rfl, e2, ?_, ?_, ?_⟩
    · unfold headOf; rw [eg]; exact d0
    · unfold bodyOf; rw [eg]; exact d1
    · unfold bodyOf; rw [eg]; exact hs

variable {H : Type} {enc : TypeId × Value → H}
set_option maxRecDepth 20000 in
theorem open_tree_cells {W : World} : ∀ (m : Nat) {cs : List Value} {y : DataW H × List MemPlace}, DataW.trod enc Try.prog W 0 (fun _ => true) true m 32 cs = some y → ∃ t, Tx W (fun _ => True) (.agg cs.toArray) t := by
  intro m
  induction m using Nat.strongRecOn with
  | ind m ih =>
    intro cs y h
    obtain ⟨xs, n, hn, _, hl, hxl, hf⟩ := DataW.trod_struct Try.underlying32 h
    rw [kcells32] at hl
    match cs, hl with
    | [x0, x1, x2], _ =>
      match xs, hxl with
      | [y0, y1, y2], _ =>
        have f0 := hf 0 _ rfl
        have f1 := hf 1 _ rfl
        have f2 := hf 2 _ rfl
        simp [kcells3, kcells30] at f0 f1 f2
        obtain ⟨z, e0, _, _⟩ := DataW.trod_int Try.underlying3 f0
        obtain ⟨z1, e1, _, _⟩ := DataW.trod_int Try.underlying3 f1
        simp at e0 e1
        subst e0 e1
        rcases DataW.trod_slice Try.underlying30 f2 with ⟨h0, _⟩ | ⟨a, len, cap, elems, rest, n', hn', e5, _, hb, hlc, hmx, hlen, hel, _, _⟩
        · simp at h0
          subst h0
          exact ⟨.mk z z1 [], .mk z z1 none 0 [] (fun _ => undef) (by simp) (Or.inl rfl) (fun i hi => absurd hi (Nat.not_lt_zero _))⟩
        · simp at e5
          subst e5
          have hE : ∀ i, i < len → ∃ q : T × List Value, Tx W (fun _ => True) (.agg q.2.toArray) q.1 ∧ ∀ j, j < 3 → W.cell? ((a.add (i * 3)).add j) = q.2[j]? := fun i hi => by
            have h1 := hel i hi
            rw [kcells32] at h1
            have h2 : elems[i]? = some elems[i] := List.getElem?_eq_getElem (by omega)
            rw [h2] at h1
            cases hcs : W.cells? 0 (a.add (i * 3)) 3 with
            | none => rw [hcs] at h1; cases h1
            | some cs' =>
              rw [hcs] at h1
              obtain ⟨t, ht⟩ := ih n' (by omega) h1
              obtain ⟨_, hlen', hat⟩ := World.cells?_some hcs
              refine ⟨(t, cs'), ht, fun j hj => ?_⟩
              have := hat j (by omega)
              rw [this]
          have : Inhabited (T × List Value) := ⟨(.mk 0 0 [], [])⟩
          obtain ⟨F, hF⟩ := Go.Deep.choose_lt hE
          have hkl : ((List.range len).map fun i => (F i).1).length = len := by simp
          refine ⟨.mk z z1 ((List.range len).map fun i => (F i).1), ?_⟩
          have hx := Tx.mk (w := W) (P := fun _ => True) z z1 (some a) cap ((List.range len).map fun i => (F i).1) (fun i => .agg (F i).2.toArray) (by rw [hkl]; unfold maxLen at hmx; omega) ?_ (fun i hi => by
            have hi' : i < len := by rwa [hkl] at hi
            simpa using (hF i hi').1)
          · rw [hkl] at hx; exact hx
          · by_cases h0 : len = 0
            · left; subst h0; simp
            · right
              obtain ⟨b, off, spot⟩ := a
              have hc0 := (hF 0 (by omega)).2 0 (by omega)
              obtain ⟨_, _, _, _, _, _, hs, _⟩ := (hF 0 (by omega)).1.shape
              have hc1 : W.cell? (((⟨b, off, spot⟩ : Addr).add (0 * 3)).add 0) ≠ Option.none := by
                rw [hc0]
                simp only [Value.agg.injEq] at hs
                have := congrArg Array.toList hs
                simp at this
                rw [this]; simp
              obtain ⟨u, hu⟩ := Option.ne_none_iff_exists'.1 hc1
              have hspot : spot = Option.none := by simpa [Addr.add] using World.cell?_spot hu
              subst hspot
              have e : ∀ i j, ((⟨b, off, Option.none⟩ : Addr).add (i * 3)).add j = ⟨b, off + i * 3 + j, Option.none⟩ := fun i j => by rw [Go.WideShapes.add_plain, Go.WideShapes.add_plain]
              refine ⟨b, off, rfl, trivial, ?_, fun i hi j hj => ?_⟩
              · rw [e] at hu
                exact World.block_lt_of_cell? W _ hu
              · have := (hF i (by rwa [hkl] at hi)).2 j hj
                rw [e] at this
                rw [this]
                simp [Value.cells]
set_option maxRecDepth 20000 in
theorem open_tree {W : World} {v : Value} {d : DataW H} {p : List MemPlace} {r : Reach} {b0 : Nat} (hv : Value.okWide Try.prog W r b0 32 v) (h : DataW.Trod enc Try.prog W 0 (fun _ => true) true 32 v d p) : ∃ t : T, Tx W (fun _ => True) v t := by
  obtain ⟨m, hm⟩ := h
  simp only [Value.okWide, Try.underlying32] at hv
  obtain ⟨cs, rfl, _⟩ := hv
  obtain ⟨t, ht⟩ := open_tree_cells m hm
  exact ⟨t, by simpa [Value.cells] using ht⟩

end Go.Proofs.Ytpfehghicaaghaa

namespace Go.Proofs.Ytpfehghicaaghaa
open Go.RowKit
open Cg

set_option maxHeartbeats 1600000 in
set_option maxRecDepth 20000 in
theorem isProd_any (t n : Int) (ao : Option Addr) (m c : Nat) (ps : List Pd) (hm : ps.length = m) (x : Int) (w : World) :
    Calls Try.prog 114 #[.agg #[.int .i64 t, .int .i64 n, .slice ao m c], .int .i64 x] w fun e w' => e = .returned (.bool (isPr ps x)) ∧ Below w.heap.size w w' := by
  obtain ⟨r, HR⟩ : ∃ r, Hid (isPr ps x = r) := ⟨_, (rfl : isPr ps x = isPr ps x)⟩
  rw [HR.out]
  have HM : Hid (ps.length = m) := hm
  clear hm
  by_cases h1 : 0 ≤ x
  · by_cases h2 : x < (m : Int)
    · obtain rfl : r = true := by rw [← HR.out]; unfold isPr; rw [HM.out]; simp; omega
      go_enter Try.func114, Try.ntmps114
      go_wp2_with fail
      go_ret
      exact ⟨by simp, below_alloc _ _⟩
    · obtain rfl : r = false := by rw [← HR.out]; unfold isPr; rw [HM.out]; simp; omega
      go_enter Try.func114, Try.ntmps114
      go_wp2_with fail
      go_ret
      exact ⟨by simp, below_alloc _ _⟩
  · obtain rfl : r = false := by rw [← HR.out]; unfold isPr; rw [HM.out]; simp; omega
    go_enter Try.func114, Try.ntmps114
    go_wp2_with fail
    go_ret
    exact ⟨by simp, below_alloc _ _⟩

/-- What isOf holds: the grammar and the symbol in boxes. -/
def Si (w : World) (t n : Int) (pv : Value) (ps : List Pd) (s0 s1 : Int) (W : World) : Prop := Gb w w.heap.size t n pv ps W ∧ B2 W (w.heap.size + 1) s0 s1
theorem Si.next {w : World} {t n : Int} {pv : Value} {ps : List Pd} {s0 s1 : Int} (W W' : World) (h : Si w t n pv ps s0 s1 W) (hb : Below W.heap.size W W') : Si w t n pv ps s0 s1 W' := ⟨h.1.next hb, h.2.next hb⟩
theorem Si.box {w : World} {pv : Value} {ps : List Pd} (h : Pds w pv ps) (t n s0 s1 : Int) : Si w t n pv ps s0 s1 ((w.alloc (Obj.cells #[.int .i64 t, .int .i64 n, pv] 24)).alloc (Obj.cells #[.int .i64 s0, .int .i64 s1] 47)) := by
  refine ⟨(Gb.box h t n).next (below_alloc _ _), ?_⟩
  have := B2.box (w.alloc (Obj.cells #[.int .i64 t, .int .i64 n, pv] 24)) s0 s1 47
  rw [show (w.alloc (Obj.cells #[.int .i64 t, .int .i64 n, pv] 24)).heap.size = w.heap.size + 1 by simp] at this
  exact this
theorem Gb.drew {w0 : World} {g : Nat} {t n : Int} {pv : Value} {ps : List Pd} {w : World} (h : Gb w0 g t n pv ps w) : Gb w0 g t n pv ps w.drew := h.next ((Below.refl _ _).drew)
theorem B2.drew {w : World} {g : Nat} {x y : Int} (h : B2 w g x y) : B2 w.drew g x y := h.next ((Below.refl _ _).drew)

set_option maxHeartbeats 4000000 in
set_option maxRecDepth 20000 in
theorem isOf_any (t n : Int) (pv : Value) (ps : List Pd) (s0 s1 : Int) (x : Int) (w : World) (h : Pds w pv ps) :
    Calls Try.prog 98 #[.agg #[.int .i64 t, .int .i64 n, pv], .int .i64 x, .agg #[.int .i64 s0, .int .i64 s1]] w fun e w' => e = .returned (.bool (isOf ps x (s0, s1))) ∧ Below w.heap.size w w' := by
  have HS0 : Hid (Si w t n pv ps s0 s1 ((w.alloc (Obj.cells #[.int .i64 t, .int .i64 n, pv] 24)).alloc (Obj.cells #[.int .i64 s0, .int .i64 s1] 47))) := Si.box h t n s0 s1
  have HP : Hid (Pds w pv ps) := h
  obtain ⟨ao, c, rfl, hm, -⟩ := h
  obtain ⟨r, HR⟩ : ∃ r, Hid (isOf ps x (s0, s1) = r) := ⟨_, (rfl : isOf ps x (s0, s1) = isOf ps x (s0, s1))⟩
  rw [HR.out]
  by_cases h1 : s0 = 1
  · subst h1
    by_cases h2 : x = -1
    · subst h2
      obtain rfl : r = true := by rw [← HR.out]; unfold isOf; simp
      go_enter Try.func98, Try.ntmps98
      go_wp2_with fail
      go_ret
      exact ⟨by simp, HS0.out.1.below⟩
    · have hb2 : (x == -1) = false := by simp; exact h2
      obtain rfl : r = false := by rw [← HR.out]; unfold isOf; simp [h2]
      go_enter Try.func98, Try.ntmps98
      go_wp2_with fail
      go_ret
      exact ⟨by simp, HS0.out.1.below⟩
  · have hb1 : (s0 == 1) = false := by simp; exact h1
    have HR2 : Hid (isOf ps x (s0, s1) = (isPr ps x && decide (headOf ps x = s1))) := by show _ = _; unfold isOf; rw [if_neg h1]
    clear h1
    obtain ⟨N, HN⟩ : ∃ N, Hid (ps.length = N) := ⟨_, (rfl : ps.length = ps.length)⟩
    rw [HN.out] at HS0 HP hm ⊢
    obtain ⟨q, HQ⟩ : ∃ q, Hid (isPr ps x = q) := ⟨_, (rfl : isPr ps x = isPr ps x)⟩
    have HC : Hid (∀ W, Calls Try.prog 114 #[.agg #[.int .i64 t, .int .i64 n, .slice ao N c], .int .i64 x] W fun e w' => e = .returned (.bool q) ∧ Below W.heap.size W w') := fun W => by
      have := isProd_any t n ao N c ps HN.out x W
      rw [HQ.out] at this; exact this
    go_enter Try.func98, Try.ntmps98
    go_upto_region 3 with fail
    have S1' : Si w t n (.slice ao N c) ps s0 s1 _ := ⟨HS0.out.1.drew, HS0.out.2.drew⟩
    have p0 : ∀ p : Kp (Si w t n (.slice ao N c) ps s0 s1), p.W.cell? ⟨w.heap.size, 0, none⟩ = some (.int .i64 t) := fun p => p.h.1.c0
    have p1 : ∀ p : Kp (Si w t n (.slice ao N c) ps s0 s1), p.W.cell? ⟨w.heap.size, 1, none⟩ = some (.int .i64 n) := fun p => p.h.1.c1
    have p2 : ∀ p : Kp (Si w t n (.slice ao N c) ps s0 s1), p.W.cell? ⟨w.heap.size, 2, none⟩ = some (.slice ao N c) := fun p => p.h.1.c2
    have p4 : ∀ p : Kp (Si w t n (.slice ao N c) ps s0 s1), p.W.cell? ⟨w.heap.size + 1, 1, none⟩ = some (.int .i64 s1) := fun p => p.h.2.c1
    have hne : Nonempty (Kp (Si w t n (.slice ao N c) ps s0 s1)) := ⟨⟨_, S1'⟩⟩
    cases q with
    | false =>
      obtain rfl : r = false := by rw [← HR.out, HR2.out, HQ.out]; rfl
      refine wp_region_kept mixed (by kernel_rfl) S1' ?_
      clear S1'
      repeat (go_big_quiet_step (first | (go_at_call 114; with_reducible exact Kp.calls _ Si.next (HC.out _))))
      refine wpQuiet_nil ?_
      intro W1 hw1
      obtain ⟨⟨W1, HS⟩, rfl⟩ := hw1
      have HB := HS.1.below
      clear p0 p1 p2 p4 hne HS
      go_wp2_with fail
      go_ret
      exact ⟨by simp, HB⟩
    | true =>
      have hle := isPr_le HQ.out
      obtain ⟨z, rfl⟩ : ∃ z : Nat, x = (z : Int) := ⟨x.toNat, by omega⟩
      obtain ⟨b, o, bo, bc, rfl, -, hbl, hc0, -, -⟩ := Pds.prod HP.out HQ.out
      simp only [Int.toNat_natCast] at hc0
      have HR3 : Hid (r = decide (headOf ps (z : Int) = s1)) := by show _ = _; rw [← HR.out, HR2.out, HQ.out]; simp
      generalize headOf ps (z : Int) = hd at hc0 HR3
      have p5 : ∀ p : Kp (Si w t n (.slice (some ⟨b, o, none⟩) N c) ps s0 s1), p.W.cell? ⟨b, o + z * 2, none⟩ = some (.int .i64 hd) := fun p => (p.h.1.below.cell (p := ⟨b, o + z * 2, none⟩) hbl).trans hc0
      have hz : (z : Int) < (N : Int) := by rw [← HN.out]; exact hle.2
      have hz2 : z < N := by omega
      have hz0 : (0 : Int) ≤ (z : Int) := by omega
      clear hle hc0
      refine wp_region_kept mixed (by kernel_rfl) S1' ?_
      clear S1'
      repeat (go_big_quiet_step (first | (go_at_call 114; with_reducible exact Kp.calls _ Si.next (HC.out _))))
      refine wpQuiet_nil ?_
      intro W1 hw1
      obtain ⟨⟨W1, HS⟩, rfl⟩ := hw1
      have HB := HS.1.below
      clear p0 p1 p2 p4 p5 hne HS
      go_wp2_with fail
      go_ret
      refine ⟨?_, HB⟩
      rw [HR3.out]
      by_cases e : hd = s1 <;> simp [e]

theorem whole_any (w : World) : Calls Try.prog 58 #[] w fun e w' => e = .returned (.agg #[.int .i64 2, .int .i64 0]) ∧ Below w.heap.size w w' := by
  go_enter Try.func58, Try.ntmps58
  go_wp2_with fail
  exact bodyPost_ret (v := .agg #[.int .i64 2, .int .i64 0]) (by simp [results, Try.results58, go_sem]) rfl ⟨rfl, below_alloc _ _⟩
end Go.Proofs.Ytpfehghicaaghaa

namespace Go.Proofs.Ytpfehghicaaghaa
open Go.RowKit
open Cg

theorem own_len {w : World} {base e size n : Nat} {v : Value} {xs : List Value} (h : w.ownsRow base e size v n xs) : ∃ ao c, v = .slice ao n c := by
  rcases h.2 with ⟨hv, h0⟩ | ⟨g, cap, cur, hv, _⟩
  · exact ⟨_, _, by rw [hv, h0]⟩
  · exact ⟨_, _, hv⟩
/-- The walk through a tree, in its box. -/
structure Wk (w0 : World) (q : Nat) (t n : Int) (pv : Value) (nn : Nat) (wv : Value) (ws : List Int) (W : World) : Prop where
  blk : W.heap[q]? = some (.cells #[.int .i64 t, .int .i64 n, pv, .int .i64 (nn : Int), wv] 107)
  own : W.ownsRow w0.heap.size 3 1 wv ws.length (ws.map (Value.int .i64))
  ge : w0.heap.size ≤ q
  bel : Below w0.heap.size w0 W
theorem heap_lt3 {w : World} {k : Nat} {o : Obj} (h : w.heap[k]? = some o) : k < w.heap.size := by
  rcases Nat.lt_or_ge k w.heap.size with h' | h'
  · exact h'
  · rw [Array.getElem?_eq_none h'] at h; cases h
theorem Wk.next {w0 : World} {q : Nat} {t n : Int} {pv : Value} {nn : Nat} {wv : Value} {ws : List Int} {W W' : World} (h : Wk w0 q t n pv nn wv ws W) (hb : Below W.heap.size W W') : Wk w0 q t n pv nn wv ws W' :=
  ⟨(hb.block q (heap_lt3 h.blk)).trans h.blk, own_below h.own hb, h.ge, h.bel.trans (hb.mono h.bel.size)⟩
theorem Wk.cell {w0 : World} {q : Nat} {t n : Int} {pv : Value} {nn : Nat} {wv : Value} {ws : List Int} {W : World} (h : Wk w0 q t n pv nn wv ws W) (i : Nat) : W.cell? ⟨q, i, none⟩ = (#[.int .i64 t, .int .i64 n, pv, .int .i64 (nn : Int), wv] : Array Value)[i]? := by
  simp [World.cell?, h.blk]

/-- What mayStand holds. -/
structure Sm2 (W : World) (p k : Int) (ao : Option Addr) (nk cap : Nat) (s0 s1 : Int) (X : World) : Prop where
  bel : Below W.heap.size W X
  bx : Bx X W.heap.size p k ao nk cap
  b2 : B2 X (W.heap.size + 1) s0 s1
theorem Sm2.next {W : World} {p k : Int} {ao : Option Addr} {nk cap : Nat} {s0 s1 : Int} (X X' : World) (h : Sm2 W p k ao nk cap s0 s1 X) (hb : Below X.heap.size X X') : Sm2 W p k ao nk cap s0 s1 X' :=
  ⟨h.bel.trans (hb.mono h.bel.size), h.bx.next hb, h.b2.next hb⟩
theorem Sm2.box (W : World) (p k : Int) (ao : Option Addr) (nk cap : Nat) (s0 s1 : Int) : Sm2 W p k ao nk cap s0 s1 ((W.alloc (Obj.cells #[.int .i64 p, .int .i64 k, .slice ao nk cap] 32)).alloc (Obj.cells #[.int .i64 s0, .int .i64 s1] 47)) := by
  refine ⟨below_alloc2 _ _ _, (Bx.box W p k ao nk cap).next (below_alloc _ _), ?_⟩
  have := B2.box (W.alloc (Obj.cells #[.int .i64 p, .int .i64 k, .slice ao nk cap] 32)) s0 s1 47
  rw [show (W.alloc (Obj.cells #[.int .i64 p, .int .i64 k, .slice ao nk cap] 32)).heap.size = W.heap.size + 1 by simp] at this
  exact this

set_option maxHeartbeats 4000000 in
set_option maxRecDepth 20000 in
theorem mayStand_any (w0 : World) (q : Nat) (t n : Int) (pv : Value) (ps : List Pd) (nn : Nat) (wv : Value) (ws : List Int) (p k : Int) (ao : Option Addr) (nk cap : Nat) (s0 s1 : Int) (W : World) (h : Pds w0 pv ps) (hw : Wk w0 q t n pv nn wv ws W) :
    Calls Try.prog 81 #[.pointer (some ⟨q, 0, none⟩), .agg #[.int .i64 p, .int .i64 k, .slice ao nk cap], .agg #[.int .i64 s0, .int .i64 s1]] W fun e w' => e = .returned (.bool (may ps p k nk (s0, s1) ws.length)) ∧ Below W.heap.size W w' := by
  have HS0 : Hid (Sm2 W p k ao nk cap s0 s1 ((W.alloc (Obj.cells #[.int .i64 p, .int .i64 k, .slice ao nk cap] 32)).alloc (Obj.cells #[.int .i64 s0, .int .i64 s1] 47))) := Sm2.box W p k ao nk cap s0 s1
  have HP : Hid (Pds W pv ps) := h.below hw.bel
  have HW : Hid (Wk w0 q t n pv nn wv ws W) := hw
  obtain ⟨wa, wc, rfl⟩ := own_len hw.own
  obtain ⟨nw, HNW⟩ : ∃ nw, Hid (ws.length = nw) := ⟨_, (rfl : ws.length = ws.length)⟩
  have hq := heap_lt3 hw.blk
  have c0 := hw.cell 0
  have c1 := hw.cell 1
  have c2 := hw.cell 2
  have c4 := hw.cell 4
  simp at c0 c1 c2 c4
  rw [HNW.out] at c4 ⊢
  obtain ⟨go, gc, rfl, hm, -⟩ := h
  obtain ⟨r, HR⟩ : ∃ r, Hid (may ps p k nk (s0, s1) nw = r) := ⟨_, (rfl : may ps p k nk (s0, s1) nw = may ps p k nk (s0, s1) nw)⟩
  rw [HR.out]
  obtain ⟨N, HN⟩ : ∃ N, Hid (ps.length = N) := ⟨_, (rfl : ps.length = ps.length)⟩
  rw [HN.out] at HP hm c2 HW
  obtain ⟨o1, HO⟩ : ∃ o1, Hid (isOf ps p (s0, s1) = o1) := ⟨_, (rfl : isOf ps p (s0, s1) = isOf ps p (s0, s1))⟩
  have HC : Hid (∀ X : Kp (Sm2 W p k ao nk cap s0 s1), Calls Try.prog 98 #[.agg #[.int .i64 t, .int .i64 n, .slice go N gc], .int .i64 p, .agg #[.int .i64 s0, .int .i64 s1]] X.W fun e w' => e = .returned (.bool o1) ∧ Below X.W.heap.size X.W w') := fun X => by
    have := isOf_any t n (.slice go N gc) ps s0 s1 p X.W (HP.out.below X.h.bel)
    rw [HO.out] at this; exact this
  clear hw
  go_enter Try.func81, Try.ntmps81
  go_upto_region 1 with fail
  have S1' : Sm2 W p k ao nk cap s0 s1 _ := Sm2.next _ _ HS0.out ((Below.refl _ _).drew)
  have p0 : ∀ X : Kp (Sm2 W p k ao nk cap s0 s1), X.W.cell? ⟨W.heap.size, 0, none⟩ = some (.int .i64 p) := fun X => X.h.bx.c0
  have p1 : ∀ X : Kp (Sm2 W p k ao nk cap s0 s1), X.W.cell? ⟨W.heap.size + 1, 0, none⟩ = some (.int .i64 s0) := fun X => X.h.b2.c0
  have p2 : ∀ X : Kp (Sm2 W p k ao nk cap s0 s1), X.W.cell? ⟨W.heap.size + 1, 1, none⟩ = some (.int .i64 s1) := fun X => X.h.b2.c1
  have p3 : ∀ X : Kp (Sm2 W p k ao nk cap s0 s1), X.W.cell? ⟨q, 0, none⟩ = some (.int .i64 t) := fun X => (X.h.bel.cell (p := ⟨q, 0, none⟩) hq).trans c0
  have p4 : ∀ X : Kp (Sm2 W p k ao nk cap s0 s1), X.W.cell? ⟨q, 1, none⟩ = some (.int .i64 n) := fun X => (X.h.bel.cell (p := ⟨q, 1, none⟩) hq).trans c1
  have p5 : ∀ X : Kp (Sm2 W p k ao nk cap s0 s1), X.W.cell? ⟨q, 2, none⟩ = some (.slice go N gc) := fun X => (X.h.bel.cell (p := ⟨q, 2, none⟩) hq).trans c2
  have hne : Nonempty (Kp (Sm2 W p k ao nk cap s0 s1)) := ⟨⟨_, S1'⟩⟩
  refine wp_region_kept mixed (by kernel_rfl) S1' ?_
  clear S1'
  repeat (go_big_quiet_step (first | (go_at_call 98; with_reducible exact Kp.calls _ Sm2.next (HC.out _))))
  refine wpQuiet_nil ?_
  intro W1 hw1
  obtain ⟨⟨W1, HS⟩, rfl⟩ := hw1
  have HS1 : Hid (Sm2 W p k ao nk cap s0 s1 W1) := HS
  clear p0 p1 p2 p3 p4 p5 hne HS HC HS0
  cases o1 with
  | false =>
    obtain rfl : r = false := by rw [← HR.out]; unfold may; rw [HO.out]; rfl
    go_wp2_with fail
    go_ret
    exact ⟨by simp, HS1.out.bel⟩
  | true =>
    have y0 := HS1.out.bx.c0
    have y1 := HS1.out.bx.c1
    have y2 := HS1.out.bx.c2
    have y3 := HS1.out.b2.c0
    have y4 : W1.cell? ⟨q, 2, none⟩ = some (.slice go N gc) := (HS1.out.bel.cell (p := ⟨q, 2, none⟩) hq).trans c2
    have y5 : W1.cell? ⟨q, 4, none⟩ = some (.slice wa nw wc) := (HS1.out.bel.cell (p := ⟨q, 4, none⟩) hq).trans c4
    clear c0 c1 c2 c4
    by_cases h1 : s0 = 1
    · subst h1
      obtain ⟨e1, he1⟩ : ∃ e1, (k == (nw : Int)) = e1 := ⟨_, rfl⟩
      obtain ⟨e2, he2⟩ : ∃ e2, ((nk : Int) == 0) = e2 := ⟨_, rfl⟩
      have HF : Hid (r = (e1 && e2)) := by
        show _ = _
        rw [← HR.out, ← he1, ← he2]; unfold may; rw [HO.out]; simp
        by_cases ha : k = (nw : Int) <;> by_cases hb : nk = 0 <;> simp [ha, hb]
      cases e1 <;> cases e2
      all_goals
        go_wp2_with (go_quiet (fail))
        go_ret
        exact ⟨by rw [HF.out]; simp, HS1.out.bel.trans ⟨rfl, rfl, rfl, Nat.le_refl _, fun _ _ => rfl⟩⟩
    · have hb1 : (s0 == 1) = false := by simp; exact h1
      have HO2 : Hid (isPr ps p = true) := by
        have := HO.out; unfold isOf at this; rw [if_neg h1] at this; simp at this; exact this.1
      have HMY : Hid (r = (decide (k = 0) && decide (nk = (bodyOf ps p).length))) := by
        show _ = _
        rw [← HR.out]; unfold may; rw [HO.out, if_neg h1]; rfl
      clear h1
      have hle := isPr_le HO2.out
      obtain ⟨z, rfl⟩ : ∃ z : Nat, p = (z : Int) := ⟨p.toNat, by omega⟩
      obtain ⟨b, o, bo, bc, rfl, -, hbl, -, hc1, -⟩ := Pds.prod HP.out HO2.out
      simp only [Int.toNat_natCast] at hc1
      obtain ⟨bl, HBL⟩ : ∃ bl, Hid ((bodyOf ps (z : Int)).length = bl) := ⟨_, (rfl : (bodyOf ps (z : Int)).length = (bodyOf ps (z : Int)).length)⟩
      rw [HBL.out] at hc1 HMY
      replace hc1 : W1.cell? ⟨b, o + z * 2 + 1, none⟩ = _ := (HS1.out.bel.cell (p := ⟨b, o + z * 2 + 1, none⟩) hbl).trans hc1
      have hz : (z : Int) < (N : Int) := by rw [← HN.out]; exact hle.2
      have hz2 : z < N := by omega
      have hz0 : (0 : Int) ≤ (z : Int) := by omega
      clear hle
      obtain ⟨e1, he1⟩ : ∃ e1, (k == (0 : Int)) = e1 := ⟨_, rfl⟩
      obtain ⟨e2, he2⟩ : ∃ e2, ((nk : Int) == (bl : Int)) = e2 := ⟨_, rfl⟩
      have HF : Hid (r = (e1 && e2)) := by
        show _ = _
        rw [HMY.out, ← he1, ← he2]
        by_cases ha : k = 0 <;> by_cases hb : nk = bl <;> simp [ha, hb] <;> omega
      cases e1 <;> cases e2
      all_goals
        go_wp2_with (go_quiet (fail))
        go_ret
        exact ⟨by rw [HF.out]; simp, HS1.out.bel.trans ⟨rfl, rfl, rfl, Nat.le_refl _, fun _ _ => rfl⟩⟩
end Go.Proofs.Ytpfehghicaaghaa

namespace Go.Proofs.Ytpfehghicaaghaa
open Go.RowKit

variable {P : Program} {ops : Array Oper} {C : World → Prop} {LE : Array Bool} {QQ : Act → Prop}

/-- What is listed waits for listed ones alone. -/
def Down (ops : Array Oper) (listed : Array Bool) : Prop := ∀ j oj, ops[j]? = some oj → listed.getD j false = true → ∀ e ∈ oj.after, Region.binds .any e = true → listed.getD e.on false = true
theorem getD_keep {listed : Array Bool} {x : Nat} (j : Nat) (h : listed.getD x false = true) : (listed.setIfInBounds j true).getD x false = true := by
  by_cases e : j = x
  · subst e
    rcases Nat.lt_or_ge j listed.size with h' | h'
    · simp [h']
    · simp [Array.getElem?_eq_none h'] at h
  · rw [getD_set_ne false e]; exact h
theorem Down.step {listed : Array Bool} {j : Nat} (h : Down ops listed) (hj : j ∈ Region.ready .any ops listed) : Down ops (listed.setIfInBounds j true) := by
  intro k ok hk hl e he hb
  obtain ⟨_, oj, hoj, hall⟩ := mem_ready.1 hj
  by_cases ejk : j = k
  · subst ejk
    rw [hk] at hoj
    cases hoj
    exact getD_keep j (hall e he hb)
  · rw [getD_set_ne false ejk] at hl
    exact getD_keep j (h k ok hk hl e he hb)
def leadsOn (ops : Array Oper) (t : Nat) : Bool := (List.range t).all fun i => (List.range (t + 1)).any fun j => decide (i < j) && (match ops[j]? with | some o => o.after.any (fun e => Region.binds .any e && e.on == i) | none => false)
theorem leadsOn_spec {t : Nat} (h : leadsOn ops t = true) (i : Nat) (hi : i < t) : ∃ j o, i < j ∧ j ≤ t ∧ ops[j]? = some o ∧ ∃ e ∈ o.after, Region.binds .any e = true ∧ e.on = i := by
  have h1 := List.all_eq_true.1 h i (List.mem_range.2 hi)
  obtain ⟨j, hj, h2⟩ := List.any_eq_true.1 h1
  simp only [Bool.and_eq_true, decide_eq_true_eq] at h2
  obtain ⟨h3, h4⟩ := h2
  cases ho : ops[j]? with
  | none => rw [ho] at h4; cases h4
  | some o =>
    rw [ho] at h4
    obtain ⟨e, he, h5⟩ := Array.any_eq_true'.1 h4
    simp only [Bool.and_eq_true, beq_iff_eq] at h5
    have := List.mem_range.1 hj
    exact ⟨j, o, h3, by omega, ho, e, he, h5.1, h5.2⟩

theorem wpC_first {t i : Nat} {oi : Oper} {v : Value} (hready : Region.ready .any ops LE = [t]) (hLE : ∀ j, j < t → LE.getD j false = true) (hit : i < t) (hlead : leadsOn ops t = true)
    (hi : ops[i]? = some oi) (hsel : ∀ (j : Nat) (o : Oper) cs b, ops[j]? = some o → o.op ≠ .select cs b) :
    ∀ (fuel : Nat) (listed : Array Bool) (a : Act), Down ops listed →
      (∀ j oj, ops[j]? = some oj → j ≠ i → listed.getD j true = false → (∀ e ∈ oj.after, Region.binds .any e = true → e.on ≠ i) → oi.apart ops oj = true) →
      i ∈ Region.ready .any ops listed → YieldsIn P ops C oi v a →
      wpT P .any ops C LE QQ fuel (listed.setIfInBounds i true) (a.put oi.dst v) → wpT P .any ops C LE QQ (fuel + 1) listed a := by
  intro fuel
  induction fuel with
  | zero =>
    intro listed a hdn _ hr hy H
    refine ⟨fun h => (by rw [h] at hr; cases hr), fun j hj => ?_⟩
    by_cases hji : j = i
    · subst hji; exact hy.qOp hi H
    · have hm := ready_mono hj hji
      rw [H.1, hready] at hm
      have ejt : j = t := by simpa using hm
      subst ejt
      obtain ⟨hjun, oj, hoj, hall⟩ := mem_ready.1 hj
      obtain ⟨k, ok, h1, h2, h3, e, he, hb, heq⟩ := leadsOn_spec hlead i hit
      have h0 := (mem_ready.1 hr).1
      have hyes : listed.getD i false = true := by
        by_cases ek : k = j
        · subst ek
          rw [hoj] at h3
          cases h3
          have := hall e he hb
          rw [heq] at this; exact this
        · have h4 : listed.getD k false = true := by
            have := hLE k (by omega)
            rw [← H.1, getD_set_ne false (by omega)] at this
            exact this
          have := hdn k ok h3 h4 e he hb
          rw [heq] at this; exact this
      rcases Nat.lt_or_ge i listed.size with h' | h'
      · simp [h'] at h0 hyes; rw [h0] at hyes; cases hyes
      · simp [Array.getElem?_eq_none h'] at hyes
  | succ fuel ih =>
    intro listed a hdn hfree hr hy H
    refine ⟨fun h => (by rw [h] at hr; cases hr), fun j hj => ?_⟩
    by_cases hji : j = i
    · subst hji; exact hy.qOp hi H
    · have h1 := H.2 j (ready_mono hj hji)
      obtain ⟨hjun, oj, hoj, hall⟩ := mem_ready.1 hj
      have hnot : ∀ e ∈ oj.after, Region.binds .any e = true → e.on ≠ i := fun e he hb heq => by
        have h1 := hall e he hb
        have h0 := (mem_ready.1 hr).1
        rw [heq] at h1
        rcases Nat.lt_or_ge i listed.size with h' | h'
        · simp [h'] at h0 h1; rw [h0] at h1; cases h1
        · simp [Array.getElem?_eq_none h'] at h1
      have h2 := qOp_put hoj (hfree j oj hoj hji hjun hnot) (fun cs b => hsel i oi cs b hi) (fun cs b => hsel j oj cs b hoj) hy h1
      have hfree' : ∀ k ok, ops[k]? = some ok → k ≠ i → (listed.setIfInBounds j true).getD k true = false →
          (∀ e ∈ ok.after, Region.binds .any e = true → e.on ≠ i) → oi.apart ops ok = true := fun k ok hk hki hun hno => by
        refine hfree k ok hk hki ?_ hno
        by_cases hjk : j = k
        · subst hjk; exact hjun
        · rw [getD_set_ne true hjk] at hun; exact hun
      refine qOp_mono (fun a' h3 => ih (listed.setIfInBounds j true) a' (hdn.step hj) hfree' (ready_mono hr (Ne.symm hji)) h3.1 ?_) h2
      rw [Array.setIfInBounds_comm _ _ hji]
      exact h3.2
theorem wpC_lex {t : Nat} (hs : Region.noSelect ops = true) (hready : Region.ready .any ops LE = [t]) (hLE : ∀ j, j < t → LE.getD j false = true) (hlead : leadsOn ops t = true) :
    ∀ (l : List Oper) (k : Nat) (listed : Array Bool) (a : Act), k + l.length = t → Down ops listed → (∀ j, j < l.length → l[j]? = ops[k + j]?) → lexPart .any ops l.length k listed = true → fillFrom l.length k listed = LE → wpQuiet P ops C QQ l a → wpT P .any ops C LE QQ l.length listed a
  | [], _, _, _, _, _, _, _, hL, h => ⟨hL, h⟩
  | o :: l, k, listed, a, hk, hdn, hl, hB, hL, h => by
    have h0 : ops[k]? = some o := by simpa using (hl 0 (by simp)).symm
    simp only [List.length_cons, lexPart, Bool.and_eq_true] at hB
    obtain ⟨⟨hr, hf⟩, hB'⟩ := hB
    have hr' : k ∈ Region.ready .any ops listed := by simpa using hr
    have hst : qOp P ops C k (wpQuiet P ops C QQ l) a := by unfold qOp; simp only [h0]; exact h
    obtain ⟨v, hy, hK⟩ := yieldsIn_of_qOp h0 hst
    exact wpC_first hready hLE (by simp at hk; omega) hlead h0 (Region.noSelect_spec hs) l.length listed a hdn (Region.free_spec h0 hf) hr' hy
      (wpC_lex hs hready hLE hlead l (k + 1) _ _ (by simp at hk; omega) (hdn.step hr') (fun j hj => by have := hl (j + 1) (by simp; omega); simpa [Nat.add_assoc, Nat.add_comm 1 j] using this) hB' hL hK)
/-- The last ones come one behind the other. -/
def chainReady (ops : Array Oper) : Nat → Nat → Array Bool → Bool
  | 0, _, listed => (Region.ready .any ops listed).isEmpty
  | n + 1, k, listed => (Region.ready .any ops listed == [k]) && chainReady ops n (k + 1) (listed.setIfInBounds k true)
theorem wpAny_chain {Q : Exit → Act → World → Prop} : ∀ (tl : List Oper) (k : Nat) (listed : Array Bool) (a : Act) (w : World), (∀ j, j < tl.length → tl[j]? = ops[k + j]?) → chainReady ops tl.length k listed = true → wpList P ops Q tl a w → wpAny P .any ops Q tl.length listed a w
  | [], k, listed, a, w, _, hc, h => by
    simp only [List.length_nil, chainReady, List.isEmpty_iff] at hc
    exact ⟨hc, h⟩
  | o :: tl, k, listed, a, w, hl, hc, h => by
    simp only [List.length_cons, chainReady, Bool.and_eq_true, beq_iff_eq] at hc
    obtain ⟨h1, h2⟩ := hc
    have h0 : ops[k]? = some o := by simpa using (hl 0 (by simp)).symm
    have hn : ∀ a' w', wpList P ops Q tl a' w' → wpAny P .any ops Q tl.length (listed.setIfInBounds k true) a' w' := fun a' w' h' =>
      wpAny_chain tl (k + 1) _ a' w' (fun j hj => by have := hl (j + 1) (by simp; omega); simpa [Nat.add_assoc, Nat.add_comm 1 j] using this) h2 h'
    refine ⟨fun e => (by rw [h1] at e; cases e), fun i hi => ?_⟩
    rw [h1] at hi
    have : i = k := by simpa using hi
    subst this
    unfold wpOp
    simp only [h0]
    unfold wpList at h
    split
    · rename_i hw
      rw [if_pos hw] at h
      rcases h with h | h
      · exact Or.inl (Oper.wp_mono hn h)
      · exact Or.inr h
    · rename_i hw
      rw [if_neg hw] at h
      exact hn _ _ h
def chainB (l tl : List Oper) : Bool :=
  Region.noSelect (l ++ tl).toArray && lexPart .any (l ++ tl).toArray l.length 0 (Array.replicate (l.length + tl.length) false) && leadsOn (l ++ tl).toArray l.length &&
  ((List.range l.length).all fun j => (fillFrom l.length 0 (Array.replicate (l.length + tl.length) false)).getD j false) &&
  (Region.ready .any (l ++ tl).toArray (fillFrom l.length 0 (Array.replicate (l.length + tl.length) false)) == [l.length]) &&
  chainReady (l ++ tl).toArray tl.length l.length (fillFrom l.length 0 (Array.replicate (l.length + tl.length) false))
theorem wp_region_chain {P : Program} {S : World → Prop} {id : Nat} {Q : Exit → Act → World → Prop} {a : Act} {w : World} (l tl : List Oper) (hm : P.follows .mixedOrders = true) (hB : chainB l tl = true) (h0 : S w.drew)
    (h : wpQuiet P (l ++ tl).toArray (fun w' => ∃ p : Kp S, w' = p.W) (fun a' => ∀ p : Kp S, wpList P (l ++ tl).toArray Q tl a' p.W) l a) : (Code.region id (l ++ tl).toArray true).wp P Q a w := by
  unfold chainB at hB
  simp only [Bool.and_eq_true, beq_iff_eq] at hB
  obtain ⟨⟨⟨⟨⟨h1, h2⟩, h3⟩, h6⟩, h4⟩, h5⟩ := hB
  refine wp_region_any hm ?_
  have hsz : (l ++ tl).toArray.size = l.length + tl.length := by simp
  rw [hsz]
  refine wpAny_of_T (C := fun w' => ∃ p : Kp S, w' = p.W) (LE := fillFrom l.length 0 (Array.replicate (l.length + tl.length) false)) (QQ := fun a' => ∀ p : Kp S, wpList P (l ++ tl).toArray Q tl a' p.W) ?_ l.length _ a _ ⟨⟨_, h0⟩, rfl⟩ ?_
  · rintro a' w' ⟨p, rfl⟩ hq
    exact wpAny_chain tl l.length _ a' p.W (fun j hj => by simp [List.getElem?_append_right]) h5 (hq p)
  · refine wpC_lex h1 h4 (fun j hj => List.all_eq_true.1 h6 j (List.mem_range.2 hj)) h3 l 0 _ a (by simp) ?_ (fun j hj => by simp [List.getElem?_append_left hj]) h2 rfl h
    intro j oj _ hl
    by_cases hj : j < l.length + tl.length
    · simp [hj] at hl
    · simp [hj] at hl
end Go.Proofs.Ytpfehghicaaghaa

namespace Go.Proofs.Ytpfehghicaaghaa
open Go.RowKit
open Cg

theorem tcell_blk {w : World} {g : Nat} {cs : Array Value} {t : TypeId} {fr : Nat × Nat} (h : w.heap[g]? = some (.cells cs t fr)) (i : Nat) : w.cell? ⟨g, i, none⟩ = cs[i]? := by
  unfold World.cell?
  simp only [h]
  rfl
theorem tfrozen_blk {w : World} {g : Nat} {cs : Array Value} {t : TypeId} (h : w.heap[g]? = some (.cells cs t)) (i : Nat) : w.frozen? ⟨g, i, none⟩ = false := by
  simp [World.frozen?, h]
theorem tbox_next {w w' : World} {k : Nat} {o : Obj} (h : w.heap[k]? = some o) (hb : Below w.heap.size w w') : w'.heap[k]? = some o := (hb.block k (heap_lt3 h)).trans h
theorem tblock_store {w : World} {g i : Nat} {cs : Array Value} {t : TypeId} {fr : Nat × Nat} (h : w.heap[g]? = some (.cells cs t fr)) (v : Value) : (w.setCell ⟨g, i, none⟩ v).heap[g]? = some (.cells (cs.setIfInBounds i v) t fr) := by
  simp [World.setCell, Array.getElem?_modify, h]
theorem town_keep {w w' : World} {B : Nat} {e : TypeId} {size : Nat} {v : Value} {n : Nat} {xs : List Value} (h : w.ownsRow B e size v n xs) (hb : ∀ b, v.ownBlock = some b → w'.heap[b]? = w.heap[b]?) : w'.ownsRow B e size v n xs := by
  refine ⟨h.1, h.2.imp id ?_⟩
  rintro ⟨g, cap, cur, rfl, h1, h2, h3⟩
  exact ⟨g, cap, cur, rfl, h1, (hb g rfl).trans h2, h3⟩
/-- A row's block has the row's type. -/
theorem own_blk {w : World} {B : Nat} {e : TypeId} {size : Nat} {v : Value} {n : Nat} {xs : List Value} (h : w.ownsRow B e size v n xs) {b : Nat} (hb : v.ownBlock = some b) : ∃ cur, w.heap[b]? = some (.cells cur e (0, 0)) := by
  rcases h.2 with ⟨rfl, _⟩ | ⟨g, cap, cur, rfl, h1, h2, h3⟩
  · simp [Value.ownBlock] at hb
  · simp [Value.ownBlock] at hb; subst hb; exact ⟨cur, h2⟩
theorem tstep_call_append {P : Program} {ops : Array Oper} {o : Oper} {a : Act} {K : Act → World → Prop} {Q : Exit → Act → World → Prop} {E : Prop} {W W1 : World} {v sv xv : Value} (hgd : o.guard = none) (s x : Operand) (t : TypeId) (ho : o.op = .call { callee := .builtin .append, args := #[s, x], argTypes := #[t, t] })
    (hs : a.eval s = sv) (hx : a.eval x = xv) (hr : (Builtin.append_ #[t, t] o.type #[sv, xv]).run P W = .ok v W1) (h : K (a.put o.dst v) W1) : if Region.wanted o (yielded ops a.tmps) = true then Oper.wp P o a W K Q else E := by
  have hw : Region.wanted o (yielded ops a.tmps) = true := by simp [Region.wanted, hgd]
  rw [if_pos hw]
  unfold Oper.wp
  simp [execOp, ho, resolve, invoke, builtin, hs, hx, hr, Result.andThen]
  exact h
theorem tgb_alloc {w w' : World} {r : Option Nat} (h : w.grownBy w' r) (o : Obj) : w.grownBy (w'.alloc o) r :=
  ⟨h.os, h.tape, h.output, Nat.le_trans h.size (by simp), fun k hk hn => by
    have := h.block k hk hn
    have h2 := h.size
    simp only [World.alloc]
    rw [Array.getElem?_push_lt (by omega)]
    rw [← this, Array.getElem?_eq_getElem (by omega)]⟩
theorem tgb_then {w w' w'' : World} {r : Option Nat} (h : w.grownBy w' r) (k : w'.grownBy w'' r) : w.grownBy w'' r :=
  ⟨k.os.trans h.os, k.tape.trans h.tape, k.output.trans h.output, Nat.le_trans h.size k.size, fun i hi hn => (k.block i (Nat.lt_of_lt_of_le hi h.size) hn).trans (h.block i hi hn)⟩
theorem tgb_old {w w' : World} {r : Option Nat} (h : w.grownBy w' r) {p : Addr} (hp : p.block < w.heap.size) (hn : some p.block ≠ r) : w'.cell? p = w.cell? p := World.cell?_of_block (h.block _ hp hn)
theorem tgb_drew {w w' : World} {r : Option Nat} (h : w.grownBy w' r) : w.grownBy w'.drew r := ⟨h.os, h.tape, h.output, h.size, h.block⟩

/-- Blocks of the types that Z has not stay. -/
def Fy (Z : Nat → Prop) (W W' : World) : Prop := W.heap.size ≤ W'.heap.size ∧ ∀ (b : Nat) (cs : Array Value) (t : TypeId) (fr : Nat × Nat), W.heap[b]? = some (.cells cs t fr) → ¬ Z t → W'.heap[b]? = some (.cells cs t fr)
theorem Fy.refl (Z : Nat → Prop) (W : World) : Fy Z W W := ⟨Nat.le_refl _, fun _ _ _ _ h _ => h⟩
theorem Fy.trans {Z : Nat → Prop} {W W' W'' : World} (h : Fy Z W W') (k : Fy Z W' W'') : Fy Z W W'' := ⟨Nat.le_trans h.1 k.1, fun b cs t fr h1 h2 => k.2 b cs t fr (h.2 b cs t fr h1 h2) h2⟩
theorem Fy.of {Z : Nat → Prop} {W W' : World} (h : Below W.heap.size W W') : Fy Z W W' := ⟨h.size, fun b _ _ _ h1 _ => (h.block b (heap_lt3 h1)).trans h1⟩
theorem Fy.set {Z : Nat → Prop} {W : World} {q i : Nat} {cs : Array Value} {t : TypeId} {fr : Nat × Nat} (h : W.heap[q]? = some (.cells cs t fr)) (hz : Z t) (v : Value) : Fy Z W (W.setCell ⟨q, i, none⟩ v) :=
  ⟨by simp [World.setCell], fun b cs' t' fr' h1 h2 => by
    by_cases e : b = q
    · subst e; rw [h] at h1; simp only [Option.some.injEq, Obj.cells.injEq] at h1; obtain ⟨-, rfl, -⟩ := h1; exact absurd hz h2
    · rw [Below.heap_setCell _ _ _ _ (by simpa using e)]; exact h1⟩
theorem Fy.grown {Z : Nat → Prop} {W W' : World} {B : Nat} {e : TypeId} {size : Nat} {v : Value} {n : Nat} {xs : List Value} (ho : W.ownsRow B e size v n xs) (hz : Z e) (h : W.grownBy W' v.ownBlock) : Fy Z W W' :=
  ⟨h.size, fun b cs t fr h1 h2 => by
    refine (h.block b (heap_lt3 h1) fun e' => ?_).trans h1
    obtain ⟨cur, hc⟩ := own_blk ho e'.symm
    rw [hc] at h1
    simp only [Option.some.injEq, Obj.cells.injEq] at h1
    obtain ⟨-, rfl, -⟩ := h1
    exact h2 hz⟩
def Z37 (t : Nat) : Prop := t = 3 ∨ t = 107
theorem Bx.of_blk {w : World} {g : Nat} {p k : Int} {a : Option Addr} {n c : Nat} (h : w.heap[g]? = some (.cells #[.int .i64 p, .int .i64 k, .slice a n c] 32)) : Bx w g p k a n c :=
  ⟨heap_lt3 h, tcell_blk h 0, tcell_blk h 1, tcell_blk h 2⟩
theorem B2.of_blk {w : World} {g : Nat} {x y : Int} {ty : Nat} (h : w.heap[g]? = some (.cells #[.int .i64 x, .int .i64 y] ty)) : B2 w g x y :=
  ⟨heap_lt3 h, tcell_blk h 0, tcell_blk h 1⟩
theorem Wk.ne {w0 : World} {q : Nat} {t n : Int} {pv : Value} {nn : Nat} {wv : Value} {ws : List Int} {W : World} (h : Wk w0 q t n pv nn wv ws W) : some q ≠ wv.ownBlock := fun e => by
  obtain ⟨cur, hc⟩ := own_blk h.own e.symm
  have := h.blk
  rw [hc] at this
  simp at this
/-- The number of nodes is written. -/
theorem Wk.set {w0 : World} {q : Nat} {t n : Int} {pv : Value} {nn : Nat} {wv : Value} {ws : List Int} {W : World} (h : Wk w0 q t n pv nn wv ws W) (m : Nat) : Wk w0 q t n pv m wv ws (W.setCell ⟨q, 3, none⟩ (.int .i64 (m : Int))) := by
  refine ⟨by simpa using tblock_store (i := 3) h.blk (.int .i64 (m : Int)), town_keep h.own fun b hb => ?_, h.ge, h.bel.setCell h.ge _⟩
  exact Below.heap_setCell _ _ _ _ (by intro e; simp at e; subst e; exact h.ne hb.symm)
/-- The word grows. -/
theorem Wk.grow {w0 : World} {q : Nat} {t n : Int} {pv : Value} {nn : Nat} {wv : Value} {ws : List Int} {W V : World} {x : Int} {rv : Value} (h : Wk w0 q t n pv nn wv ws W) (hg : W.grownBy V wv.ownBlock) (ho : V.ownsRow w0.heap.size 3 1 rv (ws.length + 1) (ws.map (Value.int .i64) ++ [.int .i64 x])) :
    Wk w0 q t n pv nn rv (ws ++ [x]) (V.setCell ⟨q, 4, none⟩ rv) ∧ Fy Z37 W (V.setCell ⟨q, 4, none⟩ rv) := by
  have hq : V.heap[q]? = _ := (hg.block q (heap_lt3 h.blk) h.ne).trans h.blk
  have hne : ∀ b, rv.ownBlock = some b → b ≠ q := fun b hb e => by
    subst e
    obtain ⟨cur, hc⟩ := own_blk ho hb
    rw [hc] at hq
    simp at hq
  have hbv : Below w0.heap.size w0 V := h.bel.trans ⟨hg.os, hg.tape, hg.output, hg.size, fun k hk => hg.block k (by have := h.bel.size; omega) fun e => by have := own_ge h.own k e.symm; omega⟩
  refine ⟨⟨by simpa using tblock_store (i := 4) hq rv, ?_, h.ge, hbv.setCell h.ge _⟩, ?_⟩
  · rw [List.length_append, List.map_append]
    exact town_keep ho fun b hb => Below.heap_setCell _ _ _ _ (by simpa using hne b hb)
  · exact (Fy.grown h.own (Or.inl rfl) hg).trans (Fy.set hq (Or.inr rfl) rv)
/-- What through leaves. -/
def ThP (w0 : World) (q : Nat) (t n : Int) (pv : Value) (r : Nat × Nat × List Int) (W W' : World) : Prop := (∃ wv, Wk w0 q t n pv r.2.1 wv r.2.2 W') ∧ Fy Z37 W W'
end Go.Proofs.Ytpfehghicaaghaa
