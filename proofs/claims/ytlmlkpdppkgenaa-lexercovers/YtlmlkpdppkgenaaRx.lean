/-
  What an argument that is a regular expression is: a tree, its Kids one behind the other in memory, all the way down; and that it stays while a call makes memory of its own. No function is walked here.
-/
import Derived.Test.YtlmlkpdppkgenaaEqs
import Derived.Test.YtlmlkpdppkgenaaTree
import Derived.Deep.Slices
set_option maxRecDepth 20000
namespace Go.Proofs.Ytlmlkpdppkgenaa
open Go.ChangeShapes Go.WideShapes Go.ChangeAt Go.RowKit
open Cls Rex

theorem cells44 : Try.prog.cellsOf 44 = 6 := by kernel_rfl
theorem rxcells22 : Try.prog.cellsOf 37 = 1 := by kernel_rfl
theorem rxcells3 : Try.prog.cellsOf 3 = 1 := by kernel_rfl

/-- A value is that tree. -/
inductive Rx (w : World) (B : Nat) : Value → T → Prop where
  | mk (k : Int) (c : Cl) (ao : Option Addr) (cap : Nat) (kids : List T) (vals : Nat → Value) (hk : -9223372036854775808 ≤ k ∧ k ≤ 9223372036854775807) (hm : kids.length ≤ 9223372036854775807)
      (hc : kids = [] ∨ ∃ b o, ao = some ⟨b, o, none⟩ ∧ b < B ∧ ∀ i, i < kids.length → ∀ j, j < 6 → w.cell? ⟨b, o + i * 6 + j, none⟩ = (vals i).cells[j]?)
      (hr : ∀ i (hi : i < kids.length), Rx w B (vals i) kids[i]) :
      Rx w B (.agg #[.int .i64 k, .int .u64 (c.1.toNat : Int), .int .u64 (c.2.1.toNat : Int), .int .u64 (c.2.2.1.toNat : Int), .int .u64 (c.2.2.2.toNat : Int), .slice ao kids.length cap]) (.mk k c kids)
theorem Rx.next {w w' : World} {B : Nat} {v : Value} {t : T} (h : Rx w B v t) (hb : Below B w w') : Rx w' B v t := by
  induction h with
  | mk k c ao cap kids vals hk hm hc hr ih =>
    refine .mk k c ao cap kids vals hk hm ?_ ih
    rcases hc with h | ⟨b, o, h1, h2, h3⟩
    · exact Or.inl h
    · exact Or.inr ⟨b, o, h1, h2, fun i hi j hj => (hb.cell (p := ⟨b, o + i * 6 + j, none⟩) h2).trans (h3 i hi j hj)⟩
theorem Rx.wide {w : World} {B B' : Nat} {v : Value} {t : T} (h : Rx w B v t) (hB : B ≤ B') : Rx w B' v t := by
  induction h with
  | mk k c ao cap kids vals hk hm hc hr ih =>
    refine .mk k c ao cap kids vals hk hm ?_ ih
    rcases hc with h | ⟨b, o, h1, h2, h3⟩
    · exact Or.inl h
    · exact Or.inr ⟨b, o, h1, Nat.lt_of_lt_of_le h2 hB, h3⟩
/-- What such a value looks like. -/
theorem Rx.shape {w : World} {B : Nat} {v : Value} {t : T} (h : Rx w B v t) : ∃ (k : Int) (c : Cl) (ao : Option Addr) (cap : Nat) (kids : List T) (vals : Nat → Value), v = .agg #[.int .i64 k, .int .u64 (c.1.toNat : Int), .int .u64 (c.2.1.toNat : Int), .int .u64 (c.2.2.1.toNat : Int), .int .u64 (c.2.2.2.toNat : Int), .slice ao kids.length cap] ∧ t = .mk k c kids ∧ (-9223372036854775808 ≤ k ∧ k ≤ 9223372036854775807) ∧ kids.length ≤ 9223372036854775807 ∧ (kids = [] ∨ ∃ b o, ao = some ⟨b, o, none⟩ ∧ b < B ∧ ∀ i, i < kids.length → ∀ j, j < 6 → w.cell? ⟨b, o + i * 6 + j, none⟩ = (vals i).cells[j]?) ∧ ∀ i (hi : i < kids.length), Rx w B (vals i) kids[i] := by
  cases h with
  | mk k c ao cap kids vals hk hm hc hr => exact ⟨k, c, ao, cap, kids, vals, rfl, rfl, hk, hm, hc, hr⟩

variable {H : Type} {enc : TypeId × Value → H}
theorem open_rex_cells {W : World} : ∀ (m : Nat) {cs : List Value} {y : DataW H × List MemPlace}, DataW.trod enc Try.prog W 0 (fun _ => true) true m 44 cs = some y → ∃ t, Rx W W.heap.size (.agg cs.toArray) t := by
  intro m
  induction m using Nat.strongRecOn with
  | ind m ih =>
    intro cs y h
    obtain ⟨xs, n, hn, _, hl, hxl, hf⟩ := DataW.trod_struct Try.underlying44 h
    rw [cells44] at hl
    match cs, hl with
    | [x0, x1, x2, x3, x4, x5], _ =>
      match xs, hxl with
      | [y0, y1, y2], _ =>
        have f0 := hf 0 _ rfl
        have f1 := hf 1 _ rfl
        have f2 := hf 2 _ rfl
        simp [rxcells3, cells23, rxcells22] at f0 f1 f2
        obtain ⟨z, e0, _, hw⟩ := DataW.trod_int Try.underlying3 f0
        simp at e0
        subst e0
        have hz : -9223372036854775808 ≤ z ∧ z ≤ 9223372036854775807 := by simpa [Lit.wf, IntKind.min, IntKind.max, IntKind.signed, IntKind.bits] using hw
        obtain ⟨c, hc⟩ := open_cells f1
        simp at hc
        obtain ⟨rfl, rfl, rfl, rfl⟩ := hc
        rcases DataW.trod_slice Try.underlying37 f2 with ⟨h0, _⟩ | ⟨a, len, cap, elems, rest, n', hn', e5, _, hb, hlc, hmx, hlen, hel, _, _⟩
        · simp at h0
          subst h0
          exact ⟨.mk z c [], .mk z c none 0 [] (fun _ => undef) hz (by simp) (Or.inl rfl) (fun i hi => absurd hi (Nat.not_lt_zero _))⟩
        · simp at e5
          subst e5
          have hE : ∀ i, i < len → ∃ q : T × List Value, Rx W W.heap.size (.agg q.2.toArray) q.1 ∧ ∀ j, j < 6 → W.cell? ((a.add (i * 6)).add j) = q.2[j]? := fun i hi => by
            have h1 := hel i hi
            rw [cells44] at h1
            have h2 : elems[i]? = some elems[i] := List.getElem?_eq_getElem (by omega)
            rw [h2] at h1
            cases hcs : W.cells? 0 (a.add (i * 6)) 6 with
            | none => rw [hcs] at h1; cases h1
            | some cs' =>
              rw [hcs] at h1
              obtain ⟨t, ht⟩ := ih n' (by omega) h1
              obtain ⟨_, hlen', hat⟩ := World.cells?_some hcs
              refine ⟨(t, cs'), ht, fun j hj => ?_⟩
              have := hat j (by omega)
              rw [this]
          have : Inhabited (T × List Value) := ⟨(.mk 0 empty [], [])⟩
          obtain ⟨F, hF⟩ := Go.Deep.choose_lt hE
          have hkl : ((List.range len).map fun i => (F i).1).length = len := by simp
          refine ⟨.mk z c ((List.range len).map fun i => (F i).1), ?_⟩
          have hx := Rx.mk (w := W) (B := W.heap.size) z c (some a) cap ((List.range len).map fun i => (F i).1) (fun i => .agg (F i).2.toArray) hz (by rw [hkl]; unfold maxLen at hmx; omega) ?_ (fun i hi => by
            have hi' : i < len := by rwa [hkl] at hi
            simpa using (hF i hi').1)
          · rw [hkl] at hx; exact hx
          · by_cases h0 : len = 0
            · left; subst h0; simp
            · right
              obtain ⟨b, off, spot⟩ := a
              have hc0 := (hF 0 (by omega)).2 0 (by omega)
              obtain ⟨_, _, _, _, _, _, hs, _⟩ := (hF 0 (by omega)).1.shape
              have hc1 : W.cell? (((⟨b, off, spot⟩ : Addr).add (0 * 6)).add 0) ≠ Option.none := by
                rw [hc0]
                simp only [Value.agg.injEq] at hs
                have := congrArg Array.toList hs
                simp at this
                rw [this]; simp
              obtain ⟨u, hu⟩ := Option.ne_none_iff_exists'.1 hc1
              have hspot : spot = Option.none := by simpa [Addr.add] using World.cell?_spot hu
              subst hspot
              have e : ∀ i j, ((⟨b, off, Option.none⟩ : Addr).add (i * 6)).add j = ⟨b, off + i * 6 + j, Option.none⟩ := fun i j => by rw [Go.WideShapes.add_plain, Go.WideShapes.add_plain]
              refine ⟨b, off, rfl, ?_, fun i hi j hj => ?_⟩
              · rw [e] at hu
                exact World.block_lt_of_cell? W _ hu
              · have := (hF i (by rwa [hkl] at hi)).2 j hj
                rw [e] at this
                rw [this]
                simp [Value.cells]
theorem open_rex {W : World} {v : Value} {d : DataW H} {p : List MemPlace} {r : Reach} {b0 : Nat} (hv : Value.okWide Try.prog W r b0 44 v) (h : DataW.Trod enc Try.prog W 0 (fun _ => true) true 44 v d p) : ∃ t : T, Rx W W.heap.size v t := by
  obtain ⟨m, hm⟩ := h
  simp only [Value.okWide, Try.underlying44] at hv
  obtain ⟨cs, rfl, _⟩ := hv
  obtain ⟨t, ht⟩ := open_rex_cells m hm
  exact ⟨t, by simpa [Value.cells] using ht⟩
end Go.Proofs.Ytlmlkpdppkgenaa
