/-
  The three rules of pushkeep.abc, and their automaton, reckoned.
-/
import Derived.Test.YtlmlkpdppkgenaaWMae
namespace Go.Proofs.Ytlmlkpdppkgenaa
open Go.RowKit
open Cls Po Rex Dm

def abT : List T := [.mk 3 (range 97 97) [], .mk 4 empty [.mk 3 (range 97 97) [], .mk 3 (range 98 98) []], .mk 4 empty [.mk 3 (range 32 32) [], .mk 6 empty [.mk 3 (range 32 32) []]]]
def abX : List Rex.E := [.byte (range 97 97), .cat (.byte (range 97 97)) (.byte (range 98 98)), .cat (.byte (range 32 32)) (.star (.byte (range 32 32)))]
theorem ab_rts : Pm.Rts abT abX := ⟨rfl, fun i hi hi2 => by
  have : i = 0 ∨ i = 1 ∨ i = 2 := by simp [abT] at hi; omega
  rcases this with rfl | rfl | rfl
  · exact .byte (by decide)
  · exact .cat (.byte (by decide)) (.byte (by decide))
  · exact .cat (.byte (by decide)) (.star (.byte (by decide))), fun x hx => by
  simp only [abX, List.mem_cons, List.not_mem_nil, or_false] at hx
  rcases hx with rfl | rfl | rfl <;> simp [Rex.E.nodes]⟩
theorem ab_ans : mkAns abT abX = 0 := by decide +kernel
def abP : P := posX abX
theorem ab_facts : (G abP 1).length = 3 ∧ (G abP 2).length = 4 ∧ (G abP 3).length = 5 ∧ (G abP 4).length = 5 ∧ (G abP 5).length = 5 := by decide +kernel
theorem ab_end : Dm.End abP 5 := by
  obtain ⟨f1, f2, f3, f4, f5⟩ := ab_facts
  refine ⟨⟨by omega, fun j hj => ?_⟩, Or.inr f5⟩
  have : j = 0 ∨ j = 1 ∨ j = 2 ∨ j = 3 ∨ j = 4 := by omega
  rcases this with rfl | rfl | rfl | rfl | rfl
  · exact ⟨G_pos _ 0, fun h => by omega⟩
  · exact ⟨by omega, fun _ => by omega⟩
  · exact ⟨by omega, fun _ => by omega⟩
  · exact ⟨by omega, fun _ => by omega⟩
  · exact ⟨by omega, fun _ => by omega⟩
def abR : Nat → Nat → Int := rowF abP (G abP 5)
def abG : Nat → Int := tagF abP (G abP 5)
theorem made_abc (v : Value) (w : World) (ht : Rxs w w.heap.size v abT) : Calls Try.prog 13 #[v] w fun e w' => ∃ rb rc tb tc, e = .returned (.tuple #[.agg #[.slice (some ⟨rb, 0, none⟩) 5 rc, .slice (some ⟨tb, 0, none⟩) 5 tc], .bool true]) ∧ Df.Rw w' (.slice (some ⟨rb, 0, none⟩) 5 rc) 5 abR ∧ Df.Ts w' (.slice (some ⟨tb, 0, none⟩) 5 tc) 5 abG ∧ All abP 5 ∧ Below w.heap.size w w' := by
  refine (made_any v _ abX w ht (fun _ => ab_rts)).mono fun e w' h => ?_
  obtain ⟨hb, ⟨-, h | ⟨k, h1, h2⟩⟩ | ⟨-, k, rb, rc, tb, tc, hall, hk, rfl, hrw, hts⟩⟩ := h
  · exact absurd ab_ans h
  · have := end_one h1 ab_end
    subst this
    have := ab_facts.2.2.2.2
    have h3 : 200 < (G abP 5).length := h2
    omega
  · have := end_one ⟨hall.far, Or.inr hall.len⟩ ab_end
    subst this
    exact ⟨rb, rc, tb, tc, rfl, hrw, hts, hall, hb⟩
theorem rxs_three (w : World) (B : Nat) (k0 k1 k2 : Int) (c0 c1 c2 : Cl) (a0 a1 a2 : Option Addr) (n0 n1 n2 p0 p1 p2 : Nat) (t0 t1 t2 : T) (h0 : Rx w B (.agg #[.int .i64 k0, .int .u64 (c0.1.toNat : Int), .int .u64 (c0.2.1.toNat : Int), .int .u64 (c0.2.2.1.toNat : Int), .int .u64 (c0.2.2.2.toNat : Int), .slice a0 n0 p0]) t0) (h1 : Rx w B (.agg #[.int .i64 k1, .int .u64 (c1.1.toNat : Int), .int .u64 (c1.2.1.toNat : Int), .int .u64 (c1.2.2.1.toNat : Int), .int .u64 (c1.2.2.2.toNat : Int), .slice a1 n1 p1]) t1) (h2 : Rx w B (.agg #[.int .i64 k2, .int .u64 (c2.1.toNat : Int), .int .u64 (c2.2.1.toNat : Int), .int .u64 (c2.2.2.1.toNat : Int), .int .u64 (c2.2.2.2.toNat : Int), .slice a2 n2 p2]) t2) (hB : B ≤ w.heap.size) :
    Rxs (w.alloc (.cells #[.int .i64 k0, .int .u64 (c0.1.toNat : Int), .int .u64 (c0.2.1.toNat : Int), .int .u64 (c0.2.2.1.toNat : Int), .int .u64 (c0.2.2.2.toNat : Int), .slice a0 n0 p0, .int .i64 k1, .int .u64 (c1.1.toNat : Int), .int .u64 (c1.2.1.toNat : Int), .int .u64 (c1.2.2.1.toNat : Int), .int .u64 (c1.2.2.2.toNat : Int), .slice a1 n1 p1, .int .i64 k2, .int .u64 (c2.1.toNat : Int), .int .u64 (c2.2.1.toNat : Int), .int .u64 (c2.2.2.1.toNat : Int), .int .u64 (c2.2.2.2.toNat : Int), .slice a2 n2 p2] 44)) (w.heap.size + 1) (.slice (some ⟨w.heap.size, 0, none⟩) 3 3) [t0, t1, t2] := by
  refine ⟨_, 3, fun i => if i = 0 then (.agg #[.int .i64 k0, .int .u64 (c0.1.toNat : Int), .int .u64 (c0.2.1.toNat : Int), .int .u64 (c0.2.2.1.toNat : Int), .int .u64 (c0.2.2.2.toNat : Int), .slice a0 n0 p0]) else if i = 1 then (.agg #[.int .i64 k1, .int .u64 (c1.1.toNat : Int), .int .u64 (c1.2.1.toNat : Int), .int .u64 (c1.2.2.1.toNat : Int), .int .u64 (c1.2.2.2.toNat : Int), .slice a1 n1 p1]) else (.agg #[.int .i64 k2, .int .u64 (c2.1.toNat : Int), .int .u64 (c2.2.1.toNat : Int), .int .u64 (c2.2.2.1.toNat : Int), .int .u64 (c2.2.2.2.toNat : Int), .slice a2 n2 p2]), rfl, by simp, Or.inr ⟨w.heap.size, 0, rfl, by omega, fun i hi j hj => ?_⟩, fun i hi => ?_⟩
  · have h9 : i = 0 ∨ i = 1 ∨ i = 2 := by simp at hi; omega
    have : j = 0 ∨ j = 1 ∨ j = 2 ∨ j = 3 ∨ j = 4 ∨ j = 5 := by omega
    rcases h9 with rfl | rfl | rfl <;> (rcases this with rfl | rfl | rfl | rfl | rfl | rfl <;> simp [Value.cells])
  · have h9 : i = 0 ∨ i = 1 ∨ i = 2 := by simp at hi; omega
    rcases h9 with rfl | rfl | rfl
    · exact (h0.next ((below_alloc1 w _).mono hB)).wide (by omega)
    · exact (h1.next ((below_alloc1 w _).mono hB)).wide (by omega)
    · exact (h2.next ((below_alloc1 w _).mono hB)).wide (by omega)
end Go.Proofs.Ytlmlkpdppkgenaa
