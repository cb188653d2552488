/-
  The first rules alone: what is wanted for DfaFew beside made.
-/
import Derived.Test.YtlmlkpdppkgenaaWMad
namespace Go.Proofs.Ytlmlkpdppkgenaa
open Go.ChangeShapes Go.WideShapes Go.ChangeAt Go.RowKit
open Cls Po Rex Dm

theorem bytes44 : Try.prog.bytesOf 44 = 64 := by kernel_rfl
set_option maxRecDepth 20000 in
theorem open_rxs_wide {H : Type} {enc : TypeId × Value → H} {W : World} {r : Reach} {b0 : Nat} {v : Value} {d : DataW H} {p : List MemPlace} (hv : Value.okWide Try.prog W r b0 37 v) (h : DataW.Trod enc Try.prog W 0 (fun _ => true) true 37 v d p) :
    ∃ ts, Rxs W W.heap.size v ts ∧ (∃ ao cap, v = .slice ao ts.length cap ∧ ts.length ≤ cap) ∧ (ts = [] ∨ ∃ el sp, d = .slice el sp ∧ el.length = ts.length) := by
  obtain ⟨ts, hts⟩ := open_rxs hv h
  refine ⟨ts, hts, ?_⟩
  obtain ⟨fuel, hf⟩ := h
  obtain ⟨ao, cap, vals, rfl, -, -, -⟩ := hts
  have hc : (Value.slice ao ts.length cap).cells = #[Value.slice ao ts.length cap] := rfl
  rw [hc] at hf
  rcases Go.Deep.open_slice Try.underlying37 hf with ⟨hcs, hx⟩ | ⟨a', len', cap', m, n, D, Pl, hcs, hb, hl, hm, hmm, hx, -⟩
  · simp at hcs
    obtain ⟨rfl, h0, rfl⟩ := hcs
    exact ⟨⟨none, 0, rfl, by simp [h0]⟩, Or.inl h0⟩
  · simp at hcs
    obtain ⟨rfl, h0, rfl⟩ := hcs
    exact ⟨⟨_, _, rfl, by omega⟩, Or.inr ⟨_, _, congrArg Prod.fst hx, by simp [h0]⟩⟩
theorem Rxs.take {w : World} {B : Nat} {ao : Option Addr} {cap : Nat} {ts : List T} (h : Rxs w B (.slice ao ts.length cap) ts) {r : Nat} (hr0 : 0 < r) (hr : r ≤ ts.length) (c : Nat) : Rxs w B (.slice ao r c) (ts.take r) := by
  obtain ⟨ao', cap', vals, he, hm, hc, hx⟩ := h
  cases he
  have hl : (ts.take r).length = r := by rw [List.length_take]; omega
  refine ⟨ao, c, vals, by rw [hl], by rw [hl]; omega, ?_, fun i hi => ?_⟩
  · rcases hc with hc | ⟨b, o, h1, h2, h3⟩
    · rw [hc] at hr; simp at hr; omega
    · exact Or.inr ⟨b, o, h1, h2, fun i hi => h3 i (by rw [hl] at hi; omega)⟩
  · have := hx i (by rw [hl] at hi; omega)
    rw [List.getElem_take]; exact this
theorem errL_take : ∀ {ts : List T} (r : Nat), Pm.errL ts = 0 → Pm.errL (ts.take r) = 0
  | [], r, h => by simpa using h
  | t :: ts, 0, h => rfl
  | t :: ts, r + 1, h => by
    rw [List.take_succ_cons]
    unfold Pm.errL at h ⊢
    by_cases e : rerr t = 0
    · rw [if_pos e] at h ⊢
      exact errL_take r h
    · rw [if_neg e] at h
      exact absurd h e
theorem rts_take {ts : List T} {xs : List Rex.E} (h : Pm.Rts ts xs) (r : Nat) : Pm.Rts (ts.take r) (xs.take r) :=
  ⟨by rw [List.length_take, List.length_take, h.len], fun i hi hi2 => by
    rw [List.getElem_take, List.getElem_take]
    exact h.is i (by simp at hi; omega) (by simp at hi2; omega), fun x hx => h.few x (List.mem_of_mem_take hx)⟩
theorem few_first {n r : Nat} {A C : Nat → Bool} (hr : r ≤ n) (h : ∀ i, i < r → A i = C i) : firstR r C = if (r : Int) ≤ firstR n A then -1 else firstR n A := by
  rcases firstR_cases n A with ⟨e, h1⟩ | ⟨i, hi, h1, h2, e⟩
  · rw [e, if_neg (by omega), firstR_none fun i hi => by rw [← h i hi]; exact h1 i (by omega)]
  · rw [e]
    by_cases hlt : i < r
    · rw [if_neg (by omega), firstR_some hlt (by rw [← h i hlt]; exact h1) fun j hj => by rw [← h j (by omega)]; exact h2 j hj]
    · rw [if_pos (by omega), firstR_none fun j hj => by rw [← h j hj]; exact h2 j (by omega)]

set_option maxHeartbeats 1600000 in
set_option maxRecDepth 20000 in
theorem drest_any (i z : Int) (n : Nat) (w : World) (hz0 : z = (n : Int)) (hn0 : 0 < n) (hn : n ≤ 4398046510977) :
    Calls Try.prog 17 #[.int .i64 i, .int .i64 z] w fun e w' => (∃ r : Nat, r < n ∧ e = .returned (.int .i64 (r : Int))) ∧ Below w.heap.size w w' := by
  subst hz0
  have hz : ((n : Int) == 0) = false := by simp; omega
  have hlt : i.tmod (n : Int) < (n : Int) := Int.tmod_lt_of_pos i (by omega)
  have hgt : -(n : Int) < i.tmod (n : Int) := by
    have := Int.lt_tmod_of_pos i (b := (n : Int)) (by omega)
    exact this
  obtain ⟨q, HQ⟩ : ∃ q, Hid (i.tmod (n : Int) = q) := ⟨_, (rfl : _ = _)⟩
  have hq := HQ.out
  rw [hq] at hlt hgt
  have hn1 : (n : Int) ≠ 0 := by omega
  go_enter Try.func17, Try.ntmps17
  by_cases h : q < 0
  · go_wp2_with fail
    go_ret
    refine ⟨⟨(q + (n : Int)).toNat, by omega, ?_⟩, Below.refl _ _⟩
    rw [show (((q + (n : Int)).toNat : Nat) : Int) = q + (n : Int) by omega]
    rfl
  · go_wp2_with fail
    go_ret
    refine ⟨⟨q.toNat, by omega, ?_⟩, Below.refl _ _⟩
    rw [show ((q.toNat : Nat) : Int) = q by omega]
    rfl
end Go.Proofs.Ytlmlkpdppkgenaa
