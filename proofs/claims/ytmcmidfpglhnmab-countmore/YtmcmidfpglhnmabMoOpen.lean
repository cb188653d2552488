/-
  A grammar that is handed in: how many productions there can be.
-/
import Derived.Test.YtmcmidfpglhnmabMoRows
import Derived.Lib.SmallJoins
import Derived.SizedLaws
namespace Go.Proofs.Ytmcmidfpglhnmab
open Go.ChangeShapes Go.WideShapes Go.ChangeAt Go.RowKit
open Cg
set_option maxRecDepth 20000
variable {H : Type} {enc : TypeId × Value → H}
theorem bytes36 : Try.prog.bytesOf 36 = 32 := by kernel_rfl
theorem weights_gram {d0 d1 d2 : DataW H} {n : Nat} (h : n ∈ d2.weights Try.prog 22) : n ∈ (DataW.agg [d0, d1, d2]).weights Try.prog 24 := by
  rw [DataW.weights, Try.underlying24]
  simp only [List.map_cons, List.map_nil, DataW.weightsEach, List.append_nil, List.mem_append]
  exact Or.inr (Or.inr h)
theorem len_of {t e : TypeId} {W : World} {fuel : Nat} {a : Option Addr} {n cap : Nat} {y : DataW H × List MemPlace} (ht : Try.prog.underlying t = some (.slice e)) (h : DataW.trod enc Try.prog W 0 (fun _ => true) true fuel t [.slice a n cap] = some y) : n = 0 ∨ ∃ q, n ≤ q ∧ q * Try.prog.bytesOf e ∈ y.1.weights Try.prog t := by
  rcases Go.Deep.open_slice ht h with ⟨hcs, hx⟩ | ⟨a', len', cap', m, k, D, Pl, hcs, hb, hl, hm, hmm, hx, hel⟩
  · simp at hcs
    obtain ⟨rfl, rfl, rfl⟩ := hcs
    exact Or.inl rfl
  · simp at hcs
    obtain ⟨rfl, rfl, rfl⟩ := hcs
    refine Or.inr ⟨n + (m - n), by omega, ?_⟩
    rw [hx]
    simp [DataW.weights, ht]
theorem open_gramw {W : World} {r : Reach} {b0 : Nat} {v : Value} {d : DataW H} {p : List MemPlace} (hv : Value.okWide Try.prog W r b0 24 v) (h : DataW.Trod enc Try.prog W 0 (fun _ => true) true 24 v d p) :
    ∃ t n pv ps, v = .agg #[.int .i64 t, .int .i64 n, pv] ∧ Pds W pv ps ∧ (ps.length = 0 ∨ ∃ q, ps.length ≤ q ∧ q * 32 ∈ d.weights Try.prog 24) := by
  obtain ⟨cs, rfl, hsz⟩ := okWide_struct Try.underlying24 hv
  obtain ⟨fuel, hf⟩ := h
  obtain ⟨xs, n, hn, hd, hl, hxl, hf⟩ := DataW.trod_struct Try.underlying24 hf
  rw [kcells24] at hl
  simp only [Value.cells] at hl hf
  obtain ⟨L⟩ := cs
  simp only at hl hf
  match L, hl with
  | [x0, x1, x2], _ =>
    match xs, hxl with
    | [y0, y1, y2], _ =>
      have f0 := hf 0 _ rfl
      have f1 := hf 1 _ rfl
      have f2 := hf 2 _ rfl
      simp [kcells3, kcells22] at f0 f1 f2
      obtain ⟨z0, e0, _, _⟩ := DataW.trod_int Try.underlying3 f0
      obtain ⟨z1, e1, _, _⟩ := DataW.trod_int Try.underlying3 f1
      obtain ⟨pv, ps, e2, g2⟩ := open_pds f2
      simp at e0 e1 e2
      subst e0 e1 e2
      obtain ⟨ao, cap, rfl, hm, hc⟩ := id g2
      have l2 := len_of Try.underlying22 f2
      rw [bytes36] at l2
      refine ⟨_, _, _, _, rfl, g2, l2.imp id fun ⟨q, q1, q2⟩ => ⟨q, q1, ?_⟩⟩
      have e := congrArg Prod.fst hd
      simp only [List.map_cons, List.map_nil] at e
      rw [e]
      exact weights_gram q2
theorem sized_each {P : Program} {ts : List TypeId} {ds : List (DataW H)} (h : (DataW.weightsEach P ts ds).all (· ≤ reachBytes) = true) {j : Nat} {t : TypeId} {d : DataW H} (ht : ts[j]? = some t) (hd : ds[j]? = some d) {n : Nat} (hn : n ∈ d.weights P t) : n ≤ reachBytes := by
  have := List.all_eq_true.1 h _ (DataW.weights_mem_each ht hd n hn)
  simpa using this
end Go.Proofs.Ytmcmidfpglhnmab
