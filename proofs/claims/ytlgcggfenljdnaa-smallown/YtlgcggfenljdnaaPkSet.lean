/-
  Stores of many cells at once: what is there behind them. No function is walked here.
-/
import Derived.Test.YtlgcggfenljdnaaPkMap
namespace Go.Proofs.Ytlgcggfenljdnaa
open Go.RowKit
open Dfa

theorem rowIs_setCells {t n g : Nat} : ∀ (vs : List Value) (o : Nat) {w : World} (f : Nat → Value), w.rowIs g t n f → o + vs.length ≤ n →
    ∃ f', (w.setCells g o vs).rowIs g t n f' ∧ (∀ i, i < o → f' i = f i) ∧ ∀ j v, vs[j]? = some v → f' (o + j) = v
  | [], o, w, f, h, _ => ⟨f, h, fun _ _ => rfl, fun j v hv => by simp at hv⟩
  | v :: vs, o, w, f, h, hl => by
    obtain ⟨f', h1, h2, h3⟩ := rowIs_setCells vs (o + 1) _ (h.set o v) (by simp at hl; omega)
    refine ⟨f', h1, fun i hi => by rw [h2 i (by omega)]; simp; omega, fun j u hj => ?_⟩
    match j, hj with
    | 0, hj =>
      simp at hj
      rw [Nat.add_zero, h2 o (by omega), ← hj]; simp
    | j + 1, hj =>
      rw [show o + (j + 1) = o + 1 + j by omega]
      exact h3 j u (by simpa using hj)
theorem heap_setCells_ne (g : Nat) : ∀ (vs : List Value) (o : Nat) (w : World) (k : Nat), k ≠ g → (w.setCells g o vs).heap[k]? = w.heap[k]?
  | [], _, _, _, _ => rfl
  | v :: vs, o, w, k, hk => (heap_setCells_ne g vs (o + 1) _ k hk).trans (Below.heap_setCell w ⟨g, o, none⟩ v k hk)
theorem size_setCells (g : Nat) : ∀ (vs : List Value) (o : Nat) (w : World), (w.setCells g o vs).heap.size = w.heap.size
  | [], _, _ => rfl
  | v :: vs, o, w => (size_setCells g vs (o + 1) _).trans (by simp [World.setCell])
theorem pl_one (O : Nat → Nat) (a b : Option Addr) (n c m d : Nat) : (pl O (.slice a n c) (.slice b m d)).toArray.all (·.oneCell') = true := all_oneCell_toArray fun v hv => by
  simp only [pl, ol, List.mem_append, List.mem_map, List.mem_cons, List.not_mem_nil, or_false] at hv
  rcases hv with ⟨j, _, rfl⟩ | rfl | rfl <;> rfl
theorem ol_zero : ol (fun _ => 0) = List.replicate 256 (.int .u8 0) := by
  apply List.ext_getElem?
  intro i
  by_cases h : i < 256
  · rw [ol_at _ i h, List.getElem?_replicate, if_pos h]; rfl
  · rw [List.getElem?_eq_none (by rw [ol_length]; omega), List.getElem?_replicate, if_neg h]
theorem zero47 : ∃ zs : Array Value, (∀ w, (zeroValue 47).run Try.prog w = .ok (.agg zs) w) ∧ zs.size = 258 ∧ zs = (pl (fun _ => 0) (.slice none 0 0) (.slice none 0 0)).toArray := by
  refine ⟨_, (zero_of_info (P := Try.prog) (t := 47) (v := .agg (Array.replicate 256 (.int .u8 0) ++ #[.slice none 0 0, .slice none 0 0])) (n := 258) (by kernel_rfl)).1, by simp, ?_⟩
  rw [pl, ol_zero]
  apply Array.toList_inj.1
  rw [Array.toList_append, Array.toList_replicate]
theorem zset (zs : Array Value) (h : zs = (pl (fun _ => 0) (.slice none 0 0) (.slice none 0 0)).toArray) (u v : Value) : (zs.setIfInBounds 256 u).setIfInBounds 257 v = (pl (fun _ => 0) u v).toArray := by
  subst h
  apply Array.ext_getElem?
  intro i
  rw [Array.getElem?_setIfInBounds, Array.getElem?_setIfInBounds]
  by_cases h : i < 256
  · rw [if_neg (by omega), if_neg (by omega), List.getElem?_toArray, List.getElem?_toArray, pl_of _ _ _ i h, pl_of _ _ _ i h]
  · by_cases h2 : i = 256
    · subst h2
      rw [if_neg (by omega), if_pos rfl, if_pos (by simp [pl_length]), List.getElem?_toArray, pl_next]
    · by_cases h3 : i = 257
      · subst h3
        rw [if_pos rfl, if_pos (by simp [pl_length]), List.getElem?_toArray, pl_tags]
      · rw [if_neg (by omega), if_neg (by omega), List.getElem?_toArray, List.getElem?_toArray, List.getElem?_eq_none (by rw [pl_length]; omega), List.getElem?_eq_none (by rw [pl_length]; omega)]
/-- The box of a packed automaton, as a row of 258 cells. -/
def pf (O : Nat → Nat) (nv tv : Value) (q : Nat) : Value := if q < 256 then .int .u8 (O q : Int) else if q = 256 then nv else tv
theorem pf_at (O : Nat → Nat) (nv tv : Value) (q : Nat) (h : q < 258) : (pl O nv tv)[q]? = some (pf O nv tv q) := by
  unfold pf
  by_cases h1 : q < 256
  · rw [if_pos h1, pl_of _ _ _ q h1]
  · rw [if_neg h1]
    by_cases h2 : q = 256
    · subst h2; rw [if_pos rfl, pl_next]
    · obtain rfl : q = 257 := by omega
      rw [if_neg h2, pl_tags]
theorem results_cell_tmp_mid {P : Program} {fn : Func} {p u : Tmp} {ty : TypeId} (h : fn.results = #[.cell p ty, .tmp u]) (tmps : Array Value) (w : World) (g : Nat) (cs : List Value) (d : TypeDesc) (hp : tmps.getD p undef = .pointer (some ⟨g, 0, none⟩)) (hc : w.rangeAt g 0 cs)
    (hu : P.underlying ty = some d) (hd : d.isRow = true) (hi : (P.info? ty).map (·.size) = some cs.length) : (results fn tmps).run P w = .ok (.tuple #[.agg cs.toArray, tmps.getD u undef]) w := by
  have hp' : tmps[p]?.getD undef = .pointer (some ⟨g, 0, none⟩) := by simpa using hp
  simp [results, h, hp', asAddr, run_loadVar_mid w g 0 ty cs d hc hu hd hi]
theorem wpList_store_new83 {ops : Array Oper} {rest : List Oper} {op : Oper} {a : Act} {w : World} {Q : Exit → Act → World → Prop} (hgd : op.guard = none) (x y : Operand) (ho : op.op = .store 83 x y)
    (c c' : Array Value) (hx : a.eval x = .pointer (some ⟨w.heap.size, 0, none⟩)) (hy : a.eval y = .agg c') (hc : c.size = 200) (hc' : c'.size = 200) (h1 : c'.all (·.oneCell') = true)
    (h : wpList Try.prog ops Q rest (a.put op.dst undef) (w.alloc (.cells c' 83))) : wpList Try.prog ops Q (op :: rest) a (w.alloc (.cells c 83)) :=
  wpList_plain hgd fun K hK => by
    unfold Oper.wp execOp
    simp only [ho, hx, hy, Sem.run_bind, run_storeAt_new w 83 c c' (by rw [hc']; exact size83) (by omega) h1, Result.andThen_ok]
    exact hK _ _ h
end Go.Proofs.Ytlgcggfenljdnaa
