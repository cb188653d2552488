/-
  As before, of a region some of whose edges bind other orders than ours: those are passed by. No function is walked here.
-/
import Derived.Test.YtpfehghicaaghaaInvs
namespace Go.Proofs.Ytpfehghicaaghaa
open Go.RowKit

/-- Each operation waits for elder ones alone, as far as an edge binds. -/
def backF (ops : List Oper) : Bool := (List.range ops.length).all fun i => match ops[i]? with | some o => o.after.toList.all (fun e => !Region.binds .any e || decide (e.on < i)) | none => true
theorem ready_done {ops : Array Oper} {listed : Array Bool} (hB : backF ops.toList = true) (hsz : listed.size = ops.size) (h : Region.ready .any ops listed = []) : ∀ i, i < ops.size → listed.getD i false = true := by
  intro i
  induction i using Nat.strongRecOn with
  | ind i ih =>
    intro hi
    cases hl : listed.getD i true with
    | true => simpa [hsz, hi] using hl
    | false =>
      exfalso
      have hm : i ∈ Region.ready .any ops listed := by
        rw [mem_ready]
        refine ⟨hl, ops[i], by simp [hi], fun e he hb => ?_⟩
        have h1 := List.all_eq_true.1 hB i (List.mem_range.2 (by simpa using hi))
        simp only [Array.length_toList, hi, List.getElem?_eq_getElem, Array.getElem_toList] at h1
        have h2 := List.all_eq_true.1 h1 e (by simpa using he)
        rw [hb] at h2
        have h3 : e.on < i := by simpa using h2
        exact ih e.on h3 (by omega)
      rw [h] at hm; cases hm
theorem wpAny_free {P : Program} {ops : Array Oper} {Q : Exit → Act → World → Prop} {I : (Nat → Bool) → Act → World → Prop} (hB : backF ops.toList = true) (hS : StepAll P ops Q I 0 ops.toList) (hE : ∀ d a w, I d a w → (∀ i, i < ops.size → d i = true) → Q .normal a w) :
    ∀ (fuel : Nat) (listed : Array Bool) (a : Act) (w : World), listed.size = ops.size → left ops.size listed ≤ fuel → I (fun i => listed.getD i false) a w → wpAny P .any ops Q fuel listed a w
  | 0, listed, a, w, hsz, hl, hI => by
    have hr : Region.ready .any ops listed = [] := by
      refine List.eq_nil_iff_forall_not_mem.2 fun i hi => ?_
      have h1 := mem_ready.1 hi
      obtain ⟨h2, o, ho, _⟩ := h1
      have := left_set (listed := listed) (Array.getElem?_eq_some_iff.1 ho).1 h2
      omega
    exact ⟨hr, hE _ _ _ hI (ready_done hB hsz hr)⟩
  | fuel + 1, listed, a, w, hsz, hl, hI => by
    refine ⟨fun hr => hE _ _ _ hI (ready_done hB hsz hr), fun i hi => ?_⟩
    obtain ⟨h2, o, ho, hdep⟩ := mem_ready.1 hi
    have hlt : i < ops.size := (Array.getElem?_eq_some_iff.1 ho).1
    have hst := StepAll.at hS (j := i) (o := o) (by simpa using ho)
    rw [Nat.zero_add] at hst
    have h2' : listed.getD i false = false := by simpa [hsz, hlt] using h2
    refine wpOp_step ho fun K hK => ?_
    refine hst _ a w hI h2' (fun e he hb => hdep e (by simpa using he) hb) K fun a' w' hI' => hK a' w' ?_
    refine wpAny_free hB hS hE fuel _ a' w' (by simpa using hsz) (by have := left_set (n := ops.size) hlt h2; omega) ?_
    have : (fun j => (listed.setIfInBounds i true).getD j false) = fun j => if j = i then true else listed.getD j false := by
      funext j
      by_cases e : j = i
      · subst e; simp [hsz, hlt]
      · rw [if_neg e, getD_set_ne false (Ne.symm e)]
    rw [this]; exact hI'
theorem wp_region_free {P : Program} {id : Nat} {l : List Oper} {Q : Exit → Act → World → Prop} {a : Act} {w : World} (hm : P.follows .mixedOrders = true) (I : Act → (Nat → Bool) → Act → World → Prop) (hB : backF l = true) (h0 : I a (fun _ => false) a w.drew)
    (hS : StepAll P l.toArray Q (I a) 0 l) (hE : ∀ d a' w', I a d a' w' → (∀ i, i < l.length → d i = true) → Q .normal a' w') : (Code.region id l.toArray true).wp P Q a w := by
  refine wp_region_any hm ?_
  refine wpAny_free (I := I a) (by simpa using hB) (by simpa using hS) (by simpa using hE) _ _ a _ (by simp) ?_ ?_
  · unfold left
    have := List.length_filter_le (fun i => !(Array.replicate l.toArray.size false).getD i true) (List.range l.toArray.size)
    simpa using this
  · have : (fun i => (Array.replicate l.toArray.size false).getD i false) = fun _ => false := by
      funext i
      by_cases h : i < l.toArray.size
      · simp at h; simp [h]
      · simp at h; simp [h]
    rw [this]; exact h0
end Go.Proofs.Ytpfehghicaaghaa
