/-
  A region that draws its order, whose operations but the last one only read, whose callees leave what is held of the world, and whose last one waits for all others: one walk in the order of the text serves, and then the last one. No function is walked here.
-/
import Derived.Test.YtpfehghicaaghaaKeeps
namespace Go.Proofs.Ytpfehghicaaghaa
open Go.RowKit

variable {P : Program} {ops : Array Oper} {md : Region.Mode} {C : World → Prop} {LE : Array Bool} {QQ : Act → Prop}

/-- Whatever order is picked for the next n operations: then just those of LE are listed, and QQ holds. -/
def wpT (P : Program) (md : Region.Mode) (ops : Array Oper) (C : World → Prop) (LE : Array Bool) (QQ : Act → Prop) : Nat → Array Bool → Act → Prop
  | 0, listed, a => listed = LE ∧ QQ a
  | fuel + 1, listed, a => Region.ready md ops listed ≠ [] ∧ ∀ i ∈ Region.ready md ops listed, qOp P ops C i (wpT P md ops C LE QQ fuel (listed.setIfInBounds i true)) a

theorem wpAny_of_T {Q' : Exit → Act → World → Prop} {m : Nat} (hR : ∀ a w, C w → QQ a → wpAny P md ops Q' m LE a w) : ∀ (n : Nat) (listed : Array Bool) (a : Act) (w : World), C w → wpT P md ops C LE QQ n listed a → wpAny P md ops Q' (n + m) listed a w
  | 0, listed, a, w, hw, h => by
    obtain ⟨rfl, h⟩ := h
    rw [Nat.zero_add]; exact hR a w hw h
  | n + 1, listed, a, w, hw, h => by
    rw [show n + 1 + m = (n + m) + 1 by omega]
    exact ⟨fun h0 => absurd h0 h.1, fun i hi => wpOp_of_qOp hw (fun a' w' hw' => wpAny_of_T hR n _ a' w' hw') (h.2 i hi)⟩

theorem wpT_first {t i : Nat} {oi ot : Oper} {v : Value} (ht : ops[t]? = some ot) (hready : Region.ready md ops LE = [t]) (hwait : ∃ e ∈ ot.after, Region.binds md e = true ∧ e.on = i)
    (hi : ops[i]? = some oi) (hsel : ∀ (j : Nat) (o : Oper) cs b, ops[j]? = some o → o.op ≠ .select cs b) :
    ∀ (fuel : Nat) (listed : Array Bool) (a : Act),
      (∀ j oj, ops[j]? = some oj → j ≠ i → listed.getD j true = false → (∀ e ∈ oj.after, Region.binds md e = true → e.on ≠ i) → oi.apart ops oj = true) →
      i ∈ Region.ready md ops listed → YieldsIn P ops C oi v a →
      wpT P md ops C LE QQ fuel (listed.setIfInBounds i true) (a.put oi.dst v) → wpT P md ops C LE QQ (fuel + 1) listed a := by
  intro fuel
  induction fuel with
  | zero =>
    intro listed a _ hr hy H
    refine ⟨fun h => (by rw [h] at hr; cases hr), fun j hj => ?_⟩
    by_cases hji : j = i
    · subst hji; exact hy.qOp hi H
    · have hm := ready_mono hj hji
      rw [H.1, hready] at hm
      have ejt : j = t := by simpa using hm
      subst ejt
      obtain ⟨hjun, oj, hoj, hall⟩ := mem_ready.1 hj
      rw [ht] at hoj
      cases hoj
      obtain ⟨e, he, hb, heq⟩ := hwait
      have h1 := hall e he hb
      have h0 := (mem_ready.1 hr).1
      rw [heq] at h1
      rcases Nat.lt_or_ge i listed.size with h' | h'
      · simp [h'] at h0 h1; rw [h0] at h1; cases h1
      · simp [Array.getElem?_eq_none h'] at h1
  | succ fuel ih =>
    intro listed a hfree hr hy H
    refine ⟨fun h => (by rw [h] at hr; cases hr), fun j hj => ?_⟩
    by_cases hji : j = i
    · subst hji; exact hy.qOp hi H
    · have h1 := H.2 j (ready_mono hj hji)
      obtain ⟨hjun, oj, hoj, hall⟩ := mem_ready.1 hj
      have hnot : ∀ e ∈ oj.after, Region.binds md e = true → e.on ≠ i := fun e he hb heq => by
        have h1 := hall e he hb
        have h0 := (mem_ready.1 hr).1
        rw [heq] at h1
        rcases Nat.lt_or_ge i listed.size with h' | h'
        · simp [h'] at h0 h1; rw [h0] at h1; cases h1
        · simp [Array.getElem?_eq_none h'] at h1
      have h2 := qOp_put hoj (hfree j oj hoj hji hjun hnot) (fun cs b => hsel i oi cs b hi) (fun cs b => hsel j oj cs b hoj) hy h1
      have hfree' : ∀ k ok, ops[k]? = some ok → k ≠ i → (listed.setIfInBounds j true).getD k true = false →
          (∀ e ∈ ok.after, Region.binds md e = true → e.on ≠ i) → oi.apart ops ok = true := fun k ok hk hki hun hno => by
        refine hfree k ok hk hki ?_ hno
        by_cases hjk : j = k
        · subst hjk; exact hjun
        · rw [getD_set_ne true hjk] at hun; exact hun
      refine qOp_mono (fun a' h3 => ih (listed.setIfInBounds j true) a' hfree' (ready_mono hr (Ne.symm hji)) h3.1 ?_) h2
      rw [Array.setIfInBounds_comm _ _ hji]
      exact h3.2

/-- The lexical order, up to the last one. -/
def lexPart (md : Region.Mode) (ops : Array Oper) : Nat → Nat → Array Bool → Bool
  | 0, _, _ => true
  | fuel + 1, k, listed => (Region.ready md ops listed).contains k && Region.free md ops listed k && lexPart md ops fuel (k + 1) (listed.setIfInBounds k true)
def fillFrom : Nat → Nat → Array Bool → Array Bool
  | 0, _, listed => listed
  | n + 1, k, listed => fillFrom n (k + 1) (listed.setIfInBounds k true)

theorem wpT_lex {t : Nat} {ot : Oper} (hs : Region.noSelect ops = true) (ht : ops[t]? = some ot) (hready : Region.ready md ops LE = [t]) (hwait : ∀ i, i < t → ∃ e ∈ ot.after, Region.binds md e = true ∧ e.on = i) :
    ∀ (l : List Oper) (k : Nat) (listed : Array Bool) (a : Act), k + l.length = t → (∀ j, j < l.length → l[j]? = ops[k + j]?) → lexPart md ops l.length k listed = true → fillFrom l.length k listed = LE → wpQuiet P ops C QQ l a → wpT P md ops C LE QQ l.length listed a
  | [], _, _, _, _, _, _, hL, h => ⟨hL, h⟩
  | o :: l, k, listed, a, hk, hl, hB, hL, h => by
    have h0 : ops[k]? = some o := by simpa using (hl 0 (by simp)).symm
    simp only [List.length_cons, lexPart, Bool.and_eq_true] at hB
    obtain ⟨⟨hr, hf⟩, hB'⟩ := hB
    have hst : qOp P ops C k (wpQuiet P ops C QQ l) a := by unfold qOp; simp only [h0]; exact h
    obtain ⟨v, hy, hK⟩ := yieldsIn_of_qOp h0 hst
    exact wpT_first ht hready (hwait k (by simp at hk; omega)) h0 (Region.noSelect_spec hs) l.length listed a (Region.free_spec h0 hf) (by simpa using hr) hy
      (wpT_lex hs ht hready hwait l (k + 1) _ _ (by simp at hk; omega) (fun j hj => by have := hl (j + 1) (by simp; omega); simpa [Nat.add_assoc, Nat.add_comm 1 j] using this) hB' hL hK)

/-- The last operation waits for each of the others. -/
def waitsAll (ot : Oper) (n : Nat) : Bool := (List.range n).all fun i => ot.after.any fun e => Region.binds .any e && e.on == i
theorem waitsAll_spec {ot : Oper} {n : Nat} (h : waitsAll ot n = true) (i : Nat) (hi : i < n) : ∃ e ∈ ot.after, Region.binds .any e = true ∧ e.on = i := by
  have := List.all_eq_true.1 h i (List.mem_range.2 hi)
  obtain ⟨e, he, h2⟩ := Array.any_eq_true'.1 this
  simp only [Bool.and_eq_true, beq_iff_eq] at h2
  exact ⟨e, he, h2.1, h2.2⟩

def tailB (l : List Oper) (ot : Oper) : Bool :=
  Region.noSelect (l ++ [ot]).toArray && lexPart .any (l ++ [ot]).toArray l.length 0 (Array.replicate (l.length + 1) false) && waitsAll ot l.length &&
  (Region.ready .any (l ++ [ot]).toArray (fillFrom l.length 0 (Array.replicate (l.length + 1) false)) == [l.length]) &&
  (Region.ready .any (l ++ [ot]).toArray ((fillFrom l.length 0 (Array.replicate (l.length + 1) false)).setIfInBounds l.length true)).isEmpty

theorem wp_region_tail {P : Program} {S : World → Prop} {id : Nat} {Q : Exit → Act → World → Prop} {a : Act} {w : World} (l : List Oper) (ot : Oper) (hg : ot.guard = none) (hm : P.follows .mixedOrders = true) (hB : tailB l ot = true) (h0 : S w.drew)
    (h : wpQuiet P (l ++ [ot]).toArray (fun w' => ∃ p : Kp S, w' = p.W) (fun a' => ∀ p : Kp S, Oper.wp P ot a' p.W (fun a'' w'' => Q .normal a'' w'') Q) l a) : (Code.region id (l ++ [ot]).toArray true).wp P Q a w := by
  unfold tailB at hB
  simp only [Bool.and_eq_true, beq_iff_eq, List.isEmpty_iff] at hB
  obtain ⟨⟨⟨⟨h1, h2⟩, h3⟩, h4⟩, h5⟩ := hB
  have ht : (l ++ [ot]).toArray[l.length]? = some ot := by simp
  refine wp_region_any hm ?_
  have hsz : (l ++ [ot]).toArray.size = l.length + 1 := by simp
  rw [hsz]
  refine wpAny_of_T (C := fun w' => ∃ p : Kp S, w' = p.W) (LE := fillFrom l.length 0 (Array.replicate (l.length + 1) false)) (QQ := fun a' => ∀ p : Kp S, Oper.wp P ot a' p.W (fun a'' w'' => Q .normal a'' w'') Q) ?_ l.length _ a _ ⟨⟨_, h0⟩, rfl⟩ ?_
  · rintro a' w' ⟨p, rfl⟩ hq
    refine ⟨fun e => (by rw [h4] at e; cases e), fun i hi => ?_⟩
    rw [h4] at hi
    have : i = l.length := by simpa using hi
    subst this
    unfold wpOp
    simp only [ht]
    have hwant : Region.wanted ot (yielded (l ++ [ot]).toArray a'.tmps) = true := by unfold Region.wanted; rw [hg]
    rw [if_pos hwant]
    exact Or.inl (Oper.wp_mono (fun a'' w'' hQ => ⟨h5, hQ⟩) (hq p))
  · exact wpT_lex h1 ht h4 (waitsAll_spec h3) l 0 _ a (by simp) (fun j hj => by simp [List.getElem?_append_left hj]) h2 rfl h
end Go.Proofs.Ytpfehghicaaghaa
