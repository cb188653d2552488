/-
  A region that draws its order, whose first operations only read (their callees leave what is held of the world) and lead on to the last ones, which come one behind the other: one walk in the order of the text serves. No function is walked here.
-/
import Derived.Test.YtpfehghicaaghaaTails
namespace Go.Proofs.Ytpfehghicaaghaa
open Go.RowKit

variable {P : Program} {ops : Array Oper} {C : World → Prop} {LE : Array Bool} {QQ : Act → Prop}

/-- What is listed waits for listed ones alone. -/
def Down (ops : Array Oper) (listed : Array Bool) : Prop := ∀ j oj, ops[j]? = some oj → listed.getD j false = true → ∀ e ∈ oj.after, Region.binds .any e = true → listed.getD e.on false = true
theorem getD_keep {listed : Array Bool} {x : Nat} (j : Nat) (h : listed.getD x false = true) : (listed.setIfInBounds j true).getD x false = true := by
  by_cases e : j = x
  · subst e
    rcases Nat.lt_or_ge j listed.size with h' | h'
    · simp [h']
    · simp [Array.getElem?_eq_none h'] at h
  · rw [getD_set_ne false e]; exact h
theorem Down.step {listed : Array Bool} {j : Nat} (h : Down ops listed) (hj : j ∈ Region.ready .any ops listed) : Down ops (listed.setIfInBounds j true) := by
  intro k ok hk hl e he hb
  obtain ⟨_, oj, hoj, hall⟩ := mem_ready.1 hj
  by_cases ejk : j = k
  · subst ejk
    rw [hk] at hoj
    cases hoj
    exact getD_keep j (hall e he hb)
  · rw [getD_set_ne false ejk] at hl
    exact getD_keep j (h k ok hk hl e he hb)
def leadsOn (ops : Array Oper) (t : Nat) : Bool := (List.range t).all fun i => (List.range (t + 1)).any fun j => decide (i < j) && (match ops[j]? with | some o => o.after.any (fun e => Region.binds .any e && e.on == i) | none => false)
theorem leadsOn_spec {t : Nat} (h : leadsOn ops t = true) (i : Nat) (hi : i < t) : ∃ j o, i < j ∧ j ≤ t ∧ ops[j]? = some o ∧ ∃ e ∈ o.after, Region.binds .any e = true ∧ e.on = i := by
  have h1 := List.all_eq_true.1 h i (List.mem_range.2 hi)
  obtain ⟨j, hj, h2⟩ := List.any_eq_true.1 h1
  simp only [Bool.and_eq_true, decide_eq_true_eq] at h2
  obtain ⟨h3, h4⟩ := h2
  cases ho : ops[j]? with
  | none => rw [ho] at h4; cases h4
  | some o =>
    rw [ho] at h4
    obtain ⟨e, he, h5⟩ := Array.any_eq_true'.1 h4
    simp only [Bool.and_eq_true, beq_iff_eq] at h5
    have := List.mem_range.1 hj
    exact ⟨j, o, h3, by omega, ho, e, he, h5.1, h5.2⟩

theorem wpC_first {t i : Nat} {oi : Oper} {v : Value} (hready : Region.ready .any ops LE = [t]) (hLE : ∀ j, j < t → LE.getD j false = true) (hit : i < t) (hlead : leadsOn ops t = true)
    (hi : ops[i]? = some oi) (hsel : ∀ (j : Nat) (o : Oper) cs b, ops[j]? = some o → o.op ≠ .select cs b) :
    ∀ (fuel : Nat) (listed : Array Bool) (a : Act), Down ops listed →
      (∀ j oj, ops[j]? = some oj → j ≠ i → listed.getD j true = false → (∀ e ∈ oj.after, Region.binds .any e = true → e.on ≠ i) → oi.apart ops oj = true) →
      i ∈ Region.ready .any ops listed → YieldsIn P ops C oi v a →
      wpT P .any ops C LE QQ fuel (listed.setIfInBounds i true) (a.put oi.dst v) → wpT P .any ops C LE QQ (fuel + 1) listed a := by
  intro fuel
  induction fuel with
  | zero =>
    intro listed a hdn _ hr hy H
    refine ⟨fun h => (by rw [h] at hr; cases hr), fun j hj => ?_⟩
    by_cases hji : j = i
    · subst hji; exact hy.qOp hi H
    · have hm := ready_mono hj hji
      rw [H.1, hready] at hm
      have ejt : j = t := by simpa using hm
      subst ejt
      obtain ⟨hjun, oj, hoj, hall⟩ := mem_ready.1 hj
      obtain ⟨k, ok, h1, h2, h3, e, he, hb, heq⟩ := leadsOn_spec hlead i hit
      have h0 := (mem_ready.1 hr).1
      have hyes : listed.getD i false = true := by
        by_cases ek : k = j
        · subst ek
          rw [hoj] at h3
          cases h3
          have := hall e he hb
          rw [heq] at this; exact this
        · have h4 : listed.getD k false = true := by
            have := hLE k (by omega)
            rw [← H.1, getD_set_ne false (by omega)] at this
            exact this
          have := hdn k ok h3 h4 e he hb
          rw [heq] at this; exact this
      rcases Nat.lt_or_ge i listed.size with h' | h'
      · simp [h'] at h0 hyes; rw [h0] at hyes; cases hyes
      · simp [Array.getElem?_eq_none h'] at hyes
  | succ fuel ih =>
    intro listed a hdn hfree hr hy H
    refine ⟨fun h => (by rw [h] at hr; cases hr), fun j hj => ?_⟩
    by_cases hji : j = i
    · subst hji; exact hy.qOp hi H
    · have h1 := H.2 j (ready_mono hj hji)
      obtain ⟨hjun, oj, hoj, hall⟩ := mem_ready.1 hj
      have hnot : ∀ e ∈ oj.after, Region.binds .any e = true → e.on ≠ i := fun e he hb heq => by
        have h1 := hall e he hb
        have h0 := (mem_ready.1 hr).1
        rw [heq] at h1
        rcases Nat.lt_or_ge i listed.size with h' | h'
        · simp [h'] at h0 h1; rw [h0] at h1; cases h1
        · simp [Array.getElem?_eq_none h'] at h1
      have h2 := qOp_put hoj (hfree j oj hoj hji hjun hnot) (fun cs b => hsel i oi cs b hi) (fun cs b => hsel j oj cs b hoj) hy h1
      have hfree' : ∀ k ok, ops[k]? = some ok → k ≠ i → (listed.setIfInBounds j true).getD k true = false →
          (∀ e ∈ ok.after, Region.binds .any e = true → e.on ≠ i) → oi.apart ops ok = true := fun k ok hk hki hun hno => by
        refine hfree k ok hk hki ?_ hno
        by_cases hjk : j = k
        · subst hjk; exact hjun
        · rw [getD_set_ne true hjk] at hun; exact hun
      refine qOp_mono (fun a' h3 => ih (listed.setIfInBounds j true) a' (hdn.step hj) hfree' (ready_mono hr (Ne.symm hji)) h3.1 ?_) h2
      rw [Array.setIfInBounds_comm _ _ hji]
      exact h3.2
theorem wpC_lex {t : Nat} (hs : Region.noSelect ops = true) (hready : Region.ready .any ops LE = [t]) (hLE : ∀ j, j < t → LE.getD j false = true) (hlead : leadsOn ops t = true) :
    ∀ (l : List Oper) (k : Nat) (listed : Array Bool) (a : Act), k + l.length = t → Down ops listed → (∀ j, j < l.length → l[j]? = ops[k + j]?) → lexPart .any ops l.length k listed = true → fillFrom l.length k listed = LE → wpQuiet P ops C QQ l a → wpT P .any ops C LE QQ l.length listed a
  | [], _, _, _, _, _, _, _, hL, h => ⟨hL, h⟩
  | o :: l, k, listed, a, hk, hdn, hl, hB, hL, h => by
    have h0 : ops[k]? = some o := by simpa using (hl 0 (by simp)).symm
    simp only [List.length_cons, lexPart, Bool.and_eq_true] at hB
    obtain ⟨⟨hr, hf⟩, hB'⟩ := hB
    have hr' : k ∈ Region.ready .any ops listed := by simpa using hr
    have hst : qOp P ops C k (wpQuiet P ops C QQ l) a := by unfold qOp; simp only [h0]; exact h
    obtain ⟨v, hy, hK⟩ := yieldsIn_of_qOp h0 hst
    exact wpC_first hready hLE (by simp at hk; omega) hlead h0 (Region.noSelect_spec hs) l.length listed a hdn (Region.free_spec h0 hf) hr' hy
      (wpC_lex hs hready hLE hlead l (k + 1) _ _ (by simp at hk; omega) (hdn.step hr') (fun j hj => by have := hl (j + 1) (by simp; omega); simpa [Nat.add_assoc, Nat.add_comm 1 j] using this) hB' hL hK)
/-- The last ones come one behind the other. -/
def chainReady (ops : Array Oper) : Nat → Nat → Array Bool → Bool
  | 0, _, listed => (Region.ready .any ops listed).isEmpty
  | n + 1, k, listed => (Region.ready .any ops listed == [k]) && chainReady ops n (k + 1) (listed.setIfInBounds k true)
theorem wpAny_chain {Q : Exit → Act → World → Prop} : ∀ (tl : List Oper) (k : Nat) (listed : Array Bool) (a : Act) (w : World), (∀ j, j < tl.length → tl[j]? = ops[k + j]?) → chainReady ops tl.length k listed = true → wpList P ops Q tl a w → wpAny P .any ops Q tl.length listed a w
  | [], k, listed, a, w, _, hc, h => by
    simp only [List.length_nil, chainReady, List.isEmpty_iff] at hc
    exact ⟨hc, h⟩
  | o :: tl, k, listed, a, w, hl, hc, h => by
    simp only [List.length_cons, chainReady, Bool.and_eq_true, beq_iff_eq] at hc
    obtain ⟨h1, h2⟩ := hc
    have h0 : ops[k]? = some o := by simpa using (hl 0 (by simp)).symm
    have hn : ∀ a' w', wpList P ops Q tl a' w' → wpAny P .any ops Q tl.length (listed.setIfInBounds k true) a' w' := fun a' w' h' =>
      wpAny_chain tl (k + 1) _ a' w' (fun j hj => by have := hl (j + 1) (by simp; omega); simpa [Nat.add_assoc, Nat.add_comm 1 j] using this) h2 h'
    refine ⟨fun e => (by rw [h1] at e; cases e), fun i hi => ?_⟩
    rw [h1] at hi
    have : i = k := by simpa using hi
    subst this
    unfold wpOp
    simp only [h0]
    unfold wpList at h
    split
    · rename_i hw
      rw [if_pos hw] at h
      rcases h with h | h
      · exact Or.inl (Oper.wp_mono hn h)
      · exact Or.inr h
    · rename_i hw
      rw [if_neg hw] at h
      exact hn _ _ h
def chainB (l tl : List Oper) : Bool :=
  Region.noSelect (l ++ tl).toArray && lexPart .any (l ++ tl).toArray l.length 0 (Array.replicate (l.length + tl.length) false) && leadsOn (l ++ tl).toArray l.length &&
  ((List.range l.length).all fun j => (fillFrom l.length 0 (Array.replicate (l.length + tl.length) false)).getD j false) &&
  (Region.ready .any (l ++ tl).toArray (fillFrom l.length 0 (Array.replicate (l.length + tl.length) false)) == [l.length]) &&
  chainReady (l ++ tl).toArray tl.length l.length (fillFrom l.length 0 (Array.replicate (l.length + tl.length) false))
theorem wp_region_chain {P : Program} {S : World → Prop} {id : Nat} {Q : Exit → Act → World → Prop} {a : Act} {w : World} (l tl : List Oper) (hm : P.follows .mixedOrders = true) (hB : chainB l tl = true) (h0 : S w.drew)
    (h : wpQuiet P (l ++ tl).toArray (fun w' => ∃ p : Kp S, w' = p.W) (fun a' => ∀ p : Kp S, wpList P (l ++ tl).toArray Q tl a' p.W) l a) : (Code.region id (l ++ tl).toArray true).wp P Q a w := by
  unfold chainB at hB
  simp only [Bool.and_eq_true, beq_iff_eq] at hB
  obtain ⟨⟨⟨⟨⟨h1, h2⟩, h3⟩, h6⟩, h4⟩, h5⟩ := hB
  refine wp_region_any hm ?_
  have hsz : (l ++ tl).toArray.size = l.length + tl.length := by simp
  rw [hsz]
  refine wpAny_of_T (C := fun w' => ∃ p : Kp S, w' = p.W) (LE := fillFrom l.length 0 (Array.replicate (l.length + tl.length) false)) (QQ := fun a' => ∀ p : Kp S, wpList P (l ++ tl).toArray Q tl a' p.W) ?_ l.length _ a _ ⟨⟨_, h0⟩, rfl⟩ ?_
  · rintro a' w' ⟨p, rfl⟩ hq
    exact wpAny_chain tl l.length _ a' p.W (fun j hj => by simp [List.getElem?_append_right]) h5 (hq p)
  · refine wpC_lex h1 h4 (fun j hj => List.all_eq_true.1 h6 j (List.mem_range.2 hj)) h3 l 0 _ a (by simp) ?_ (fun j hj => by simp [List.getElem?_append_left hj]) h2 rfl h
    intro j oj _ hl
    by_cases hj : j < l.length + tl.length
    · simp [hj] at hl
    · simp [hj] at hl
end Go.Proofs.Ytpfehghicaaghaa
