/-
  The plain mathematics of Parts: cutting parts by one class after the other gives the coarsest classes that no class of the list cuts; sorted by their least bytes they are the reference's list; no condition.
-/
import Derived.Test.YtgoejdakmbpcmaaLeast
namespace Go.Proofs.Ytgoejdakmbpcmaa.Cls

/-- No class of l tells b and x apart. -/
def alike (l : List Cl) (b x : Nat) : Bool := l.all fun c => mem c b == mem c x
theorem alike_iff {l : List Cl} {b x : Nat} : alike l b x = true ↔ ∀ c ∈ l, mem c b = mem c x := by simp [alike]
theorem alike_refl (l : List Cl) (b : Nat) : alike l b b = true := alike_iff.2 fun _ _ => rfl
theorem alike_symm {l : List Cl} {b x : Nat} (h : alike l b x = true) : alike l x b = true := alike_iff.2 fun c hc => (alike_iff.1 h c hc).symm
theorem alike_trans {l : List Cl} {b x y : Nat} (h : alike l b x = true) (k : alike l x y = true) : alike l b y = true := alike_iff.2 fun c hc => (alike_iff.1 h c hc).trans (alike_iff.1 k c hc)
theorem alike_snoc (l : List Cl) (c : Cl) (b x : Nat) : alike (l ++ [c]) b x = (alike l b x && (mem c b == mem c x)) := by simp [alike]
theorem alike_again {l : List Cl} {c : Cl} (hc : c ∈ l) (b x : Nat) : alike (l ++ [c]) b x = alike l b x := by
  rw [alike_snoc]
  cases h : alike l b x
  · rfl
  · have := alike_iff.1 h c hc
    simp [this]

/-- What holds of the parts of l. -/
structure Inv (l ps : List Cl) : Prop where
  cover : ∀ b, b < 256 → ∃ p ∈ ps, mem p b = true
  same : ∀ p ∈ ps, ∀ b, b < 256 → mem p b = true → ∀ x, x < 256 → mem p x = alike l b x
  full : ∀ p ∈ ps, ∃ b, b < 256 ∧ mem p b = true
  apart : ps.Pairwise fun p q => ∀ b, b < 256 → mem p b = true → mem q b = false

theorem Inv.start : Inv [] [neg empty] where
  cover b _ := ⟨neg empty, by simp, by rw [mem_neg, mem_empty]; rfl⟩
  same p hp b _ _ x _ := by
    simp at hp; subst hp
    rw [mem_neg, mem_empty]; rfl
  full p hp := ⟨0, by omega, by simp at hp; subst hp; rw [mem_neg, mem_empty]; rfl⟩
  apart := by simp

/-- Does c have some bytes of p, and lack others? -/
def splits (p c : Cl) : Bool := decide (meet p c ≠ empty ∧ meet p (neg c) ≠ empty)
def cutOne (p c : Cl) : Cl := if splits p c then meet p c else p
def cutTo (ps : List Cl) (c : Cl) (k : Nat) : List Cl := (ps.take k).map (cutOne · c) ++ ps.drop k ++ ((ps.take k).filter (splits · c)).map (meet · (neg c))
def cut (ps : List Cl) (c : Cl) : List Cl := ps.map (cutOne · c) ++ (ps.filter (splits · c)).map (meet · (neg c))
theorem cutTo_zero (ps : List Cl) (c : Cl) : cutTo ps c 0 = ps := by simp [cutTo]
theorem cutTo_all (ps : List Cl) (c : Cl) : cutTo ps c ps.length = cut ps c := by simp [cutTo, cut]

theorem mem_cutOne {p c : Cl} {b : Nat} (h : mem (cutOne p c) b = true) : mem p b = true := by
  unfold cutOne at h
  split at h
  · rw [mem_meet] at h; simp at h; exact h.1
  · exact h
theorem uniform {p c : Cl} (h : splits p c = false) {b x : Nat} (hb : b < 256) (hx : x < 256) (h1 : mem p b = true) (h2 : mem p x = true) : mem c b = mem c x := by
  have h : meet p c = empty ∨ meet p (neg c) = empty := by
    by_cases e1 : meet p c = empty
    · exact Or.inl e1
    · by_cases e2 : meet p (neg c) = empty
      · exact Or.inr e2
      · exact absurd h (by simp [splits, e1, e2])
  have no : ∀ y, y < 256 → mem p y = true → (meet p c = empty → mem c y = false) ∧ (meet p (neg c) = empty → mem c y = true) := fun y hy hm => by
    constructor
    · intro e
      have := (eq_empty_iff.1 e) y hy
      rw [mem_meet, hm] at this; simpa using this
    · intro e
      have := (eq_empty_iff.1 e) y hy
      rw [mem_meet, mem_neg, hm] at this; simpa using this
  rcases h with h | h
  · rw [(no b hb h1).1 h, (no x hx h2).1 h]
  · rw [(no b hb h1).2 h, (no x hx h2).2 h]

theorem mem_cut {ps : List Cl} {c p : Cl} (h : p ∈ cut ps c) : (∃ q ∈ ps, p = cutOne q c) ∨ (∃ q ∈ ps, splits q c = true ∧ p = meet q (neg c)) := by
  unfold cut at h
  rcases List.mem_append.1 h with h | h
  · obtain ⟨q, hq, rfl⟩ := List.mem_map.1 h; exact Or.inl ⟨q, hq, rfl⟩
  · obtain ⟨q, hq, rfl⟩ := List.mem_map.1 h
    obtain ⟨h1, h2⟩ := List.mem_filter.1 hq
    exact Or.inr ⟨q, h1, h2, rfl⟩

theorem Inv.cut {l ps : List Cl} (h : Inv l ps) (c : Cl) : Inv (l ++ [c]) (cut ps c) where
  cover b hb := by
    obtain ⟨p, hp, hm⟩ := h.cover b hb
    cases hs : splits p c with
    | false => exact ⟨p, List.mem_append_left _ (List.mem_map.2 ⟨p, hp, by unfold cutOne; rw [hs]; rfl⟩), hm⟩
    | true =>
      cases hc : mem c b with
      | true => exact ⟨meet p c, List.mem_append_left _ (List.mem_map.2 ⟨p, hp, by unfold cutOne; rw [hs]; rfl⟩), by rw [mem_meet, hm, hc]; rfl⟩
      | false => exact ⟨meet p (neg c), List.mem_append_right _ (List.mem_map.2 ⟨p, List.mem_filter.2 ⟨hp, hs⟩, rfl⟩), by rw [mem_meet, mem_neg, hm, hc]; rfl⟩
  same p hp b hb hm x hx := by
    rw [alike_snoc]
    rcases mem_cut hp with ⟨q, hq, rfl⟩ | ⟨q, hq, hs, rfl⟩
    · have hqb := mem_cutOne hm
      rw [← h.same q hq b hb hqb x hx]
      unfold cutOne at hm ⊢
      cases hs : splits q c with
      | true =>
        simp only [hs, if_true] at hm ⊢
        rw [mem_meet] at hm ⊢
        simp at hm
        rw [hm.2]; cases mem c x <;> simp
      | false =>
        simp only [Bool.false_eq_true, if_false]
        cases hx2 : mem q x with
        | false => rfl
        | true => rw [uniform hs hb hx hqb hx2]; simp
    · rw [mem_meet, mem_neg] at hm ⊢
      simp at hm
      rw [← h.same q hq b hb hm.1 x hx, hm.2]
      cases mem c x <;> simp
  full p hp := by
    rcases mem_cut hp with ⟨q, hq, rfl⟩ | ⟨q, hq, hs, rfl⟩
    · unfold cutOne
      cases hs : splits q c with
      | true => simp only [if_true]; simp only [splits, decide_eq_true_eq] at hs; exact ne_empty_iff.1 hs.1
      | false => simp only [Bool.false_eq_true, if_false]; exact h.full q hq
    · simp only [splits, decide_eq_true_eq] at hs; exact ne_empty_iff.1 hs.2
  apart := by
    unfold Cls.cut
    refine List.pairwise_append.2 ⟨?_, ?_, ?_⟩
    · rw [List.pairwise_map]
      refine h.apart.imp fun {p q} hpq b hb hm => ?_
      have := hpq b hb (mem_cutOne hm)
      cases h2 : mem (cutOne q c) b
      · rfl
      · rw [mem_cutOne h2] at this; cases this
    · rw [List.pairwise_map]
      refine (h.apart.filter _).imp fun {p q} hpq b hb hm => ?_
      rw [mem_meet] at hm ⊢
      simp at hm
      rw [hpq b hb hm.1]; rfl
    · intro a ha r hr b hb hm
      obtain ⟨p, hp, rfl⟩ := List.mem_map.1 ha
      obtain ⟨q, hq, rfl⟩ := List.mem_map.1 hr
      obtain ⟨hq1, hq2⟩ := List.mem_filter.1 hq
      rw [mem_meet, mem_neg]
      cases hqb : mem q b with
      | false => rfl
      | true =>
        have hpb := mem_cutOne hm
        -- both have b: so they are one class
        have e : p = q := ext_mem fun x hx => by rw [h.same p hp b hb hpb x hx, h.same q hq1 b hb hqb x hx]
        subst e
        unfold cutOne at hm
        simp only [hq2, if_true] at hm
        rw [mem_meet] at hm
        simp at hm
        simp [hm.2]

theorem Inv.again {l ps : List Cl} (h : Inv l ps) {c : Cl} (hc : c ∈ l) : Inv (l ++ [c]) ps :=
  ⟨h.cover, fun p hp b hb hm x hx => by rw [alike_again hc]; exact h.same p hp b hb hm x hx, h.full, h.apart⟩

/-! ### How many -/
theorem Inv.least_lt {l ps : List Cl} (h : Inv l ps) {p : Cl} (hp : p ∈ ps) : least p < 256 := by
  obtain ⟨b, hb, hm⟩ := h.full p hp
  have := Cls.least_lt hm
  omega
theorem Inv.leasts {l ps : List Cl} (h : Inv l ps) : (ps.map least).Nodup := by
  rw [List.Nodup, List.pairwise_map]
  refine List.Pairwise.imp_of_mem ?_ h.apart
  intro p q hp hq hpq e
  have h1 := least_yes p (h.least_lt hp)
  have h2 := least_yes q (h.least_lt hq)
  rw [← e] at h2
  rw [hpq _ (h.least_lt hp) h1] at h2; cases h2
/-- Numbers below n, none twice: no more than n of them; if there are n, all. -/
theorem few : ∀ (n : Nat) (l : List Nat), l.Nodup → (∀ x ∈ l, x < n) → l.length ≤ n ∧ (l.length = n → ∀ x, x < n → x ∈ l)
  | 0, l, _, h => by
    cases l with
    | nil => simp
    | cons a l => exact absurd (h a (by simp)) (Nat.not_lt_zero _)
  | n + 1, l, hd, h => by
    by_cases hn : n ∈ l
    · have hd' := hd.erase n
      have hs : ∀ x ∈ l.erase n, x < n := fun x hx => by
        have h1 := h x (List.mem_of_mem_erase hx)
        have h2 : x ≠ n := fun e => by subst e; exact hd.not_mem_erase hx
        omega
      have ⟨i1, i2⟩ := few n (l.erase n) hd' hs
      have hl := List.length_erase_of_mem hn
      have h0 : 0 < l.length := List.length_pos_of_mem hn
      refine ⟨by omega, fun e x hx => ?_⟩
      by_cases ex : x = n
      · rw [ex]; exact hn
      · exact List.mem_of_mem_erase (i2 (by omega) x (by omega))
    · have hs : ∀ x ∈ l, x < n := fun x hx => by
        have h1 := h x hx
        have h2 : x ≠ n := fun e => hn (e ▸ hx)
        omega
      have ⟨i1, i2⟩ := few n l hd hs
      exact ⟨by omega, fun e => by omega⟩
theorem Inv.length {l ps : List Cl} (h : Inv l ps) : ps.length ≤ 256 := by
  have := (few 256 (ps.map least) h.leasts (fun x hx => by obtain ⟨p, hp, rfl⟩ := List.mem_map.1 hx; exact h.least_lt hp)).1
  simpa using this
/-- 256 parts are single bytes: no class cuts them. -/
theorem Inv.done {l ps : List Cl} (h : Inv l ps) (h256 : ps.length = 256) (r : List Cl) : Inv (l ++ r) ps := by
  have hall := (few 256 (ps.map least) h.leasts (fun x hx => by obtain ⟨p, hp, rfl⟩ := List.mem_map.1 hx; exact h.least_lt hp)).2 (by simpa using h256)
  have one : ∀ p ∈ ps, ∀ b, b < 256 → mem p b = true → b = least p := fun p hp b hb hm => by
    obtain ⟨q, hq, e⟩ := List.mem_map.1 (hall b hb)
    have hq1 := least_yes q (h.least_lt hq)
    rw [e] at hq1
    have : q = p := ext_mem fun x hx => by rw [h.same q hq b hb hq1 x hx, h.same p hp b hb hm x hx]
    rw [← this, e]
  refine ⟨h.cover, fun p hp b hb hm x hx => ?_, h.full, h.apart⟩
  have e := one p hp b hb hm
  cases hx2 : mem p x with
  | true =>
    have e2 := one p hp x hx hx2
    rw [e, e2, alike_refl]
  | false =>
    cases ha : alike (l ++ r) b x
    · rfl
    · have : alike l b x = true := alike_iff.2 fun c hc => alike_iff.1 ha c (List.mem_append_left _ hc)
      rw [← h.same p hp b hb hm x hx, hx2] at this; cases this

/-! ### The reference's list -/
def isFirst (l : List Cl) (b : Nat) : Bool := (List.range b).all fun c => !alike l b c
def refTo (l : List Cl) (k : Nat) : List Cl := ((List.range k).filter (isFirst l)).map fun b => wher (alike l b)
def ref (l : List Cl) : List Cl := refTo l 256
theorem refTo_succ (l : List Cl) (k : Nat) : refTo l (k + 1) = refTo l k ++ (if isFirst l k then [wher (alike l k)] else []) := by
  unfold refTo; rw [List.range_succ, List.filter_append, List.map_append]
  by_cases h : isFirst l k <;> simp [h]
theorem refTo_length (l : List Cl) (k : Nat) : (refTo l k).length ≤ k := by
  unfold refTo; rw [List.length_map]
  have := List.length_filter_le (isFirst l) (List.range k)
  simpa using this
theorem isFirst_iff {l : List Cl} {b : Nat} : isFirst l b = true ↔ ∀ c, c < b → alike l b c = false := by
  unfold isFirst; simp
theorem least_wher {l : List Cl} {b : Nat} (hb : b < 256) (h : isFirst l b = true) : least (wher (alike l b)) = b :=
  least_of (by omega) (fun j hj => by rw [mem_wher _ _ (by omega)]; exact isFirst_iff.1 h j hj) (fun _ => by rw [mem_wher _ _ hb]; exact alike_refl l b)
theorem ref_sorted (l : List Cl) : (ref l).Pairwise fun p q => least p < least q := by
  unfold ref refTo
  rw [List.pairwise_map]
  refine List.Pairwise.imp_of_mem ?_ ((List.pairwise_lt_range (n := 256)).filter _)
  intro a b ha hb hab
  obtain ⟨a1, a2⟩ := List.mem_filter.1 ha
  obtain ⟨b1, b2⟩ := List.mem_filter.1 hb
  rw [least_wher (List.mem_range.1 a1) a2, least_wher (List.mem_range.1 b1) b2]; exact hab
theorem Inv.mem_ref {l ps : List Cl} (h : Inv l ps) (p : Cl) : p ∈ ps ↔ p ∈ ref l := by
  constructor
  · intro hp
    have hb := h.least_lt hp
    have hm := least_yes p hb
    have hf : isFirst l (least p) = true := isFirst_iff.2 fun c hc => by
      rw [← h.same p hp _ hb hm c (by omega)]; exact least_no p c hc
    have e : wher (alike l (least p)) = p := (eq_wher fun x hx => h.same p hp _ hb hm x hx).symm
    exact List.mem_map.2 ⟨least p, List.mem_filter.2 ⟨List.mem_range.2 hb, hf⟩, e⟩
  · intro hp
    obtain ⟨b, hb, rfl⟩ := List.mem_map.1 hp
    obtain ⟨h1, h2⟩ := List.mem_filter.1 hb
    have hb := List.mem_range.1 h1
    obtain ⟨p, hp, hm⟩ := h.cover b hb
    have e : p = wher (alike l b) := eq_wher fun x hx => h.same p hp b hb hm x hx
    rw [← e]; exact hp
/-- Two lists that rise, with the same members, are one. -/
theorem rising_eq {f : Cl → Nat} : ∀ (a b : List Cl), a.Pairwise (fun p q => f p < f q) → b.Pairwise (fun p q => f p < f q) → (∀ p, p ∈ a ↔ p ∈ b) → a = b
  | [], [], _, _, _ => rfl
  | [], y :: b, _, _, h => absurd ((h y).2 (by simp)) (by simp)
  | x :: a, [], _, _, h => absurd ((h x).1 (by simp)) (by simp)
  | x :: a, y :: b, ha, hb, h => by
    obtain ⟨a1, a2⟩ := List.pairwise_cons.1 ha
    obtain ⟨b1, b2⟩ := List.pairwise_cons.1 hb
    have hx := (h x).1 (by simp)
    have hy := (h y).2 (by simp)
    have e : x = y := by
      rcases List.mem_cons.1 hx with e | hx
      · exact e
      · rcases List.mem_cons.1 hy with e | hy
        · exact e.symm
        · have := b1 x hx; have := a1 y hy; omega
    subst e
    congr 1
    refine rising_eq a b a2 b2 fun p => ⟨fun hp => ?_, fun hp => ?_⟩
    · rcases List.mem_cons.1 ((h p).1 (List.mem_cons_of_mem _ hp)) with e | hp'
      · subst e; have := a1 p hp; omega
      · exact hp'
    · rcases List.mem_cons.1 ((h p).2 (List.mem_cons_of_mem _ hp)) with e | hp'
      · subst e; have := b1 p hp; omega
      · exact hp'
theorem Inv.perm {l ps qs : List Cl} (h : Inv l ps) (hp : ps.Perm qs) : Inv l qs :=
  ⟨fun b hb => by obtain ⟨p, h1, h2⟩ := h.cover b hb; exact ⟨p, hp.mem_iff.1 h1, h2⟩, fun p hq => h.same p (hp.mem_iff.2 hq), fun p hq => h.full p (hp.mem_iff.2 hq), (hp.pairwise_iff (fun {x y} hxy b hb hm => by
    cases hx : mem x b
    · rfl
    · rw [hxy b hb hx] at hm; cases hm)).1 h.apart⟩
/-- The parts, sorted by their least bytes, are the reference's. -/
theorem Inv.sorted {l ps qs : List Cl} (h : Inv l ps) (hp : ps.Perm qs) (hs : qs.Pairwise fun p q => least p ≤ least q) : qs = ref l := by
  have hq := h.perm hp
  refine rising_eq (f := least) qs (ref l) ?_ (ref_sorted l) hq.mem_ref
  have hn := hq.leasts
  rw [List.Nodup, List.pairwise_map] at hn
  exact (hs.and hn).imp fun ⟨h1, h2⟩ => by omega
end Go.Proofs.Ytgoejdakmbpcmaa.Cls
