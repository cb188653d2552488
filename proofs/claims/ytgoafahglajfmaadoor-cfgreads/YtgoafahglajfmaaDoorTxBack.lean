/-
  What is written is read as it was; what is read was written so: plainly.
-/
import Derived.Test.YtgoafahglajfmaaDoorTxRead
import Derived.Test.YtgoafahglajfmaaDoorWrite
namespace Go.Proofs.YtgoafahglajfmaaDoor
namespace Cg
open Go.Lib (decDigits decDigits_one decDigits_two)

theorem num_one : ∀ i : Fin 10, numR [UInt8.ofNat (48 + i.val)] = ((i.val : Int), true) := by decide
theorem num_two : ∀ i : Fin 100, 10 ≤ i.val → numR [UInt8.ofNat (48 + i.val / 10), UInt8.ofNat (48 + i.val % 10)] = ((i.val : Int), true) := by decide
theorem num_dec {i : Nat} (h : i < 100) : numR (decDigits i) = ((i : Int), true) := by
  by_cases h1 : i < 10
  · rw [decDigits_one h1]; exact num_one ⟨i, h1⟩
  · rw [decDigits_two h1 h]; exact num_two ⟨i, h⟩ (by show 10 ≤ i; omega)
theorem num_true {l : List UInt8} {x : Int} (h : numR l = (x, true)) : headOk l = true ∧ l.all isD = true ∧ x = (val l : Int) := by
  unfold numR at h
  split at h
  · rename_i h1
    split at h
    · rename_i h2; simp at h; exact ⟨h1, h2, h.symm⟩
    · simp at h
  · simp at h
theorem foldl_ge (r : List UInt8) : ∀ acc : Nat, acc * 10 ^ r.length ≤ r.foldl (fun a b => a * 10 + (b.toNat - 48)) acc := by
  induction r with
  | nil => intro acc; simp
  | cons b r ih =>
    intro acc
    have h := ih (acc * 10 + (b.toNat - 48))
    simp only [List.foldl_cons, List.length_cons]
    rw [Nat.pow_succ]
    refine Nat.le_trans ?_ h
    rw [Nat.mul_comm (10 ^ r.length) 10, ← Nat.mul_assoc]
    exact Nat.mul_le_mul_right _ (Nat.le_add_right _ _)
theorem ofNat_back (b : UInt8) (h : isD b = true) : UInt8.ofNat (48 + (b.toNat - 48)) = b := by
  unfold isD at h
  simp at h
  apply UInt8.toNat_inj.1
  have := b.toNat_lt
  rw [UInt8.toNat_ofNat']
  omega
theorem dec_num {l : List UInt8} {x : Int} (h : numR l = (x, true)) (hx : x < 100) : decDigits x.toNat = l := by
  obtain ⟨h1, h2, rfl⟩ := num_true h
  have hv : val l < 100 := by omega
  rw [Int.toNat_natCast]
  rcases l with _ | ⟨a, _ | ⟨b, _ | ⟨c, r⟩⟩⟩
  · simp [headOk] at h1
  · obtain ⟨b, rfl⟩ : ∃ b, b = a := ⟨_, rfl⟩
    have hb : isD b = true := by simpa using h2
    have e : val [b] = b.toNat - 48 := by simp [val]
    have hb2 := hb
    unfold isD at hb2
    simp at hb2
    rw [e, decDigits_one (by omega), ofNat_back b hb]
  · simp only [List.all_cons, List.all_nil, Bool.and_true, Bool.and_eq_true] at h2
    have e : val [a, b] = (a.toNat - 48) * 10 + (b.toNat - 48) := by simp [val]
    have ha := h2.1
    have hb := h2.2
    have ha2 := ha; have hb2 := hb
    unfold isD at ha2 hb2
    simp at ha2 hb2
    have hne : a.toNat ≠ 48 := fun e => by
      have : a = 48 := UInt8.toNat_inj.1 (by rw [e]; rfl)
      subst this
      simp [headOk] at h1
    rw [decDigits_two (by omega) hv, e]
    have q1 : ((a.toNat - 48) * 10 + (b.toNat - 48)) / 10 = a.toNat - 48 := by omega
    have q2 : ((a.toNat - 48) * 10 + (b.toNat - 48)) % 10 = b.toNat - 48 := by omega
    rw [q1, q2, ofNat_back a ha, ofNat_back b hb]
  · exfalso
    simp only [List.all_cons, Bool.and_eq_true] at h2
    have ha2 := h2.1
    unfold isD at ha2
    simp at ha2
    have hne : a.toNat ≠ 48 := fun e => by
      have : a = 48 := UInt8.toNat_inj.1 (by rw [e]; rfl)
      subst this
      simp [headOk] at h1
    have hge := foldl_ge (b :: c :: r) (a.toNat - 48)
    have hp : 100 ≤ 10 ^ (b :: c :: r).length := by
      have : 10 ^ 2 ≤ 10 ^ (b :: c :: r).length := Nat.pow_le_pow_right (by omega) (by simp)
      omega
    have e : val (a :: b :: c :: r) = (b :: c :: r).foldl (fun a b => a * 10 + (b.toNat - 48)) (a.toNat - 48) := by simp [val]
    have : 1 * 100 ≤ (a.toNat - 48) * 10 ^ (b :: c :: r).length := Nat.mul_le_mul (by omega) hp
    omega
theorem dec_free {i : Nat} (h : i < 100) (c : UInt8) (hc : isD c = false) : c ∉ decDigits i := fun hm => by
  have := (num_true (num_dec h)).2.1
  have := List.all_eq_true.1 this c hm
  rw [hc] at this; cases this
theorem cutC_app (c : UInt8) (p l : List UInt8) (h : c ∉ p) : cutC c (p ++ c :: l) = (p, l, true) := by
  unfold cutC
  rw [sp_app c p l h]
  cases hs : sp c l with
  | nil => exact absurd hs (sp_ne c l)
  | cons q r => simp only; rw [← hs, join_sp]
theorem join_flat (c : UInt8) : ∀ (p : List UInt8) (qs : List (List UInt8)), joinC c (p :: qs) = p ++ qs.flatMap fun q => c :: q
  | p, [] => by simp [joinC]
  | p, q :: r => by rw [joinC, join_flat c q r]; simp
theorem cutC_join {c : UInt8} {l a b : List UInt8} (h : cutC c l = (a, b, true)) : l = a ++ c :: b := by
  have hj := join_sp c l
  unfold cutC at h
  cases hs : sp c l with
  | nil => exact absurd hs (sp_ne c l)
  | cons p t =>
    rw [hs] at h hj
    cases t with
    | nil => simp at h
    | cons q r =>
      simp only [Prod.mk.injEq] at h
      rw [← hj, ← h.1, ← h.2.1]; rfl
/-! A symbol, a Body, a production. -/
theorem sym_back {t n : Int} (ht : okTN t n = true) {s : Sy} (h : okSy t n s = true) : symR (symT s) = (s, true) := by
  obtain ⟨k, x⟩ := s
  have hx := sym_small ht h
  simp only [] at hx
  have e : numR (decDigits x.toNat) = (x, true) := by rw [num_dec (by omega)]; congr 1; omega
  unfold okSy at h
  simp only [] at h
  split at h
  · rename_i h1; subst h1; unfold symT symR; simp [e]
  · split at h
    · rename_i h2; subst h2; unfold symT symR; simp [e]
    · cases h
theorem symT_free {s : Sy} (h : s.2.toNat < 100) (c : UInt8) (hc : isD c = false) (h1 : c ≠ 110) (h2 : c ≠ 116) : c ∉ symT s := by
  unfold symT
  simp only [List.mem_cons, not_or]
  refine ⟨?_, dec_free h c hc⟩
  split
  · exact h1
  · exact h2
theorem sp_body : ∀ (l : List Sy) (s : Sy), (∀ x ∈ s :: l, x.2.toNat < 100) → sp 32 (symT s ++ bodyT l) = symT s :: l.map symT
  | [], s, h => by
    rw [show bodyT [] = [] from rfl, List.append_nil]
    exact sp_one 32 _ (symT_free (h s (by simp)) 32 (by decide) (by decide) (by decide))
  | x :: l, s, h => by
    have ih := sp_body l x fun y hy => h y (by simp only [List.mem_cons] at hy ⊢; exact Or.inr hy)
    rw [show bodyT (x :: l) = 32 :: (symT x ++ bodyT l) from by simp [bodyT], sp_app 32 _ _ (symT_free (h s (by simp)) 32 (by decide) (by decide) (by decide)), ih]
    rfl
theorem body_back {t n : Int} (ht : okTN t n = true) {l : List Sy} (h : l.all (okSy t n) = true) : bodyR (bodyT l) = (l, true) := by
  have hs : ∀ x ∈ l, x.2.toNat < 100 := fun x hx => by have := sym_small ht (List.all_eq_true.1 h x hx); omega
  have hsp : sp 32 (bodyT l) = [] :: l.map symT := by
    cases l with
    | nil => rfl
    | cons x l => rw [show bodyT (x :: l) = 32 :: (symT x ++ bodyT l) from by simp [bodyT], sp, if_pos rfl, sp_body l x hs]; rfl
  have hm : ∀ x ∈ l, symR (symT x) = (x, true) := fun x hx => sym_back ht (List.all_eq_true.1 h x hx)
  unfold bodyR
  rw [hsp]
  simp only [if_true]
  rw [if_pos]
  · congr 1
    rw [List.map_map]
    conv => rhs; rw [← List.map_id l]
    apply List.map_congr_left
    intro x hx
    simp [hm x hx]
  · rw [List.all_eq_true]
    intro q hq
    obtain ⟨x, hx, rfl⟩ := List.mem_map.1 hq
    rw [hm x hx]
theorem prod_back {t n : Int} (ht : okTN t n = true) {p : Pd} (h : chkP t n p = 0) : prodR (prodT p) = (p, true) := by
  obtain ⟨x, l⟩ := p
  obtain ⟨k1, k2, k3⟩ := prod_small ht h
  obtain ⟨h1, h2, h3⟩ := chkP_zero h
  have hc : cutC 58 (prodT (x, l)) = (decDigits x.toNat, bodyT l, true) := cutC_app 58 _ _ (dec_free (by omega) 58 (by decide))
  have hn : numR (decDigits x.toNat) = (x, true) := by rw [num_dec (by omega)]; congr 1; omega
  unfold prodR
  rw [hc]
  simp only []
  rw [hn, body_back ht h3]
  simp
theorem sym_was {q : List UInt8} {s : Sy} (h : symR q = (s, true)) (hs : s.2 < 100) : symT s = q := by
  cases q with
  | nil => simp [symR] at h
  | cons k d =>
    unfold symR at h
    simp only [] at h
    split at h
    · rename_i h1
      simp only [Prod.mk.injEq] at h
      obtain ⟨rfl, h2⟩ := h
      have := dec_num (l := d) (x := (numR d).1) (by rw [← h2]) hs
      unfold symT
      simp only []
      rw [this, h1]; rfl
    · split at h
      · rename_i h1
        simp only [Prod.mk.injEq] at h
        obtain ⟨rfl, h2⟩ := h
        have := dec_num (l := d) (x := (numR d).1) (by rw [← h2]) hs
        unfold symT
        simp only []
        rw [this, h1]; rfl
      · simp at h
theorem body_was {t n : Int} (ht : okTN t n = true) {b : List UInt8} {l : List Sy} (h : bodyR b = (l, true)) (hl : l.all (okSy t n) = true) : bodyT l = b := by
  have hj := join_sp 32 b
  unfold bodyR at h
  cases hs : sp 32 b with
  | nil => exact absurd hs (sp_ne 32 b)
  | cons p qs =>
    rw [hs] at h hj
    simp only [] at h
    split at h
    · rename_i hp
      subst hp
      split at h
      · rename_i ha
        simp only [Prod.mk.injEq, and_true] at h
        rw [← hj, join_flat, List.nil_append, ← h]
        unfold bodyT
        rw [List.flatMap_map]
        have hq : ∀ q ∈ qs, symT (symR q).1 = q := fun q hq => by
          have h1 := List.all_eq_true.1 ha q hq
          have h2 := List.all_eq_true.1 hl (symR q).1 (by rw [← h]; exact List.mem_map_of_mem hq)
          exact sym_was (by rw [← h1]) (sym_small ht h2).2
        clear hs hj ha h
        induction qs with
        | nil => rfl
        | cons q qs ih =>
          rw [List.flatMap_cons, List.flatMap_cons, hq q (by simp), ih fun x hx => hq x (by simp [hx])]
      · simp at h
    · simp at h
theorem prod_was {t n : Int} (ht : okTN t n = true) {q : List UInt8} {p : Pd} (h : prodR q = (p, true)) (hp : chkP t n p = 0) : prodT p = q := by
  obtain ⟨x, l⟩ := p
  obtain ⟨k1, k2, k3⟩ := prod_small ht hp
  obtain ⟨h1, h2, h3⟩ := chkP_zero hp
  unfold prodR at h
  split at h
  · rename_i hc
    simp only [Prod.mk.injEq] at h
    obtain ⟨⟨e1, e2⟩, e3⟩ := h
    have hcut := cutC_join (c := 58) (l := q) (a := (cutC 58 q).1) (b := (cutC 58 q).2.1) (by rw [← hc.1])
    have hn := dec_num (l := (cutC 58 q).1) (x := x) (by rw [← e1, ← hc.2]) k1.2
    have hb := body_was ht (b := (cutC 58 q).2.1) (l := l) (by rw [← e2, ← e3]) h3
    unfold prodT
    simp only []
    rw [hn, hb, ← hcut]
  · simp at h
/-! The whole. -/
theorem rdR_cons (k : Nat) (g : St) (p : List UInt8) (tl : List (List UInt8)) (h : tl ≠ []) : rdR k g (p :: tl) = if (addR k g p).2 = true then rdR (k + 1) (addR k g p).1 tl else (g, k, false) := by
  cases tl with
  | nil => exact absurd rfl h
  | cons q r => rfl
theorem rd_lines {t n : Int} (ht : okTN t n = true) : ∀ (ps : List Pd) (k : Nat) (g : St), 2 ≤ k → (∀ p ∈ ps, chkP t n p = 0) → rdR k g (ps.map prodT ++ [[]]) = (⟨g.t, g.n, g.ps ++ ps⟩, k + ps.length, true)
  | [], k, g, hk, _ => by
    show rdR k g [[]] = _
    unfold rdR
    rw [if_pos ⟨rfl, by omega⟩]
    simp
  | p :: ps, k, g, hk, hp => by
    have hb := prod_back ht (hp p (by simp))
    rw [List.map_cons, List.cons_append, rdR_cons _ _ _ _ (by simp)]
    have ha : addR k g (prodT p) = (⟨g.t, g.n, g.ps ++ [p]⟩, true) := by unfold addR; rw [if_neg (by omega), hb]
    rw [ha]
    simp only [if_true]
    rw [rd_lines ht ps (k + 1) _ (by omega) fun q hq => hp q (by simp [hq])]
    simp; omega
theorem prodT_free {t n : Int} (ht : okTN t n = true) {p : Pd} (h : chkP t n p = 0) : (10 : UInt8) ∉ prodT p := by
  obtain ⟨x, l⟩ := p
  obtain ⟨k1, k2, k3⟩ := prod_small ht h
  unfold prodT bodyT
  simp only [List.mem_append, List.mem_cons, List.mem_flatMap, not_or, not_exists, not_and]
  refine ⟨dec_free (by omega) 10 (by decide), by decide, fun s hs => ⟨by decide, symT_free (by have := k3 s hs; omega) 10 (by decide) (by decide) (by decide)⟩⟩
theorem sp_lines {t n : Int} (ht : okTN t n = true) : ∀ ps : List Pd, (∀ p ∈ ps, chkP t n p = 0) → sp 10 (linesT ps) = ps.map prodT ++ [[]]
  | [], _ => rfl
  | p :: ps, h => by
    rw [show linesT (p :: ps) = prodT p ++ 10 :: linesT ps from by simp [linesT], sp_app 10 _ _ (prodT_free ht (h p (by simp))), sp_lines ht ps fun q hq => h q (by simp [hq])]
    rfl
theorem text_eq (t n : Int) (ps : List Pd) : text t n ps = (decDigits t.toNat ++ 32 :: decDigits n.toNat) ++ 10 :: linesT ps := by unfold text linesT; simp
theorem text_len {t n : Int} {ps : List Pd} (h : chk t n ps = 0) : (text t n ps).length ≤ 4096 := by
  obtain ⟨h1, h2, h3⟩ := chk_zero h
  have := okTN_le h1
  have l1 := dec_len (i := t.toNat) (by omega)
  have l2 := dec_len (i := n.toNat) (by omega)
  have l3 := linesT_len t n ps h1 h3
  rw [text_eq]
  simp only [List.length_append, List.length_cons]
  omega
theorem read_text {t n : Int} {ps : List Pd} (h : chk t n ps = 0) : readR (text t n ps) = (⟨t, n, ps⟩, 0, 0) := by
  obtain ⟨h1, h2, h3⟩ := chk_zero h
  have hle := okTN_le h1
  have hsp : sp 10 (text t n ps) = (decDigits t.toNat ++ 32 :: decDigits n.toNat) :: (ps.map prodT ++ [[]]) := by
    rw [text_eq, sp_app 10 _ _ ?_, sp_lines h1 ps h3]
    simp only [List.mem_append, List.mem_cons, not_or]
    exact ⟨dec_free (by omega) 10 (by decide), by decide, dec_free (by omega) 10 (by decide)⟩
  have hc : countsR (decDigits t.toNat ++ 32 :: decDigits n.toNat) = ((t, n), true) := by
    unfold countsR
    rw [cutC_app 32 _ _ (dec_free (by omega) 32 (by decide))]
    simp only []
    rw [num_dec (by omega), num_dec (by omega)]
    simp; omega
  have hrd : rdR 1 zst (sp 10 (text t n ps)) = (⟨t, n, ps⟩, 2 + ps.length, true) := by
    rw [hsp, rdR_cons _ _ _ _ (by simp)]
    have ha : addR 1 zst (decDigits t.toNat ++ 32 :: decDigits n.toNat) = (⟨t, n, []⟩, true) := by unfold addR; rw [if_pos rfl, hc]; rfl
    rw [ha]
    simp only [if_true]
    rw [rd_lines h1 ps 2 _ (by omega) h3]
    simp
  unfold readR
  rw [if_neg (by have := text_len h; omega), hrd]
  simp [h]
theorem rd_was : ∀ (tl : List (List UInt8)) (k : Nat) (g g' : St) (k' : Nat), 2 ≤ k → rdR k g tl = (g', k', true) → ∃ ls, tl = ls ++ [[]] ∧ g' = ⟨g.t, g.n, g.ps ++ ls.map fun q => (prodR q).1⟩ ∧ ∀ q ∈ ls, (prodR q).2 = true
  | [], k, g, g', k', _, h => by simp [rdR] at h
  | [p], k, g, g', k', _, h => by
    unfold rdR at h
    split at h
    · rename_i h1; simp at h; exact ⟨[], by rw [h1.1]; rfl, by rw [← h.1]; simp, fun q hq => by cases hq⟩
    · simp at h
  | p :: q :: r, k, g, g', k', hk, h => by
    rw [rdR_cons _ _ _ _ (by simp)] at h
    split at h
    · rename_i h1
      obtain ⟨ls, e1, e2, e3⟩ := rd_was (q :: r) (k + 1) _ g' k' (by omega) h
      have ha : addR k g p = (⟨g.t, g.n, g.ps ++ [(prodR p).1]⟩, (prodR p).2) := by unfold addR; rw [if_neg (by omega)]
      rw [ha] at h1 e2
      refine ⟨p :: ls, by rw [e1]; rfl, by rw [e2]; simp, fun x hx => ?_⟩
      rcases List.mem_cons.1 hx with rfl | hx
      · exact h1
      · exact e3 x hx
    · simp at h
theorem join_lines (c : UInt8) (p : List UInt8) (ls : List (List UInt8)) : joinC c (p :: (ls ++ [[]])) = p ++ c :: ls.flatMap fun q => q ++ [c] := by
  rw [join_flat]
  congr 1
  induction ls with
  | nil => rfl
  | cons q ls ih => simp only [List.cons_append, List.flatMap_cons] at ih ⊢; rw [ih]; simp
theorem text_read {l : List UInt8} {g : St} {line : Int} (h : readR l = (g, line, 0)) : chk g.t g.n g.ps = 0 ∧ text g.t g.n g.ps = l := by
  unfold readR at h
  split at h
  · simp at h
  · split at h
    · rename_i hok
      split at h
      · rename_i hch
        simp only [Prod.mk.injEq, and_true] at h
        obtain ⟨rfl, -⟩ := h
        refine ⟨hch, ?_⟩
        obtain ⟨h1, h2, h3⟩ := chk_zero hch
        have hle := okTN_le h1
        have hj := join_sp 10 l
        cases hs : sp 10 l with
        | nil => exact absurd hs (sp_ne 10 l)
        | cons p tl =>
          rw [hs] at hok hch h1 h2 h3 hle hj
          cases tl with
          | nil => simp [rdR] at hok
          | cons q r =>
            rw [rdR_cons _ _ _ _ (by simp)] at hok hch h1 h2 h3 hle ⊢
            have ha : addR 1 zst p = (⟨(countsR p).1.1, (countsR p).1.2, []⟩, (countsR p).2) := by unfold addR; rw [if_pos rfl]; rfl
            rw [ha] at hok hch h1 h2 h3 hle ⊢
            by_cases hc : (countsR p).2 = true
            · simp only [hc, if_true] at hok hch h1 h2 h3 hle ⊢
              obtain ⟨ls, e1, e2, e3⟩ := rd_was (q :: r) 2 ⟨(countsR p).1.1, (countsR p).1.2, []⟩ (rdR (1 + 1) ⟨(countsR p).1.1, (countsR p).1.2, []⟩ (q :: r)).1 (rdR (1 + 1) ⟨(countsR p).1.1, (countsR p).1.2, []⟩ (q :: r)).2.1 (by omega) (by rw [← hok])
              rw [e2] at h1 h3 hle ⊢
              simp only [List.nil_append] at h1 h3 hle ⊢
              rw [← hj, e1, join_lines, text_eq]
              have hp : decDigits (countsR p).1.1.toNat ++ 32 :: decDigits (countsR p).1.2.toNat = p := by
                unfold countsR at hc hle ⊢
                simp only [Bool.and_eq_true] at hc hle ⊢
                obtain ⟨c1, c2⟩ := hc
                have d1 := dec_num (l := (cutC 32 p).1) (x := (numR (cutC 32 p).1).1) (by rw [← c1]) (by omega)
                have d2 := dec_num (l := (cutC 32 p).2.1) (x := (numR (cutC 32 p).2.1).1) (by rw [← c2]) (by omega)
                rw [d1, d2]
                cases hf : (cutC 32 p).2.2 with
                | true => exact (cutC_join (c := 32) (l := p) (a := (cutC 32 p).1) (b := (cutC 32 p).2.1) (by rw [← hf])).symm
                | false =>
                  exfalso
                  have : (cutC 32 p).2.1 = [] := by
                    unfold cutC at hf ⊢
                    cases hs2 : sp 32 p with
                    | nil => rfl
                    | cons a t => rw [hs2] at hf; cases t with
                      | nil => rfl
                      | cons b c => simp at hf
                  rw [this] at c2
                  cases c2
              rw [hp]
              congr 2
              unfold linesT
              rw [List.flatMap_map]
              have hq : ∀ x ∈ ls, prodT (prodR x).1 = x := fun x hx => prod_was h1 (by rw [← e3 x hx]) (h3 _ (List.mem_map_of_mem hx))
              clear hs hj e1 e2 e3 h3
              induction ls with
              | nil => rfl
              | cons x ls ih => rw [List.flatMap_cons, List.flatMap_cons, hq x (by simp), ih fun y hy => hq y (by simp [hy])]
            · simp only [hc] at hok
              simp at hok
      · simp only [Prod.mk.injEq] at h
        rename_i hch
        exact absurd h.2.2 hch
    · simp at h
theorem read_bad {l : List UInt8} {g : St} {line err : Int} (h : readR l = (g, line, err)) (he : err ≠ 0) : g = zst ∧ 0 ≤ line := by
  unfold readR at h
  split at h
  · simp only [Prod.mk.injEq] at h; exact ⟨h.1.symm, by omega⟩
  · split at h
    · split at h
      · simp only [Prod.mk.injEq] at h; exact absurd h.2.2.symm he
      · simp only [Prod.mk.injEq] at h; exact ⟨h.1.symm, by omega⟩
    · simp only [Prod.mk.injEq] at h; exact ⟨h.1.symm, by omega⟩
end Cg
end Go.Proofs.YtgoafahglajfmaaDoor
