/-
  The open chart, plainly: a nonterminal has something behind a place, up to the word's end, just if some tree of it begins so.
-/
import Derived.Test.YtpbnnmfjahckmaaChMath
import Derived.Test.YtpbnnmfjahckmaaCtBeg
namespace Go.Proofs.Ytpbnnmfjahckmaa
namespace Cg

theorem opn_cnt {ps : List Pd} (hk : Kd ps) {w : List Int} {F : TbN} (h : Lst (leafO w) ps (w.length + 1) F) (a : Int) (i j : Nat) : cnt ps w a i j ≤ F a i j := by
  refine cnt_le (fun a i j => ?_) a i j
  by_cases e : j < i ∨ w.length < j
  · rw [stp_out (fun a i j h2 => h.low a i j (by omega)) e]; exact Nat.zero_le _
  · have hlow : ∀ a i j, j < i → F a i j = 0 := fun a i j hij => h.low a i j (Or.inl hij)
    rw [stp_stm hk hlow (by omega), h.fix a i j (by omega) (by omega)]
    unfold stm
    have := sm_mono2 (n := ps.length) (g := fun q => if (ps.getD q (0, [])).1 = a then mr (w.length + 1) (on1 (leafC w) F) (ps.getD q (0, [])).2 i j else 0) (g' := fun q => if (ps.getD q (0, [])).1 = a then mr (w.length + 1) (on1 (leafO w) F) (ps.getD q (0, [])).2 i j else 0) fun q _ => by
      split
      · refine mr_mono (on1_tri (leafC_tri w) hlow) _ fun s x y hx hy hj => ?_
        unfold on1 leafC leafO
        split
        · exact Nat.le_refl _
        · by_cases e1 : y = x + 1 ∧ w[x]? = some s.2
          · simp [e1]
          · simp [e1]
      · exact Nat.le_refl _
    omega
theorem ov_of1 {ps : List Pd} {w : List Int} {s : Sy} (hs : s.1 = 1 ∨ s.1 = 2) {i m : Nat} (h : Ov ps w s i m) {F : TbN} (hF : ∀ a i j, cnt ps w a i j ≤ F a i j) : 1 ≤ on1 (leafO w) F s i m := by
  obtain ⟨t, ht⟩ := h
  unfold on1
  rcases hs with hs | hs
  · rw [if_neg (by omega)]
    have := ((sp_leaf hs).1 ht).1
    unfold leafO
    rw [if_pos (by simp [this])]; exact Nat.le_refl _
  · rw [if_pos hs]
    refine Nat.le_trans (cc_some.2 ⟨t, ?_⟩) (hF s.2 i m)
    have e : s = (2, s.2) := Prod.ext hs rfl
    rw [← e]; exact ht
mutual
theorem opn_all2 {ps : List Pd} (hk : Kd ps) {w : List Int} {F : TbN} (hL : Lst (leafO w) ps (w.length + 1) F) : ∀ {t : T} {s : Sy} {i : Nat}, sh ps t s = true → (s.1 = 1 ∨ s.1 = 2) → i ≤ w.length → w.drop i <+: yl ps t s → 1 ≤ on1 (leafO w) F s i w.length
  | .mk p k l, s, i, h, hs, hi, hp => by
    by_cases h4 : s.1 = 1
    · have e1 := sh_is_leaf h h4
      have e2 : yl ps (.mk p k l) s = [s.2] := by rw [e1, yl, if_pos h4]
      rw [e2] at hp
      unfold on1
      rw [if_neg (by omega)]
      unfold leafO
      have hl := hp.length_le
      rw [List.length_drop] at hl
      simp at hl
      by_cases e : i = w.length
      · rw [if_pos (by simp [e])]; exact Nat.le_refl _
      · have hlt : i < w.length := by omega
        rw [List.drop_eq_getElem_cons hlt] at hp
        have h5 : w[i] = s.2 := by
          obtain ⟨r, hr⟩ := hp
          rw [List.cons_append] at hr
          exact (List.cons.inj hr).1
        rw [if_pos (by simp; left; exact ⟨by omega, by rw [List.getElem?_eq_getElem hlt, h5]⟩)]; exact Nat.le_refl _
    · obtain ⟨h1, h2, h3, h5⟩ := sh_node h h4
      have hle := isPr_le h1
      obtain ⟨z, rfl⟩ : ∃ z : Nat, p = (z : Int) := ⟨p.toNat, by omega⟩
      rw [yl, if_neg h4] at hp
      have hb : bodyOf ps (z : Int) = (ps.getD z (0, [])).2 := by unfold bodyOf; rw [Int.toNat_natCast]
      have hh : (ps.getD z (0, [])).1 = s.2 := by unfold headOf at h2; rw [Int.toNat_natCast] at h2; exact h2
      rw [hb] at h5 hp
      have hz : z < ps.length := by omega
      have := opn_all2L hk hL h5 (kd_at hk hz) hi hp
      unfold on1
      rw [if_pos (by rcases hs with hs | hs; exact absurd hs h4; exact hs), hL.fix _ _ _ hi (by omega)]
      unfold stm
      have : 1 ≤ sm ps.length fun q => if (ps.getD q (0, [])).1 = s.2 then mr (w.length + 1) (on1 (leafO w) F) (ps.getD q (0, [])).2 i w.length else 0 := sm_pos.2 ⟨z, hz, by rw [if_pos hh]; exact this⟩
      omega
theorem opn_all2L {ps : List Pd} (hk : Kd ps) {w : List Int} {F : TbN} (hL : Lst (leafO w) ps (w.length + 1) F) : ∀ {l : List T} {ss : List Sy} {i : Nat}, shL ps l ss = true → (∀ s ∈ ss, s.1 = 1 ∨ s.1 = 2) → i ≤ w.length → w.drop i <+: ylL ps l ss → 1 ≤ mr (w.length + 1) (on1 (leafO w) F) ss i w.length
  | [], ss, i, h, hs, hi, hp => by
    rw [shL] at h; simp at h; subst h
    rw [ylL] at hp
    have := hp.length_le
    simp at this
    rw [mr, if_pos (by omega)]; exact Nat.le_refl _
  | t :: l, [], i, h, hs, hi, hp => by rw [shL] at h; simp at h
  | t :: l, s :: ss, i, h, hs, hi, hp => by
    rw [shL] at h; simp at h
    rw [ylL] at hp
    simp only [List.headD_cons, List.tail_cons] at hp
    rw [mr]
    rcases List.prefix_or_prefix_of_prefix hp (List.prefix_append (yl ps t s) (ylL ps l ss)) with hp1 | hp1
    · refine sm_pos.2 ⟨w.length, by omega, Nat.mul_pos (opn_all2 hk hL h.1 (hs s (by simp)) hi hp1) (opn_all2L hk hL h.2 (fun u hu => hs u (by simp [hu])) (Nat.le_refl _) ?_)⟩
      rw [List.drop_length]; exact List.nil_prefix
    · have hov := ov_of h.1 hi hp1
      have hm := ov_le hov
      refine sm_pos.2 ⟨_, by omega, Nat.mul_pos (ov_of1 (hs s (by simp)) hov fun a i j => opn_cnt hk hL a i j) (opn_all2L hk hL h.2 (fun u hu => hs u (by simp [hu])) hm.2 ?_)⟩
      obtain ⟨r, hr⟩ := hp1
      have hd : w.drop (i + (yl ps t s).length) = r := by
        rw [← List.drop_drop, ← hr, List.drop_left]
      rw [hd]
      rw [← hr] at hp
      exact (List.prefix_append_right_inj _).1 hp
end
open Classical in
/-- What is open at its end, and counted else. -/
noncomputable def gO (ps : List Pd) (w : List Int) : TbN := fun a i j => if i ≤ j ∧ j = w.length then (if Bgn ps w (2, a) i then 2 else 0) else cnt ps w a i j
theorem mr_bgn {ps : List Pd} {w : List Int} : ∀ (l : List Sy) {i : Nat}, (∀ s ∈ l, s.1 = 1 ∨ s.1 = 2) → i ≤ w.length → 1 ≤ mr (w.length + 1) (on1 (leafO w) (gO ps w)) l i w.length → BgnL ps w l i
  | [], i, hs, hi, h => by
    rw [mr] at h
    by_cases e : i = w.length
    · exact ⟨[], by simp [shL], by rw [e, List.drop_length]; exact List.nil_prefix⟩
    · rw [if_neg e] at h; omega
  | s :: l, i, hs, hi, h => by
    rw [mr] at h
    obtain ⟨m, hm, h⟩ := sm_pos.1 h
    have h0 : on1 (leafO w) (gO ps w) s i m * mr (w.length + 1) (on1 (leafO w) (gO ps w)) l m w.length ≠ 0 := by omega
    have h1 : 1 ≤ on1 (leafO w) (gO ps w) s i m := Nat.pos_of_ne_zero fun e => h0 (by rw [e, Nat.zero_mul])
    have h2 : 1 ≤ mr (w.length + 1) (on1 (leafO w) (gO ps w)) l m w.length := Nat.pos_of_ne_zero fun e => h0 (by rw [e, Nat.mul_zero])
    obtain ⟨ts, g1, g2⟩ := mr_bgn l (fun u hu => hs u (by simp [hu])) (by omega) h2
    unfold on1 at h1
    by_cases e : m = w.length
    · subst e
      have key : ∃ t, sh ps t s = true ∧ w.drop i <+: yl ps t s := by
        rcases hs s (by simp) with h4 | h4
        · rw [if_neg (by omega)] at h1
          refine ⟨_, sh_of_leaf (k := 0) h4, ?_⟩
          rw [yl, if_pos h4]
          by_cases e : i = w.length
          · rw [e, List.drop_length]; exact List.nil_prefix
          · have hlt : i < w.length := by omega
            by_cases e1 : leafO w s.2 i w.length = true
            · unfold leafO at e1
              simp at e1
              have e2 : w[i]? = some s.2 ∧ w.length = i + 1 := by rcases e1 with e1 | e1; exact ⟨e1.2, e1.1⟩; omega
              rw [List.getElem?_eq_getElem hlt] at e2
              rw [List.drop_eq_getElem_cons hlt, List.drop_eq_nil_of_le (by omega)]
              simp at e2
              rw [e2.1]; exact List.prefix_rfl
            · rw [if_neg e1] at h1; omega
        · rw [if_pos h4] at h1
          unfold gO at h1
          rw [if_pos ⟨hi, rfl⟩] at h1
          by_cases e1 : Bgn ps w (2, s.2) i
          · have e : s = (2, s.2) := Prod.ext h4 rfl
            rw [← e] at e1; exact e1
          · rw [if_neg e1] at h1; omega
      obtain ⟨t, k1, k2⟩ := key
      refine ⟨t :: ts, shL_cons k1 g1, ?_⟩
      rw [ylL]
      exact k2.trans (List.prefix_append _ _)
    · have key : Ov ps w s i m := by
        rcases hs s (by simp) with h4 | h4
        · rw [if_neg (by omega)] at h1
          by_cases e1 : leafO w s.2 i m = true
          · unfold leafO at e1
            simp at e1
            refine ⟨_, (sp_leaf h4).2 ⟨?_, rfl⟩⟩
            rcases e1 with e1 | e1
            · exact e1
            · omega
          · rw [if_neg e1] at h1; omega
        · rw [if_pos h4] at h1
          unfold gO at h1
          rw [if_neg (by omega)] at h1
          obtain ⟨t, ht⟩ := cc_some.1 h1
          have e : s = (2, s.2) := Prod.ext h4 rfl
          rw [← e] at ht
          exact ⟨t, ht⟩
      obtain ⟨t, ht⟩ := key
      obtain ⟨r, hr⟩ := g2
      refine ⟨t :: ts, shL_cons ht.s0 g1, r, ?_⟩
      rw [ylL]
      simp only [List.headD_cons, List.tail_cons]
      rw [part_pre ht.ij ht.jl, List.append_assoc, hr, ht.yl0]
/-- Open: it has something up to the word's end just if a tree begins so. -/
theorem lst_bgn {ps : List Pd} (hk : Kd ps) {w : List Int} {F : TbN} (h : Lst (leafO w) ps (w.length + 1) F) (a : Int) {i : Nat} (hi : i ≤ w.length) : 1 ≤ F a i w.length ↔ Bgn ps w (2, a) i := by
  constructor
  · intro h1
    have h2 := h.least (gO ps w) (fun a i j hij => by
      unfold gO; rw [if_neg (by omega)]; exact cnt_out (Or.inl hij)) (fun a i j hij hj => ?_) a i w.length
    · unfold gO at h2
      rw [if_pos ⟨hi, rfl⟩] at h2
      by_cases e : Bgn ps w (2, a) i
      · exact e
      · rw [if_neg e] at h2; omega
    · have hlowg : ∀ a i j, j < i → gO ps w a i j = 0 := fun a i j hij => by
        unfold gO; rw [if_neg (by omega)]; exact cnt_out (Or.inl hij)
      by_cases ej : j = w.length
      · subst ej
        by_cases e0 : 1 ≤ stm ps (w.length + 1) (on1 (leafO w) (gO ps w)) a i w.length
        · have e1 : 1 ≤ sm ps.length fun q => if (ps.getD q (0, [])).1 = a then mr (w.length + 1) (on1 (leafO w) (gO ps w)) (ps.getD q (0, [])).2 i w.length else 0 := by unfold stm at e0; omega
          obtain ⟨q, hq, e2⟩ := sm_pos.1 e1
          by_cases e3 : (ps.getD q (0, [])).1 = a
          · rw [if_pos e3] at e2
            obtain ⟨l, k1, k2⟩ := mr_bgn _ (kd_at hk hq) hij e2
            have hb : bodyOf ps (q : Int) = (ps.getD q (0, [])).2 := by unfold bodyOf; rw [Int.toNat_natCast]
            have hB : Bgn ps w (2, a) i := ⟨.mk (q : Int) 0 l, sh_of_node (by show (2 : Int) ≠ 1; decide) (by unfold isPr; simp; omega) (by unfold headOf; rw [Int.toNat_natCast]; exact e3) (by rw [hb]; exact k1), by
              rw [yl, if_neg (by show ¬ (2 : Int) = 1; decide), hb]; exact k2⟩
            have : gO ps w a i w.length = 2 := by unfold gO; rw [if_pos ⟨hij, rfl⟩, if_pos hB]
            rw [this]; exact stm_le
          · rw [if_neg e3] at e2; omega
        · omega
      · have e1 : gO ps w a i j = cnt ps w a i j := by unfold gO; rw [if_neg (fun hh => ej hh.2)]
        have hc : ∀ a i j, j < i → cnt ps w a i j = 0 := fun a i j hij => cnt_out (Or.inl hij)
        rw [e1, ← cnt_fix, stp_stm hk hc hj]
        unfold stm
        rw [sm_congr (g' := fun q => if (ps.getD q (0, [])).1 = a then mr (w.length + 1) (on1 (leafC w) (cnt ps w)) (ps.getD q (0, [])).2 i j else 0) fun q _ => ?_]
        · exact Nat.le_refl _
        · split
          · refine mr_congr (on1_tri (leafO_tri w) hlowg) (on1_tri (leafC_tri w) hc) _ fun s x y hx hy hyj hs => ?_
            unfold on1 leafO leafC gO
            split
            · rw [if_neg (by omega)]
            · have : ¬ (x = w.length ∧ y = w.length) := by omega
              simp [this]
          · rfl
  · rintro ⟨t, h1, h2⟩
    have := opn_all2 hk h h1 (Or.inr rfl) hi h2
    unfold on1 at this
    rwa [if_pos rfl] at this
end Cg
end Go.Proofs.Ytpbnnmfjahckmaa
