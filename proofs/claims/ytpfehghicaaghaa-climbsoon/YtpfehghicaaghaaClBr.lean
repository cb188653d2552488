/-
  Climbing down reckoned out, and at the brackets; what whole words tell at the rows that are made of a grammar. No function is walked here.
-/
import Derived.Test.YtpfehghicaaghaaCtA
import Derived.Test.YtpfehghicaaghaaClE
import Derived.Test.YtpfehghicaaghaaFcB
namespace Go.Proofs.Ytpfehghicaaghaa
open Go.RowKit
open Cg

def clmG (ps : List Pd) (rw : Int → Int) (T col seen : Int) : Nat → List Td → List Ev → Bool → Option Clr
  | 0, _, _, _ => none
  | _ + 1, [], ev, had => if 2000 < ev.length then none else some (if had = true then (0, [], ev, true) else if col = T then (0, [], ev, false) else (13, [], ev, false))
  | k + 1, (true, p, x) :: r, ev, had => if 2000 < ev.length ∨ 60 < ((true, p, x) :: r : List Td).length then none else clmG ps rw T col seen k r (ev ++ [(3, p)]) had
  | _ + 1, (false, q, s) :: r, ev, true => if 2000 < ev.length ∨ 60 < ((false, q, s) :: r : List Td).length then none else some (0, (false, q, s) :: r, ev, true)
  | k + 1, (false, q, s) :: r, ev, false => if 2000 < ev.length ∨ 60 < ((false, q, s) :: r : List Td).length then none else
      if s.1 = 1 then (if s.2 = col then clmG ps rw T col seen k r (ev ++ [(2, seen)]) true else some (13, (false, q, s) :: r, ev, false))
      else if rw s.2 < 0 then some (13, (false, q, s) :: r, ev, false)
      else clmG ps rw T col seen k ((bodyOf ps (rw s.2)).map symT ++ endT (rw s.2) :: r) (ev ++ [(1, rw s.2)]) false
theorem clmG_eq {ps : List Pd} {rw : Int → Int} {T col seen : Int} : ∀ (k : Nat) (td : List Td) (ev : List Ev) (had : Bool) (r : Clr), clmG ps rw T col seen k td ev had = some r → clm ps rw T col seen td ev had = r
  | 0, td, ev, had, r, h => by rw [clmG] at h; cases h
  | k + 1, [], ev, had, r, h => by
    rw [clmG] at h
    split at h
    · cases h
    · rw [clm_nil (by omega)]; exact Option.some.inj h
  | k + 1, (true, p, x) :: r', ev, had, r, h => by
    rw [clmG] at h
    split at h
    · cases h
    · rename_i hb
      rw [clm_end (by omega) (by omega)]; exact clmG_eq k _ _ _ _ h
  | k + 1, (false, q, s) :: r', ev, true, r, h => by
    rw [clmG] at h
    split at h
    · cases h
    · rename_i hb
      rw [clm_stop (by omega) (by omega)]; exact Option.some.inj h
  | k + 1, (false, q, s) :: r', ev, false, r, h => by
    rw [clmG] at h
    split at h
    · cases h
    · rename_i hb
      by_cases h4 : s.1 = 1
      · rw [if_pos h4] at h
        rw [clm_tok (by omega) (by omega) h4]
        by_cases h5 : s.2 = col
        · rw [if_pos h5] at h ⊢; exact clmG_eq k _ _ _ _ h
        · rw [if_neg h5] at h ⊢; exact Option.some.inj h
      · rw [if_neg h4] at h
        rw [clm_non (by omega) (by omega) h4]
        by_cases h5 : rw s.2 < 0
        · rw [if_pos h5] at h ⊢; exact Option.some.inj h
        · rw [if_neg h5] at h ⊢; exact clmG_eq k _ _ _ _ h
def clwF (ps : List Pd) (rw : Int → Int → Int) (T : Int) (k : Nat) : List Int → List Td → Int → List Ev → Nat → Option (List Ev × Nat × Int)
  | [], td, seen, out, had => (clmG ps (rw T) T T seen k td [] false).bind fun r => some (if r.1 = 0 then out ++ r.2.2.1 else out, had, r.1)
  | x :: ws, td, seen, out, had => (clmG ps (rw x) T x seen k td [] false).bind fun r => if r.1 = 0 then clwF ps rw T k ws r.2.1 (seen + 1) (out ++ r.2.2.1) (had + 1) else some (out, had, r.1)
theorem clwF_eq {ps : List Pd} {rw : Int → Int → Int} {T : Int} {k : Nat} : ∀ (ws : List Int) (td : List Td) (seen : Int) (out : List Ev) (had : Nat) (r : List Ev × Nat × Int), clwF ps rw T k ws td seen out had = some r → cls ps rw T ws td seen out had = r
  | [], td, seen, out, had, r, h => by
    rw [clwF] at h
    obtain ⟨c, h1, h2⟩ := Option.bind_eq_some_iff.1 h
    rw [cls_nil', clmG_eq _ _ _ _ _ h1]
    exact Option.some.inj h2
  | x :: ws, td, seen, out, had, r, h => by
    rw [clwF] at h
    obtain ⟨c, h1, h2⟩ := Option.bind_eq_some_iff.1 h
    rw [cls_cons', clmG_eq _ _ _ _ _ h1]
    by_cases h0 : c.1 = 0
    · rw [if_pos h0] at h2 ⊢; exact clwF_eq ws _ _ _ _ _ h2
    · rw [if_neg h0] at h2 ⊢; exact Option.some.inj h2
theorem cls_01 : cls brs (rwC [[1, 0, 0]]) 2 [0, 1] [symT (2, 0)] 0 [] 0 = ([(1, 1), (2, 0), (1, 0), (3, 0), (2, 1), (1, 0), (3, 0), (3, 1)], 2, 0) := clwF_eq (k := 30) _ _ _ _ _ _ (by decide +kernel)
theorem cls_0110 : cls brs (rwC [[1, 0, 0]]) 2 [0, 1, 1, 0] [symT (2, 0)] 0 [] 0 = ([(1, 1), (2, 0), (1, 0), (3, 0), (2, 1)], 2, 13) := clwF_eq (k := 30) _ _ _ _ _ _ (by decide +kernel)
theorem chkR_brs : chkR 2 ((1 : Nat) : Int) brs [[1, 0, 0]] = 0 := by decide +kernel
mutual
theorem yl_ok {t : Int} {n : Nat} {ps : List Pd} (hok : ∀ q (hq : q < ps.length), OkL t n ps[q].2) : ∀ {x : T} {s : Sy}, sh ps x s = true → (s.1 = 1 → 0 ≤ s.2 ∧ s.2 < t) → ∀ y ∈ yl ps x s, 0 ≤ y ∧ y < t
  | .mk p k l, s, h, hs => by
    rw [yl]
    by_cases h4 : s.1 = 1
    · rw [if_pos h4]; intro y hy; simp at hy; subst hy; exact hs h4
    · rw [if_neg h4]
      obtain ⟨h1, -, -, h5⟩ := sh_node h h4
      obtain ⟨q, hq, -, e2⟩ := body_mem h1
      obtain ⟨j, hj, rfl⟩ := List.mem_iff_getElem.1 hq
      exact ylL_ok hok h5 (fun s hs e => by
        have := hok j hj s (by rw [e2]; exact hs)
        rcases this with h | h
        · exact h.2
        · omega)
theorem ylL_ok {t : Int} {n : Nat} {ps : List Pd} (hok : ∀ q (hq : q < ps.length), OkL t n ps[q].2) : ∀ {l : List T} {ss : List Sy}, shL ps l ss = true → (∀ s ∈ ss, s.1 = 1 → 0 ≤ s.2 ∧ s.2 < t) → ∀ y ∈ ylL ps l ss, 0 ≤ y ∧ y < t
  | [], ss, h, hs => by intro y hy; simp [ylL] at hy
  | x :: l, [], h, hs => by rw [shL] at h; simp at h
  | x :: l, s :: ss, h, hs => by
    rw [shL] at h; simp at h
    intro y hy
    rw [ylL] at hy
    simp only [List.headD_cons, List.tail_cons, List.mem_append] at hy
    rcases hy with hy | hy
    · exact yl_ok hok h.1 (hs s (by simp)) y hy
    · exact ylL_ok hok h.2 (fun s2 hs2 => hs s2 (by simp [hs2])) y hy
end
theorem kd2 {t : Int} {n : Nat} {ps : List Pd} (h : Rg t n ps) : ∀ p ∈ ps, (∀ s ∈ p.2, s.1 = 1 ∨ (s.1 = 2 ∧ 0 ≤ s.2)) ∧ 0 ≤ p.1 := fun p hp => by
  obtain ⟨q, hq, rfl⟩ := List.getElem_of_mem hp
  obtain ⟨m, e1, e2, e3⟩ := h.hd q hq
  refine ⟨fun s hs => ?_, by omega⟩
  rcases h.ok q hq s hs with h | h
  · exact Or.inl h.1
  · exact Or.inr ⟨h.1, h.2.1⟩
/-- What a whole word tells at the rows of a grammar without a clash. -/
theorem cls_parses {T n : Nat} {ps : List Pd} {S : Nat → Wd} {ws : List Int} (hS : TK ps S) (hno : clsN ps S T n = []) (hck : ckW (T : Int) (n : Int) ps ws = 0) :
    (cls ps (rwC (rowsL ps S T n)) (T : Int) ws [symT (2, 0)] 0 [] 0).2.2 = 14 ∨ ((∀ x, Sp ps ws x (2, 0) 0 ws.length → (cls ps (rwC (rowsL ps S T n)) (T : Int) ws [symT (2, 0)] 0 [] 0).2.2 = 0 ∧ (((cls ps (rwC (rowsL ps S T n)) (T : Int) ws [symT (2, 0)] 0 [] 0).2.1 : Nat) : Int) = (ws.length : Int) ∧ (cls ps (rwC (rowsL ps S T n)) (T : Int) ws [symT (2, 0)] 0 [] 0).1 = evD x) ∧ (cnt ps ws 0 0 ws.length = 0 → (cls ps (rwC (rowsL ps S T n)) (T : Int) ws [symT (2, 0)] 0 [] 0).2.2 = 13)) := by
  obtain ⟨E, F, V, R, M, hfa, rfl⟩ := hS
  obtain ⟨h1, h2, h3⟩ := ckW_zero hck
  have hrg := rg_of h1
  have g : Lg ps E F V R M T n := ⟨hfa, hno, by have := hrg.t2; omega, hrg⟩
  have hrw : ∀ x : Nat, x ≤ T → ∀ hd : Nat, hd < n → rwC (rowsL ps (sts ps E F V) T n) (x : Int) (hd : Int) = rowA ps (sts ps E F V) T hd x := fun x hx hd hh => by
    unfold rwC; rw [Int.toNat_natCast]; exact rwF_rows hh hx
  have hkR : chkR (T : Int) (n : Int) ps (rowsL ps (sts ps E F V) T n) = 0 := rowsL_ok h1
  by_cases h14 : (cls ps (rwC (rowsL ps (sts ps E F V) T n)) (T : Int) ws [symT (2, 0)] 0 [] 0).2.2 = 14
  · exact Or.inl h14
  · refine Or.inr ⟨fun x hx => ?_, fun hc => ?_⟩
    · obtain ⟨s1, s2, s3⟩ := sp_whole.1 hx
      have := cls_tree g hrw s1 (by rw [s2, nums_length]) (by rw [s3]; exact h3)
      rw [s3] at this
      have h5 := this.resolve_left h14
      rw [h5]
      exact ⟨rfl, rfl, rfl⟩
    · rcases cls_err (ps := ps) (rw := rwC (rowsL ps (sts ps E F V) T n)) (T := (T : Int)) ws [symT (2, 0)] 0 [] 0 with h0 | h0 | h0
      · obtain ⟨k, td', -, -, -, -, h6⟩ := cls_bk (n := n) (T := (T : Int)) (body_ok h1) (fun x hx1 hx2 => (rwOk_of (col := x.toNat) hkR (by omega) : RwOk ps n (rwF (rowsL ps (sts ps E F V) T n) x.toNat))) (by omega) ws h3 [symT (2, 0)] 0 [] 0 [] bk_start (fun x hx => by
          simp at hx; subst hx
          have := hrg.n1
          simp [tdk, symT]; omega)
        obtain ⟨-, t, ht1, ht2⟩ := h6 h0
        rw [List.nil_append] at ht2
        have h7 := sp_ren ht1
        rw [ht2] at h7
        have h8 : 1 ≤ cnt ps ws 0 0 ws.length := cc_some.2 ⟨_, h7⟩
        omega
      · exact h0
      · exact absurd h0 h14
theorem cls_soon {T n : Nat} {ps : List Pd} {S : Nat → Wd} {ws : List Int} (hS : TK ps S) (hno : clsN ps S T n = []) (hck : ckW (T : Int) (n : Int) ps ws = 0) :
    (cls ps (rwC (rowsL ps S T n)) (T : Int) ws [symT (2, 0)] 0 [] 0).2.1 ≤ ws.length ∧ ((cls ps (rwC (rowsL ps S T n)) (T : Int) ws [symT (2, 0)] 0 [] 0).2.2 = 14 ∨ ∀ (E : Nat → Bool) (F V : Nat → Wd) (R M : Nat → Bool), Fa ps E F V R M → (∀ i, i < n → M i = true) → Bgn ps (ws.take (cls ps (rwC (rowsL ps S T n)) (T : Int) ws [symT (2, 0)] 0 [] 0).2.1) (2, 0) 0 ∧ ((cls ps (rwC (rowsL ps S T n)) (T : Int) ws [symT (2, 0)] 0 [] 0).2.1 < ws.length → ¬ Bgn ps (ws.take ((cls ps (rwC (rowsL ps S T n)) (T : Int) ws [symT (2, 0)] 0 [] 0).2.1 + 1)) (2, 0) 0)) := by
  obtain ⟨E, F, V, R, M, hfa, rfl⟩ := hS
  obtain ⟨h1, h2, h3⟩ := ckW_zero hck
  have hrg := rg_of h1
  have g : Lg ps E F V R M T n := ⟨hfa, hno, by have := hrg.t2; omega, hrg⟩
  have hrw : ∀ x : Nat, x ≤ T → ∀ hd : Nat, hd < n → rwC (rowsL ps (sts ps E F V) T n) (x : Int) (hd : Int) = rowA ps (sts ps E F V) T hd x := fun x hx hd hh => by
    unfold rwC; rw [Int.toNat_natCast]; exact rwF_rows hh hx
  have hkR : chkR (T : Int) (n : Int) ps (rowsL ps (sts ps E F V) T n) = 0 := rowsL_ok h1
  obtain ⟨k, td', hk1, hk2, hk3, hk4, hk5⟩ := cls_bk (n := n) (rw := rwC (rowsL ps (sts ps E F V) T n)) (T := (T : Int)) (body_ok h1) (fun x hx1 hx2 => (rwOk_of (col := x.toNat) hkR (by omega) : RwOk ps n (rwF (rowsL ps (sts ps E F V) T n) x.toNat))) (by omega) ws h3 [symT (2, 0)] 0 [] 0 [] bk_start (fun x hx => by
    simp at hx; subst hx
    have := hrg.n1
    simp [tdk, symT]; omega)
  rw [Nat.zero_add] at hk1
  refine ⟨by omega, ?_⟩
  by_cases h14 : (cls ps (rwC (rowsL ps (sts ps E F V) T n)) (T : Int) ws [symT (2, 0)] 0 [] 0).2.2 = 14
  · exact Or.inl h14
  · refine Or.inr fun E' F' V' R' M' hfa' hM => ?_
    obtain ⟨rfl, rfl, rfl, rfl, rfl⟩ := hfa.uniq hfa'
    have hmk : ∀ a : Nat, a < n → ∃ t, sh ps t (2, (a : Int)) = true := fun a ha => by
      obtain ⟨w, hw⟩ := (some_word hfa.m (kd2 hrg) a).2 (hM a ha)
      obtain ⟨t, ht⟩ := cc_some.1 hw
      exact ⟨t, (sp_whole.1 ht).1⟩
    refine ⟨?_, fun hlt => ?_⟩
    · obtain ⟨v, hv⟩ := dv_some hmk td' hk4
      obtain ⟨t, ht1, ht2⟩ := hk3 v hv
      refine ⟨t, ht1, ?_⟩
      rw [List.drop_zero, ht2, hk1, List.nil_append]
      exact List.prefix_append _ _
    · rintro ⟨t, ht1, r, hr⟩
      rw [List.drop_zero] at hr
      have h13 : (cls ps (rwC (rowsL ps (sts ps E F V) T n)) (T : Int) ws [symT (2, 0)] 0 [] 0).2.2 = 13 := by
        rcases cls_err (ps := ps) (rw := rwC (rowsL ps (sts ps E F V) T n)) (T := (T : Int)) ws [symT (2, 0)] 0 [] 0 with h0 | h0 | h0
        · have := (hk5 h0).1; omega
        · exact h0
        · exact absurd h0 h14
      have hx : ∀ y ∈ yl ps t (2, 0), 0 ≤ y ∧ y < (T : Int) := yl_ok hrg.ok ht1 (fun e => by simp at e)
      have ha : Ahd V n (2, 0) [] := fun _ => ⟨⟨0, rfl, g.rg.n1⟩, g.fa.w.cl.z⟩
      obtain ⟨r1, r2, r3⟩ := ren_all 0 ht1
      have := (cls_not g hrw ws h3 [symT (2, 0)] 0 [] h13).2 (evD (renT 0 t)) r (by rw [Nat.zero_add]; exact hlt) (fun y hy => hx y (by rw [← hr]; exact List.mem_append.2 (Or.inr hy)))
      refine this ?_
      change Cg.Fw ps V n [symT (2, 0)] 0 (evD (renT 0 t)) (ws.take ((cls ps (rwC (rowsL ps (sts ps E F V) T n)) (T : Int) ws [symT (2, 0)] 0 [] 0).2.1 + 1) ++ r)
      rw [hr]
      exact ⟨renT 0 t, [], [], r1, by rw [tk_len r1, r2, ← tk_len ht1]; exact r3, by simp, by rw [r2]; simp, ha, rfl, rfl⟩
end Go.Proofs.Ytpfehghicaaghaa
