/-
  The contracts of (*way).isAtClose, token and end: the acts, one behind the other. The contracts of climb.Push and climb.End.
-/
import Derived.Test.YtpfehghicaaghaaClAct
namespace Go.Proofs.Ytpfehghicaaghaa
open Go.RowKit
open Cg

def atCl : List Td → Bool
  | [] => false
  | (c, _) :: _ => c
section
variable {ps : List Pd} {rw : Int → Int} {T col sn sn' : Int} {td : List Td} {ev : List Ev} {had : Bool} {x : Ev}
theorem clm_act (hb : ev.length ≤ 2000) (h60 : td.length ≤ 60) (hx : nx1 rw col sn' td = some x) (hh : had = true → atCl td = true) (hs : had = false → sn' = sn) (hro : ∀ a s r, td = (false, a, s) :: r → s.1 ≠ 1 → rw s.2 ≠ -1 → 0 ≤ rw s.2) :
    clm ps rw T col sn td ev had = clm ps rw T col sn (nxT ps td x) (ev ++ [x]) (had || decide (x.1 = 2)) := by
  match td, h60 with
  | [], _ => simp [nx1] at hx
  | (true, p, s) :: r, h60 =>
    replace hx : some ((3 : Int), p) = some x := hx
    simp only [Option.some.injEq] at hx
    subst hx
    rw [clm_end hb h60]
    simp [nxT]
  | (false, p, s) :: r, h60 =>
    have hf : had = false := by cases had with | false => rfl | true => exact absurd (hh rfl) (by simp [atCl])
    subst hf
    obtain rfl := hs rfl
    replace hx : (if s.1 = 1 then (if s.2 = col then some ((2 : Int), sn') else none) else if rw s.2 = -1 then none else some (1, rw s.2)) = some x := hx
    by_cases h4 : s.1 = 1
    · rw [if_pos h4] at hx
      split at hx
      · rename_i h5
        simp only [Option.some.injEq] at hx
        subst hx
        rw [clm_tok hb h60 h4, if_pos h5]
        simp [nxT]
      · cases hx
    · rw [if_neg h4] at hx
      split at hx
      · cases hx
      · rename_i h5
        simp only [Option.some.injEq] at hx
        subst hx
        have := hro p s r rfl h4 h5
        rw [clm_non hb h60 h4, if_neg (by omega)]
        simp [nxT]
theorem clm_none (hb : ev.length ≤ 2000) (h60 : td.length ≤ 60) (hx : nx1 rw col sn td = none) (hT : td = [] → col ≠ T) : (clm ps rw T col sn td ev false).1 = 13 := by
  match td, h60 with
  | [], _ => rw [clm_nil hb, if_neg (by decide), if_neg (hT rfl)]
  | (true, p, s) :: r, h60 => cases hx
  | (false, p, s) :: r, h60 =>
    replace hx : (if s.1 = 1 then (if s.2 = col then some ((2 : Int), sn) else none) else if rw s.2 = -1 then none else some (1, rw s.2)) = none := hx
    by_cases h4 : s.1 = 1
    · rw [if_pos h4] at hx
      split at hx
      · cases hx
      · rename_i h5
        rw [clm_tok hb h60 h4, if_neg h5]
    · rw [if_neg h4] at hx
      split at hx
      · rename_i h5
        rw [clm_non hb h60 h4, if_pos (by omega)]
      · cases hx
theorem clm_done (hb : ev.length ≤ 2000) (h60 : td.length ≤ 60) (h : atCl td = false) : clm ps rw T col sn td ev true = (0, td, ev, true) := by
  match td, h60 with
  | [], _ => rw [clm_nil hb, if_pos rfl]
  | (true, p, s) :: r, h60 => cases h
  | (false, p, s) :: r, h60 => rw [clm_stop hb h60]
theorem nx1_none_close {rw : Int → Int} {col sn : Int} {td : List Td} (h : atCl td = true) : nx1 rw col sn td ≠ none := by
  match td with
  | [] => cases h
  | (true, p, s) :: r => simp [nx1]
  | (false, p, s) :: r => cases h
theorem nx1_kind2 {rw : Int → Int} {col sn : Int} {td : List Td} {x : Ev} (h : nx1 rw col sn td = some x) (h2 : x.1 = 2) : ∃ a s r, td = (false, a, s) :: r ∧ s.1 = 1 ∧ s.2 = col := by
  match td with
  | [] => cases h
  | (true, p, s) :: r => simp [nx1] at h; rw [← h] at h2; simp at h2
  | (false, p, s) :: r =>
    replace h : (if s.1 = 1 then (if s.2 = col then some ((2 : Int), sn) else none) else if rw s.2 = -1 then none else some (1, rw s.2)) = some x := h
    by_cases h4 : s.1 = 1
    · rw [if_pos h4] at h
      split at h
      · rename_i h5; exact ⟨_, _, _, rfl, h4, h5⟩
      · cases h
    · rw [if_neg h4] at h
      split at h
      · cases h
      · simp at h; rw [← h] at h2; simp at h2
/-- What is ahead stays right. -/
theorem okT_next {t : Int} {n : Nat} {rw : Int → Int} {col sn : Int} (hbo : ∀ z (hz : z < ps.length), ∀ s ∈ (ps[z]'hz).2, okSy t (n : Int) s = true) (hro : ∀ m : Nat, m < n → rw (m : Int) ≠ -1 → ∃ z : Nat, rw (m : Int) = (z : Int) ∧ z < ps.length) (htd : ∀ y ∈ td, okT t (n : Int) ps y = true) (hx : nx1 rw col sn td = some x) : ∀ y ∈ nxT ps td x, okT t (n : Int) ps y = true := by
  obtain ⟨a, b⟩ := x
  obtain ⟨y0, r, rfl, hk⟩ := nx1_some hx htd hro
  have hr : ∀ y ∈ r, okT t (n : Int) ps y = true := fun y hy => htd y (List.mem_cons_of_mem _ hy)
  rcases hk with rfl | rfl | ⟨rfl, z, rfl, hz⟩
  · intro y hy; simp [nxT] at hy; exact hr y hy
  · intro y hy; simp [nxT] at hy; exact hr y hy
  · intro y hy
    have e : nxT ps (y0 :: r) (1, (z : Int)) = (ps[z]'hz).2.map symT ++ endT (z : Int) :: r := by simp [nxT, (bodyOf_nat hz).1]
    rw [e] at hy
    rcases List.mem_append.1 hy with hy | hy
    · obtain ⟨s, hs, rfl⟩ := List.mem_map.1 hy
      have := hbo z hz s hs
      simp [okT, symT, this]
    · rcases List.mem_cons.1 hy with rfl | hy
      · simp [okT, endT, isPr, hz]
      · exact hr y hy
end
set_option maxHeartbeats 3200000 in
set_option maxRecDepth 20000 in
theorem isAtClose_any (w0 : World) (g : Nat) (t n : Int) (pv rv : Value) (col sn : Int) (ta : Option Addr) (tn tc : Nat) (ea : Option Addr) (en ec : Nat) (td : List Td) (ev : List Ev) (w : World) (h : Wb w0 g t n pv rv col sn ta tn tc ea en ec td ev w) (hlen : td.length ≤ 60) :
    Calls Try.prog 77 #[.pointer (some ⟨g, 0, none⟩)] w fun e w' => e = .returned (.bool (atCl td)) ∧ Below w.heap.size w w' := by
  have q5 := tcell_blk h.blk 5
  simp only [List.getElem?_toArray, List.getElem?_cons_zero, List.getElem?_cons_succ] at q5
  match td with
  | [] =>
    obtain ⟨rfl, -⟩ := h.lens
    clear h
    go_enter Try.func77, Try.ntmps77
    go_wp2_with fail
    go_quiet (fail)
    have hb : Below w.heap.size w (w.drewN nq) := Go.Joins.below_draws _ _ _
    generalize w.drewN nq = w2 at hb ⊢
    go_wp2_with fail
    go_ret
    exact ⟨rfl, hb⟩
  | (c, x) :: r =>
    obtain ⟨k, rfl, rfl, -, -, hc0, -, -, -⟩ := h.top
    have hk1 : ((r.length : Int)) < ((r.length : Int) + 1) := by omega
    have hk0 : (0 : Int) ≤ (r.length : Int) := by omega
    have hk2 : (0 : Int) < ((r.length : Int) + 1) := by omega
    have hk3 : (r.length : Int) ≤ 60 := by simp at hlen; omega
    clear h
    go_enter Try.func77, Try.ntmps77
    go_wp2_with fail
    go_quiet (fail)
    have hb : Below w.heap.size w (w.drewN nq) := Go.Joins.below_draws _ _ _
    generalize w.drewN nq = w2 at hb ⊢
    go_wp2_with fail
    go_ret
    exact ⟨rfl, hb⟩
/-- What the acts on the way hold. -/
structure Ok (w0 : World) (t : Int) (n : Nat) (pv rv : Value) (ps : List Pd) (rows : List (List Int)) (col : Nat) : Prop where
  pd : Pds w0 pv ps
  bl : ∀ z (hz : z < ps.length), (ps[z]'hz).2.length ≤ 8
  bo : ∀ z (hz : z < ps.length), ∀ s ∈ (ps[z]'hz).2, okSy t (n : Int) s = true
  rw : Rws w0 rv rows
  rl : rows.length = n
  cl : ∀ i (hi : i < rows.length), col < rows[i].length
  ro : ∀ m : Nat, m < n → rwF rows col (m : Int) ≠ -1 → ∃ z : Nat, rwF rows col (m : Int) = (z : Int) ∧ z < ps.length
theorem Ok.pos {w0 : World} {t : Int} {n : Nat} {pv rv : Value} {ps : List Pd} {rows : List (List Int)} {col : Nat} (h : Ok w0 t n pv rv ps rows col) {td : List Td} (htd : ∀ y ∈ td, okT t (n : Int) ps y = true) : ∀ a s r, td = (false, a, s) :: r → s.1 ≠ 1 → rwF rows col s.2 ≠ -1 → 0 ≤ rwF rows col s.2 := by
  intro a s r e h4 h5
  subst e
  have hx := htd (false, a, s) (by simp)
  unfold okT okSy okN at hx
  simp [h4] at hx
  obtain ⟨m, hm⟩ : ∃ m : Nat, s.2 = (m : Int) := ⟨s.2.toNat, by omega⟩
  rw [hm] at h5 ⊢
  obtain ⟨z, hz, -⟩ := h.ro m (by omega) h5
  omega
/-- The way at some time: R is what comes of it, m how many acts are left. -/
def TG (w0 : World) (g : Nat) (t : Int) (n : Nat) (pv rv : Value) (col : Nat) (T sn : Int) (ps : List Pd) (rows : List (List Int)) (R : Clr) (wr : World) (m : Nat) : Prop :=
  ∃ ta tn tc ea en ec td ev had, Wb w0 g t (n : Int) pv rv (col : Int) (if had = true then sn + 1 else sn) ta tn tc ea en ec td ev wr ∧ m + ev.length = 2001 ∧ td.length ≤ 60 ∧ ev.length ≤ 2000 ∧ (∀ y ∈ td, okT t (n : Int) ps y = true) ∧ clm ps (rwF rows col) T (col : Int) sn td ev had = R ∧ ((col : Int) = t → had = false)
def TokP (w0 : World) (g : Nat) (t : Int) (n : Nat) (pv rv : Value) (col : Nat) (sn : Int) (R : Clr) (e : Ending) (w' : World) : Prop :=
  e = .returned (.int .i64 R.1) ∧ Below w0.heap.size w0 w' ∧ (R.1 = 0 → ∃ ta tn tc ea en ec, Wb w0 g t (n : Int) pv rv (col : Int) (if R.2.2.2 = true then sn + 1 else sn) ta tn tc ea en ec R.2.1 R.2.2.1 w')
/-- An act that goes on. -/
theorem TG.next {w0 : World} {g : Nat} {t : Int} {n : Nat} {pv rv : Value} {col : Nat} {T sn : Int} {ps : List Pd} {rows : List (List Int)} {R : Clr} {td : List Td} {ev : List Ev} {had : Bool} {x : Ev} {w3 : World} (ho : Ok w0 t n pv rv ps rows col) (hb : ev.length ≤ 2000) (h60 : td.length ≤ 60) (htd : ∀ y ∈ td, okT t (n : Int) ps y = true) (hR : clm ps (rwF rows col) T (col : Int) sn td ev had = R) (hct : (col : Int) = t → had = false)
    (hh : had = true → atCl td = true) (hx : nx1 (rwF rows col) (col : Int) (if had = true then sn + 1 else sn) td = some x) :
    clm ps (rwF rows col) T (col : Int) sn (nxT ps td x) (ev ++ [x]) (had || decide (x.1 = 2)) = R ∧ ((60 < (nxT ps td x).length ∨ 2000 < ev.length + 1) → R.1 = 14) ∧ (¬ (60 < (nxT ps td x).length ∨ 2000 < ev.length + 1) → (∃ ta tn tc ea en ec, Wb w0 g t (n : Int) pv rv (col : Int) (nxS (if had = true then sn + 1 else sn) x) ta tn tc ea en ec (nxT ps td x) (ev ++ [x]) w3) → ∃ m, m + (ev.length + 1) = 2001 ∧ TG w0 g t n pv rv col T sn ps rows R w3 m) := by
  have h1 := (clm_act (T := T) hb h60 hx hh (fun e => by rw [if_neg (by rw [e]; decide)]) (ho.pos htd)).symm.trans hR
  refine ⟨h1, fun h2 => ?_, fun h2 ⟨ta, tn, tc, ea, en, ec, hw⟩ => ?_⟩
  · rw [← h1, clm_big (by rw [List.length_append]; simp; omega)]
  · have hs : nxS (if had = true then sn + 1 else sn) x = (if (had || decide (x.1 = 2)) = true then sn + 1 else sn) := by
      unfold nxS
      by_cases h4 : x.1 = 2
      · obtain ⟨a, s, r, e, -, -⟩ := nx1_kind2 hx h4
        have hf : had = false := by cases had with | false => rfl | true => have := hh rfl; rw [e] at this; cases this
        simp [h4, hf]
      · simp [h4]
    rw [hs] at hw
    refine ⟨2000 - ev.length, by omega, _, _, _, _, _, _, _, _, _, hw, by rw [List.length_append]; simp; omega, by omega, by rw [List.length_append]; simp; omega, okT_next ho.bo ho.ro htd hx, h1, fun e => ?_⟩
    rw [hct e, Bool.false_or]
    refine decide_eq_false fun h4 => ?_
    obtain ⟨a, s, r, e2, h5, h6⟩ := nx1_kind2 hx h4
    have := htd (false, a, s) (by rw [e2]; simp)
    unfold okT okSy okN at this
    simp [h5] at this
    omega
set_option maxHeartbeats 6400000 in
set_option maxRecDepth 20000 in
theorem token_any (w0 : World) (g : Nat) (t : Int) (n : Nat) (pv rv : Value) (ps : List Pd) (rows : List (List Int)) (col : Nat) (T sn : Int) (ta : Option Addr) (tn tc : Nat) (ea : Option Addr) (en ec : Nat) (td : List Td) (w : World) (h : Wb w0 g t (n : Int) pv rv (col : Int) sn ta tn tc ea en ec td [] w)
    (ho : Ok w0 t n pv rv ps rows col) (htd : ∀ y ∈ td, okT t (n : Int) ps y = true) (hlen : td.length ≤ 60) (hsn : 0 ≤ sn ∧ sn ≤ 1099511627776) (hct : (col : Int) ≠ t) (hcT : (col : Int) ≠ T) :
    Calls Try.prog 49 #[.pointer (some ⟨g, 0, none⟩)] w fun e w' => TokP w0 g t n pv rv col sn (clm ps (rwF rows col) T (col : Int) sn td [] false) e w' := by
  obtain ⟨R, HR⟩ : ∃ R, Hid (clm ps (rwF rows col) T (col : Int) sn td [] false = R) := ⟨_, (rfl : clm ps (rwF rows col) T (col : Int) sn td [] false = _)⟩
  rw [HR.out]
  have HO : Hid _ := ho
  have HSN : Hid (0 ≤ sn ∧ sn ≤ 1099511627776) := hsn
  have HCT : Hid ((col : Int) ≠ t ∧ (col : Int) ≠ T) := ⟨hct, hcT⟩
  have q6 := tcell_blk h.blk 6
  simp only [List.getElem?_toArray, List.getElem?_cons_zero, List.getElem?_cons_succ] at q6
  have HT0 : Hid (TG w0 g t n pv rv col T sn ps rows R w 2001) := ⟨_, _, _, _, _, _, _, _, false, h, rfl, hlen, by simp, htd, HR.out, fun _ => rfl⟩
  clear h ho htd hlen hsn hct hcT HR
  go_enter Try.func49, Try.ntmps49
  go_upto_region 2 with fail
  clear q6
  go_loopw [4] (fun _ wr => ∃ m, TG w0 g t n pv rv col T sn ps rows R wr m) (fun _ wr => leastOf (TG w0 g t n pv rv col T sn ps rows R wr))
  case atStart => exact ⟨_, HT0.out⟩
  case round =>
    obtain ⟨ra, rn, rc, oa, on, oc, rd, re, had, HWR, HMM, HL1, HL2, HTD, HCR, HHF⟩ := leastOf_holds hrel
    obtain ⟨mm, HMN⟩ : ∃ mm, Hid (leastOf (TG w0 g t n pv rv col T sn ps rows R wr) = mm) := ⟨_, (rfl : leastOf (TG w0 g t n pv rv col T sn ps rows R wr) = _)⟩
    have HM : Hid (mm + re.length = 2001) := by show _ = _; rw [← HMN.out]; exact HMM
    have HA : Hid (rd.length ≤ 60 ∧ re.length ≤ 2000 ∧ (∀ y ∈ rd, okT t (n : Int) ps y = true) ∧ clm ps (rwF rows col) T (col : Int) sn rd re had = R ∧ ((col : Int) = t → had = false)) := ⟨HL1, HL2, HTD, HCR, HHF⟩
    clear hrel HT0 HMM HL1 HL2 HTD HCR HHF
    have HW : Hid _ := HWR
    clear HWR
    have q6 := tcell_blk HW.out.blk 6
    simp only [List.getElem?_toArray, List.getElem?_cons_zero, List.getElem?_cons_succ] at q6
    cases had with
    | false =>
      simp only [Bool.false_eq_true, if_false] at q6
      have hcall := act_any w0 g t n pv ps rv rows col (if false = true then sn + 1 else sn) ra rn rc oa on oc rd re wr HW.out HO.out.pd HO.out.bl HO.out.rw HO.out.rl HO.out.cl HO.out.ro HA.out.2.2.1 HA.out.1 HA.out.2.1 (by have := HSN.out; simp; omega)
      go_wp2_with fail
      refine hcall.mono ?_
      rintro _ w3 ⟨er, rfl, hbel, hcase⟩
      have HB3 : Hid (Below w0.heap.size w0 w3) := hbel
      clear hcall hbel q6
      rcases hcase with ⟨hx, rfl⟩ | ⟨x, hx, hcase⟩
      · have HE : Hid (R.1 = 13) := by
          have := clm_none (ps := ps) (T := T) HA.out.2.1 HA.out.1 hx (fun _ => HCT.out.2)
          simp only [Bool.false_eq_true, if_false] at this
          rw [HA.out.2.2.2.1] at this; exact this
        clear hx
        go_wp2_with fail
        go_ret
        exact ⟨by rw [HE.out]; rfl, HB3.out, fun e => by have := HE.out; omega⟩
      · have HN : Hid _ := TG.next (g := g) (w3 := w3) HO.out HA.out.2.1 HA.out.1 HA.out.2.2.1 HA.out.2.2.2.1 (fun e => absurd e HCT.out.1) (by simp) hx
        rcases hcase with ⟨rfl, h14⟩ | ⟨rfl, h0, hw⟩
        · have HE : Hid (R.1 = 14) := HN.out.2.1 h14
          clear hx h14
          go_wp2_with fail
          go_ret
          exact ⟨by rw [HE.out]; rfl, HB3.out, fun e => by have := HE.out; omega⟩
        · have HG : Hid _ := HN.out.2.2 h0 hw
          clear hx h0 hw
          go_wp2_with fail
          go_roundw
          case rel => obtain ⟨m', -, hg⟩ := HG.out; exact ⟨_, hg⟩
          case measure =>
            obtain ⟨m', h1, hg⟩ := HG.out
            have h2 := leastOf_le hg
            have h3 := HM.out
            rw [HMN.out]
            omega
    | true =>
      simp only [if_true] at q6
      have hne : (sn + 1 == sn) = false := by simp; omega
      have hcl := isAtClose_any w0 g t (n : Int) pv rv (col : Int) _ ra rn rc oa on oc rd re wr HW.out HA.out.1
      go_wp2_with fail
      refine hcl.mono ?_
      rintro _ w2 ⟨rfl, hb2⟩
      have HW2 := HW.out.next hb2
      have HW3 : Hid _ := HW2
      clear hcl hb2 HW2 HW hne q6
      obtain ⟨cl, HCL⟩ : ∃ cl, Hid (atCl rd = cl) := ⟨_, (rfl : atCl rd = _)⟩
      rw [HCL.out]
      cases cl with
      | true =>
        have hcall := act_any w0 g t n pv ps rv rows col (if true = true then sn + 1 else sn) ra rn rc oa on oc rd re w2 HW3.out HO.out.pd HO.out.bl HO.out.rw HO.out.rl HO.out.cl HO.out.ro HA.out.2.2.1 HA.out.1 HA.out.2.1 (by have := HSN.out; simp; omega)
        go_wp2_with fail
        refine hcall.mono ?_
        rintro _ w3 ⟨er, rfl, hbel, hcase⟩
        have HB3 : Hid (Below w0.heap.size w0 w3) := hbel
        clear hcall hbel
        rcases hcase with ⟨hx, rfl⟩ | ⟨x, hx, hcase⟩
        · exact absurd hx (nx1_none_close HCL.out)
        · have HN : Hid _ := TG.next (g := g) (w3 := w3) HO.out HA.out.2.1 HA.out.1 HA.out.2.2.1 HA.out.2.2.2.1 (fun e => absurd e HCT.out.1) (fun _ => HCL.out) hx
          rcases hcase with ⟨rfl, h14⟩ | ⟨rfl, h0, hw⟩
          · have HE : Hid (R.1 = 14) := HN.out.2.1 h14
            clear hx h14
            go_wp2_with fail
            go_ret
            exact ⟨by rw [HE.out]; rfl, HB3.out, fun e => by have := HE.out; omega⟩
          · have HG : Hid _ := HN.out.2.2 h0 hw
            clear hx h0 hw
            go_wp2_with fail
            go_roundw
            case rel => obtain ⟨m', -, hg⟩ := HG.out; exact ⟨_, hg⟩
            case measure =>
              obtain ⟨m', h1, hg⟩ := HG.out
              have h2 := leastOf_le hg
              have h3 := HM.out
              rw [HMN.out]
              omega
      | false =>
        have HE : Hid (R = (0, rd, re, true)) := by
          have := clm_done (ps := ps) (rw := rwF rows col) (T := T) (col := (col : Int)) (sn := sn) HA.out.2.1 HA.out.1 HCL.out
          rw [HA.out.2.2.2.1] at this; exact this
        go_wp2_with fail
        go_ret
        rw [HE.out]
        exact ⟨rfl, HW3.out.bel, fun _ => ⟨_, _, _, _, _, _, HW3.out⟩⟩
set_option maxHeartbeats 6400000 in
set_option maxRecDepth 20000 in
theorem end_any (w0 : World) (g : Nat) (t : Int) (n : Nat) (pv rv : Value) (ps : List Pd) (rows : List (List Int)) (col : Nat) (sn : Int) (ta : Option Addr) (tn tc : Nat) (ea : Option Addr) (en ec : Nat) (td : List Td) (w : World) (h : Wb w0 g t (n : Int) pv rv (col : Int) sn ta tn tc ea en ec td [] w)
    (ho : Ok w0 t n pv rv ps rows col) (htd : ∀ y ∈ td, okT t (n : Int) ps y = true) (hlen : td.length ≤ 60) (hsn : 0 ≤ sn ∧ sn ≤ 1099511627776) (hct : (col : Int) = t) :
    Calls Try.prog 51 #[.pointer (some ⟨g, 0, none⟩)] w fun e w' => TokP w0 g t n pv rv col sn (clm ps (rwF rows col) t (col : Int) sn td [] false) e w' := by
  obtain ⟨R, HR⟩ : ∃ R, Hid (clm ps (rwF rows col) t (col : Int) sn td [] false = R) := ⟨_, (rfl : clm ps (rwF rows col) t (col : Int) sn td [] false = _)⟩
  rw [HR.out]
  have HO : Hid _ := ho
  have HSN : Hid (0 ≤ sn ∧ sn ≤ 1099511627776) := hsn
  have HCT : Hid ((col : Int) = t) := hct
  have HT0 : Hid (TG w0 g t n pv rv col t sn ps rows R w 2001) := ⟨_, _, _, _, _, _, _, _, false, h, rfl, hlen, by simp, htd, HR.out, fun _ => rfl⟩
  clear h ho htd hlen hsn hct HR
  go_enter Try.func51, Try.ntmps51
  go_upto_region 1 with fail
  go_loopw [3] (fun _ wr => ∃ m, TG w0 g t n pv rv col t sn ps rows R wr m) (fun _ wr => leastOf (TG w0 g t n pv rv col t sn ps rows R wr))
  case atStart => exact ⟨_, HT0.out⟩
  case round =>
    obtain ⟨ra, rn, rc, oa, on, oc, rd, re, had, HWR, HMM, HL1, HL2, HTD, HCR, HHF⟩ := leastOf_holds hrel
    obtain ⟨mm, HMN⟩ : ∃ mm, Hid (leastOf (TG w0 g t n pv rv col t sn ps rows R wr) = mm) := ⟨_, (rfl : leastOf (TG w0 g t n pv rv col t sn ps rows R wr) = _)⟩
    have HM : Hid (mm + re.length = 2001) := by show _ = _; rw [← HMN.out]; exact HMM
    obtain rfl := HHF HCT.out
    have HA : Hid (rd.length ≤ 60 ∧ re.length ≤ 2000 ∧ (∀ y ∈ rd, okT t (n : Int) ps y = true) ∧ clm ps (rwF rows col) t (col : Int) sn rd re false = R) := ⟨HL1, HL2, HTD, HCR⟩
    clear hrel HT0 HMM HL1 HL2 HTD HCR HHF
    have HW : Hid _ := HWR
    clear HWR
    have q5 := tcell_blk HW.out.blk 5
    simp only [List.getElem?_toArray, List.getElem?_cons_zero, List.getElem?_cons_succ] at q5
    by_cases h0 : rd = []
    · subst h0
      obtain ⟨rfl, -⟩ := HW.out.lens
      have HE : Hid (R = (0, [], re, false)) := by
        have := clm_nil (ps := ps) (rw := rwF rows col) (T := t) (col := (col : Int)) (seen := sn) (had := false) HA.out.2.1
        rw [HA.out.2.2.2, if_neg (by decide), if_pos HCT.out] at this; exact this
      go_wp2_with fail
      go_ret
      rw [HE.out]
      exact ⟨rfl, HW.out.bel, fun _ => ⟨_, _, _, _, _, _, HW.out⟩⟩
    · have hrn := HW.out.lens.1
      have hpos : (0 : Int) < (rn : Int) := by
        have : rd.length ≠ 0 := fun e => h0 (List.length_eq_zero_iff.1 e)
        omega
      have HNE : Hid (rd ≠ []) := h0
      clear hrn h0
      have hcall := act_any w0 g t n pv ps rv rows col (if false = true then sn + 1 else sn) ra rn rc oa on oc rd re wr HW.out HO.out.pd HO.out.bl HO.out.rw HO.out.rl HO.out.cl HO.out.ro HA.out.2.2.1 HA.out.1 HA.out.2.1 (by have := HSN.out; simp; omega)
      go_wp2_with fail
      refine hcall.mono ?_
      rintro _ w3 ⟨er, rfl, hbel, hcase⟩
      have HB3 : Hid (Below w0.heap.size w0 w3) := hbel
      clear hcall hbel q5 hpos
      rcases hcase with ⟨hx, rfl⟩ | ⟨x, hx, hcase⟩
      · have HE : Hid (R.1 = 13) := by
          have := clm_none (ps := ps) (T := t) HA.out.2.1 HA.out.1 hx (fun e => absurd e HNE.out)
          simp only [Bool.false_eq_true, if_false] at this
          rw [HA.out.2.2.2] at this; exact this
        clear hx
        go_wp2_with fail
        go_ret
        exact ⟨by rw [HE.out]; rfl, HB3.out, fun e => by have := HE.out; omega⟩
      · have HN : Hid _ := TG.next (g := g) (w3 := w3) HO.out HA.out.2.1 HA.out.1 HA.out.2.2.1 HA.out.2.2.2 (fun _ => rfl) (by simp) hx
        rcases hcase with ⟨rfl, h14⟩ | ⟨rfl, h0, hw⟩
        · have HE : Hid (R.1 = 14) := HN.out.2.1 h14
          clear hx h14
          go_wp2_with fail
          go_ret
          exact ⟨by rw [HE.out]; rfl, HB3.out, fun e => by have := HE.out; omega⟩
        · have HG : Hid _ := HN.out.2.2 h0 hw
          clear hx h0 hw
          go_wp2_with fail
          go_roundw
          case rel => obtain ⟨m', -, hg⟩ := HG.out; exact ⟨_, hg⟩
          case measure =>
            obtain ⟨m', h1, hg⟩ := HG.out
            have h2 := leastOf_le hg
            have h3 := HM.out
            rw [HMN.out]
            omega
end Go.Proofs.Ytpfehghicaaghaa

namespace Go.Proofs.Ytpfehghicaaghaa
open Go.RowKit
open Cg

/-- What is answered of a climber. -/
structure Cres where
  l : List Td
  sn : Int
  ov : Int
  dn : Bool
  ev : List Ev
  er : Int
def pushR (t : Int) (n : Nat) (ps : List Pd) (rows : List (List Int)) (l : List Td) (sn ov : Int) (dn : Bool) (term : Int) : Cres :=
  if chkC t (n : Int) ps rows l sn ov dn (decide (0 ≤ term) && decide (term < t)) = 0 then
    (if (clm ps (rwF rows term.toNat) t term sn l.reverse [] false).1 = 0 then ⟨(clm ps (rwF rows term.toNat) t term sn l.reverse [] false).2.1.reverse, sn + 1, 0, false, (clm ps (rwF rows term.toNat) t term sn l.reverse [] false).2.2.1, 0⟩ else ⟨[], sn, (clm ps (rwF rows term.toNat) t term sn l.reverse [] false).1, false, [], (clm ps (rwF rows term.toNat) t term sn l.reverse [] false).1⟩)
  else ⟨l, sn, ov, dn, [], chkC t (n : Int) ps rows l sn ov dn (decide (0 ≤ term) && decide (term < t))⟩
def endR (t : Int) (n : Nat) (ps : List Pd) (rows : List (List Int)) (l : List Td) (sn ov : Int) (dn : Bool) : Cres :=
  if chkC t (n : Int) ps rows l sn ov dn true = 0 then
    (if (clm ps (rwF rows t.toNat) t t sn l.reverse [] false).1 = 0 then ⟨[], sn, 0, true, (clm ps (rwF rows t.toNat) t t sn l.reverse [] false).2.2.1, 0⟩ else ⟨[], sn, (clm ps (rwF rows t.toNat) t t sn l.reverse [] false).1, false, [], (clm ps (rwF rows t.toNat) t t sn l.reverse [] false).1⟩)
  else ⟨l, sn, ov, dn, [], chkC t (n : Int) ps rows l sn ov dn true⟩
def ResP (w : World) (r : Cres) (e : Ending) (w' : World) : Prop := ∃ ra rn rc ea en ec, e = .returned (.tuple #[.agg #[.slice ra rn rc, .int .i64 r.sn, .int .i64 r.ov, .bool r.dn], .slice ea en ec, .int .i64 r.er]) ∧ Dq w (.slice ra rn rc) r.l w' ∧ Dn w (.slice ea en ec) r.ev w'
theorem chkR_zero {t n : Int} {ps : List Pd} {rows : List (List Int)} (h : chkR t n ps rows = 0) : chk t n ps = 0 ∧ (rows.length : Int) = n ∧ okRows t ps 0 rows = true := by
  unfold chkR at h
  split at h
  · rename_i h0
    split at h
    · rename_i h1
      split at h
      · rename_i h2; exact ⟨h0, h1, h2⟩
      · omega
    · omega
  · rename_i h0; exact absurd h h0
theorem chkC_zero {t n : Int} {ps : List Pd} {rows : List (List Int)} {l : List Td} {sn ov : Int} {dn ok : Bool} (h : chkC t n ps rows l sn ov dn ok = 0) : chkR t n ps rows = 0 ∧ okC t n ps l sn = true ∧ True ∧ ok = true ∧ ov = 0 ∧ dn = false := by
  unfold chkC at h
  split at h
  · rename_i h0
    split at h
    · rename_i h1
      split at h
      · rename_i h2
        split at h
        · rename_i h3
          split at h
          · omega
          · rename_i h4; exact ⟨h0, h1, trivial, h2, h3, by simpa using h4⟩
        · omega
      · omega
    · omega
  · rename_i h0; exact absurd h h0
theorem okC_zero {t n : Int} {ps : List Pd} {l : List Td} {sn : Int} (h : okC t n ps l sn = true) : (∀ y ∈ l.reverse, okT t n ps y = true) ∧ l.reverse.length ≤ 60 ∧ (0 ≤ sn ∧ sn ≤ 1099511627776) := by
  unfold okC at h
  simp only [Bool.and_eq_true, decide_eq_true_eq] at h
  refine ⟨fun y hy => List.all_eq_true.1 h.2 y (List.mem_reverse.1 hy), by rw [List.length_reverse]; exact h.1.1.1, h.1.1.2, h.1.2⟩
theorem okRows_all {t : Int} {ps : List Pd} : ∀ {rows : List (List Int)} {k : Nat}, okRows t ps k rows = true → ∀ i (hi : i < rows.length), okRow t ps ((k + i : Nat) : Int) rows[i] = true
  | r :: l, k, h, 0, hi => by
    unfold okRows at h
    simp only [Bool.and_eq_true] at h
    simpa using h.1
  | r :: l, k, h, i + 1, hi => by
    unfold okRows at h
    simp only [Bool.and_eq_true] at h
    have := okRows_all h.2 i (by simpa using hi)
    rw [show k + (i + 1) = k + 1 + i by omega]
    simpa using this
theorem Ok.of {w0 : World} {t : Int} {n : Nat} {pv rv : Value} {ps : List Pd} {rows : List (List Int)} {col : Nat} (hp : Pds w0 pv ps) (hr : Rws w0 rv rows) (h : chkR t (n : Int) ps rows = 0) (hc : (col : Int) ≤ t) : Ok w0 t n pv rv ps rows col := by
  obtain ⟨h1, h2, h3⟩ := chkR_zero h
  obtain ⟨-, -, h4⟩ := chk_zero h1
  have hcl : ∀ i (hi : i < rows.length), col < rows[i].length := fun i hi => by
    have := okRows_all h3 i hi
    unfold okRow at this
    simp only [Bool.and_eq_true, decide_eq_true_eq] at this
    omega
  refine ⟨hp, fun z hz => (chkP_zero (h4 _ (List.getElem_mem hz))).1, fun z hz s hs => List.all_eq_true.1 (chkP_zero (h4 _ (List.getElem_mem hz))).2.2 s hs, hr, by omega, hcl, fun m hm hne => ?_⟩
  have hm2 : m < rows.length := by omega
  have e := rwF_at hm2 (hcl m hm2)
  have h5 := okRows_all h3 m hm2
  unfold okRow at h5
  simp only [Bool.and_eq_true] at h5
  have h6 := List.all_eq_true.1 h5.2 _ (List.getElem_mem (hcl m hm2))
  rw [← e] at h6
  unfold okX okP at h6
  simp [hne] at h6
  exact ⟨(rwF rows col (m : Int)).toNat, by omega, by omega⟩
theorem clm_zero_had {ps : List Pd} {rw : Int → Int} {T col sn : Int} (hT : col ≠ T) (td : List Td) (ev : List Ev) (had : Bool) : (clm ps rw T col sn td ev had).1 = 0 → (clm ps rw T col sn td ev had).2.2.2 = true := by
  refine clm_ind (ps := ps) (rw := rw) (col := col) (seen := sn) (Q := fun td ev had => (clm ps rw T col sn td ev had).1 = 0 → (clm ps rw T col sn td ev had).2.2.2 = true) ?_ ?_ ?_ ?_ ?_ ?_ td ev had
  · intro td ev had h e; rw [clm_big h] at e; simp at e
  · intro ev had h e
    rw [clm_nil h] at e ⊢
    split
    · rfl
    · rename_i h1; rw [if_neg h1, if_neg hT] at e; simp at e
  · intro p x r ev had h h2 ih; rw [clm_end h h2]; exact ih
  · intro q s r ev h h2 _; rw [clm_stop h h2]
  · intro q s r ev h h2 h4 ih e
    rw [clm_tok h h2 h4] at e ⊢
    split
    · rename_i h5; rw [if_pos h5] at e; exact ih h5 e
    · rename_i h5; rw [if_neg h5] at e; simp at e
  · intro q s r ev h h2 h4 ih e
    rw [clm_non h h2 h4] at e ⊢
    split
    · rename_i h5; rw [if_pos h5] at e; simp at e
    · rename_i h5; rw [if_neg h5] at e; exact ih (by omega) e
theorem clm_end_had {w0 : World} {n col : Nat} {pv rv : Value} {ps : List Pd} {rows : List (List Int)} {sn : Int} {td : List Td} (htd : ∀ y ∈ td, okT (col : Int) (n : Int) ps y = true) (ho : Ok w0 (col : Int) n pv rv ps rows col) : (clm ps (rwF rows col) (col : Int) (col : Int) sn td [] false).1 = 0 → (clm ps (rwF rows col) (col : Int) (col : Int) sn td [] false).2.2.2 = false := by
  have key : ∀ (td : List Td) (ev : List Ev) (had : Bool), (∀ y ∈ td, okT (col : Int) (n : Int) ps y = true) → had = false → (clm ps (rwF rows col) (col : Int) (col : Int) sn td ev had).1 = 0 → (clm ps (rwF rows col) (col : Int) (col : Int) sn td ev had).2.2.2 = false := by
    refine clm_ind (ps := ps) (rw := rwF rows col) (col := (col : Int)) (seen := sn) (Q := fun td ev had => (∀ y ∈ td, okT (col : Int) (n : Int) ps y = true) → had = false → (clm ps (rwF rows col) (col : Int) (col : Int) sn td ev had).1 = 0 → (clm ps (rwF rows col) (col : Int) (col : Int) sn td ev had).2.2.2 = false) ?_ ?_ ?_ ?_ ?_ ?_
    · intro td ev had h _ _ e; rw [clm_big h] at e; simp at e
    · intro ev had h _ hf _
      rw [clm_nil h, if_neg (by rw [hf]; decide), if_pos rfl]
    · intro p x r ev had h h2 ih hk hf; rw [clm_end h h2]; exact ih (fun y hy => hk y (List.mem_cons_of_mem _ hy)) hf
    · intro q s r ev h h2 _ hf; cases hf
    · intro q s r ev h h2 h4 ih hk _ e
      have := hk (false, q, s) (by simp)
      unfold okT okSy okN at this
      simp [h4] at this
      rw [clm_tok h h2 h4, if_neg (by omega)] at e
      simp at e
    · intro q s r ev h h2 h4 ih hk _ e
      rw [clm_non h h2 h4] at e ⊢
      split
      · rfl
      · rename_i h5
        rw [if_neg h5] at e
        refine ih (by omega) (fun y hy => ?_) rfl e
        have hx : nx1 (rwF rows col) (col : Int) sn ((false, q, s) :: r) = some (1, rwF rows col s.2) := by
          show (if s.1 = 1 then _ else if rwF rows col s.2 = -1 then none else some (1, rwF rows col s.2)) = _
          rw [if_neg h4, if_neg (by omega)]
        have := okT_next ho.bo ho.ro hk hx y
        simp only [nxT, if_true, List.tail_cons] at this
        exact this hy
  exact key td [] false htd rfl
structure RPs (w wr : World) (gw gr : Nat) (ta : Option Addr) (tn tc : Nat) (sn : Int) (ea : Option Addr) (en ec : Nat) (d : Nat → Bool) (x9 x10 x46 x47 x48 x49 x50 x51 x52 x53 x54 x55 x56 x57 x58 : Value) (W : World) : Prop where
  f0 : d 0 = true → x46 = (.pointer (some ⟨gw, 0, none⟩))
  f1 : d 1 = true → x47 = (.pointer (some ⟨gw, 0, none⟩))
  f2 : d 2 = true → x48 = (.pointer (some ⟨gw, 5, none⟩))
  f3 : d 3 = true → x49 = (.slice ta tn tc)
  f4 : d 4 = true → x50 = (.pointer (some ⟨gw, 0, none⟩))
  f5 : d 5 = true → x51 = (.pointer (some ⟨gw, 0, none⟩))
  f6 : d 6 = true → x52 = (.pointer (some ⟨gw, 6, none⟩))
  f7 : d 7 = true → x53 = (.int .i64 sn)
  f8 : d 8 = true → x54 = (.agg #[.slice ta tn tc, .int .i64 sn, .int .i64 0, .bool false])
  f9 : d 9 = true → x55 = (.pointer (some ⟨gw, 0, none⟩))
  f10 : d 10 = true → x56 = (.pointer (some ⟨gw, 0, none⟩))
  f11 : d 11 = true → x57 = (.pointer (some ⟨gw, 7, none⟩))
  f12 : d 12 = true → x58 = (.slice ea en ec)
  f13 : d 13 = true → True
  f14 : d 14 = true → x9 = (.slice ea en ec)
  f15 : d 15 = true → x10 = (.int .i64 0)
  bw : Below w.heap.size w W
  oth : ∀ p : Addr, p.block ≠ gr → W.cell? p = wr.cell? p
  bk : ∀ b, b ≠ gr → W.heap[b]? = wr.heap[b]?
  b0 : d 13 = false → W.heap[gr]? = some (.cells #[.slice none 0 0, .int .i64 0, .int .i64 0, .bool false] 43)
  b1 : d 13 = true → W.heap[gr]? = some (.cells #[.slice ta tn tc, .int .i64 sn, .int .i64 0, .bool false] 43)
structure REn (w wr : World) (gw gr : Nat) (sn : Int) (ea : Option Addr) (en ec : Nat) (d : Nat → Bool) (x7 x8 x35 x36 x37 x38 x39 x40 x41 x42 x43 : Value) (W : World) : Prop where
  f0 : d 0 = true → x35 = (.pointer (some ⟨gw, 0, none⟩))
  f1 : d 1 = true → x36 = (.pointer (some ⟨gw, 0, none⟩))
  f2 : d 2 = true → x37 = (.pointer (some ⟨gw, 6, none⟩))
  f3 : d 3 = true → x38 = (.int .i64 sn)
  f4 : d 4 = true → x39 = (.agg #[.slice none 0 0, .int .i64 sn, .int .i64 0, .bool true])
  f5 : d 5 = true → x40 = (.pointer (some ⟨gw, 0, none⟩))
  f6 : d 6 = true → x41 = (.pointer (some ⟨gw, 0, none⟩))
  f7 : d 7 = true → x42 = (.pointer (some ⟨gw, 7, none⟩))
  f8 : d 8 = true → x43 = (.slice ea en ec)
  f9 : d 9 = true → True
  f10 : d 10 = true → x7 = (.slice ea en ec)
  f11 : d 11 = true → x8 = (.int .i64 0)
  bw : Below w.heap.size w W
  oth : ∀ p : Addr, p.block ≠ gr → W.cell? p = wr.cell? p
  bk : ∀ b, b ≠ gr → W.heap[b]? = wr.heap[b]?
  b0 : d 9 = false → W.heap[gr]? = some (.cells #[.slice none 0 0, .int .i64 0, .int .i64 0, .bool false] 43)
  b1 : d 9 = true → W.heap[gr]? = some (.cells #[.slice none 0 0, .int .i64 sn, .int .i64 0, .bool true] 43)
set_option maxHeartbeats 12000000 in
set_option maxRecDepth 20000 in
theorem Push_any (t : Int) (n : Nat) (pv : Value) (ps : List Pd) (rv : Value) (rows : List (List Int)) (tv : Value) (l : List Td) (sn ov : Int) (dn : Bool) (term : Int) (w : World) (hp : Pds w pv ps) (hr : Rws w rv rows) (ht : Tds w tv l) (hl : l.length ≤ 4398046511104) :
    Calls Try.prog 19 #[.agg #[.int .i64 t, .int .i64 (n : Int), pv], rv, .agg #[tv, .int .i64 sn, .int .i64 ov, .bool dn], .int .i64 term] w fun e w' => ResP w (pushR t n ps rows l sn ov dn term) e w' := by
  have HC0 : Hid _ := Clb.box hp ht t (n : Int) sn ov dn
  have HPV : Hid (Pds w pv ps) := hp
  have HRW : Hid (Rws w rv rows) := hr
  have HTV : Hid (Tds w tv l) := ht
  have HLL : Hid (l.length ≤ 4398046511104) := hl
  obtain ⟨ao, c, rfl, hm, -⟩ := ht
  obtain ⟨po, pc, rfl, hpm, -⟩ := hp
  obtain ⟨ro, rc, rfl, hrm, -⟩ := hr
  clear hl
  have HB1 : Hid (Below w.heap.size w ((((w.alloc (Obj.cells #[.int .i64 t, .int .i64 (n : Int), .slice po ps.length pc] 24)).alloc (Obj.cells #[.slice ao l.length c, .int .i64 sn, .int .i64 ov, .bool dn] 43))).alloc (Obj.cells #[.slice none 0 0, .int .i64 0, .int .i64 0, .bool false] 43))) := (below_alloc2 _ _ _).trans ((below_alloc _ _).mono (below_alloc2 _ _ _).size)
  have HC1 : Hid _ := HC0.out.next (below_alloc _ (Obj.cells #[.slice none 0 0, .int .i64 0, .int .i64 0, .bool false] 43))
  have HN1 : Hid ((((w.alloc (Obj.cells #[.int .i64 t, .int .i64 (n : Int), .slice po ps.length pc] 24)).alloc (Obj.cells #[.slice ao l.length c, .int .i64 sn, .int .i64 ov, .bool dn] 43)).alloc (Obj.cells #[.slice none 0 0, .int .i64 0, .int .i64 0, .bool false] 43)).heap[w.heap.size + 1 + 1]? = some (.cells #[.slice none 0 0, .int .i64 0, .int .i64 0, .bool false] 43)) := by
    have := heap_alloc_new ((w.alloc (Obj.cells #[.int .i64 t, .int .i64 (n : Int), .slice po ps.length pc] 24)).alloc (Obj.cells #[.slice ao l.length c, .int .i64 sn, .int .i64 ov, .bool dn] 43)) (Obj.cells #[.slice none 0 0, .int .i64 0, .int .i64 0, .bool false] 43)
    show _ = _
    simpa using this
  clear HC0
  obtain ⟨X, HXX⟩ : ∃ X, Hid (pushR t n ps rows l sn ov dn term = X) := ⟨_, rfl⟩
  rw [HXX.out]
  go_enter Try.func19, Try.ntmps19
  go_upto_region 1 with fail
  generalize (((w.alloc (Obj.cells #[.int .i64 t, .int .i64 (n : Int), .slice po ps.length pc] 24)).alloc (Obj.cells #[.slice ao l.length c, .int .i64 sn, .int .i64 ov, .bool dn] 43))).alloc (Obj.cells #[.slice none 0 0, .int .i64 0, .int .i64 0, .bool false] 43) = w1 at HC1 HN1 HB1 ⊢
  obtain ⟨g, HG⟩ : ∃ g, Hid (w.heap.size = g) := ⟨_, (rfl : w.heap.size = w.heap.size)⟩
  rw [HG.out] at HC1 HN1 ⊢
  obtain ⟨okb, HOK⟩ : ∃ okb, Hid ((decide (0 ≤ term) && decide (term < t)) = okb) := ⟨_, rfl⟩
  have hcall := clmCheck_any t (n : Int) (.slice po ps.length pc) ps (.slice ro rows.length rc) rows (.slice ao l.length c) l sn ov dn okb w1 HC1.out.gb.pds (HRW.out.below HB1.out) HC1.out.td
  obtain ⟨ce, HCE⟩ : ∃ ce, Hid (chkC t (n : Int) ps rows l sn ov dn okb = ce) := ⟨_, rfl⟩
  rw [HCE.out] at hcall
  have z0 := HC1.out.gb.c0
  have z1 := HC1.out.gb.c1
  have z2 := HC1.out.gb.c2
  have q0 := tcell_blk HC1.out.c 0
  have q1 := tcell_blk HC1.out.c 1
  have q2 := tcell_blk HC1.out.c 2
  have q3 := tcell_blk HC1.out.c 3
  simp only [List.getElem?_toArray, List.getElem?_cons_zero, List.getElem?_cons_succ] at q0 q1 q2 q3
  by_cases a1 : 0 ≤ term
  · by_cases a2 : term < t
    · obtain rfl : okb = true := by rw [← HOK.out]; simp [a1, a2]
      go_wp2_with fail
      clear a1 a2
      refine hcall.mono ?_
      rintro _ w2 ⟨rfl, hb2⟩
      have HC2 : Hid (Clb w g (g + 1) t (n : Int) (.slice po ps.length pc) ps (.slice ao l.length c) l sn ov dn w2) := HC1.out.next hb2
      have HN2 : Hid (w2.heap[g + 1 + 1]? = some (.cells #[.slice none 0 0, .int .i64 0, .int .i64 0, .bool false] 43)) := tbox_next HN1.out hb2
      clear hcall hb2 z0 z1 z2 q0 q1 q2 q3 HC1 HN1 HB1
      by_cases hce : ce = 0
      · subst hce
        have HZ : Hid _ := chkC_zero HCE.out
        obtain ⟨col, rfl⟩ : ∃ col : Nat, term = (col : Int) := ⟨term.toNat, by have := HOK.out; simp at this; omega⟩
        have HTM : Hid ((col : Int) < t) := by show (col : Int) < t; have := HOK.out; simp at this; exact this
        obtain ⟨hz1, hz2, hz3, -, hz5, hz6⟩ := HZ.out
        subst hz5 hz6
        have HOKW : Hid (Ok w2 t n (.slice po ps.length pc) (.slice ro rows.length rc) ps rows col) := Ok.of (HPV.out.below HC2.out.gb.below) (HRW.out.below HC2.out.gb.below) hz1 (by have := HTM.out; omega)
        have HKT : Hid ((∀ y ∈ l.reverse, okT t (n : Int) ps y = true) ∧ l.reverse.length ≤ 60 ∧ (0 ≤ sn ∧ sn ≤ 1099511627776)) := okC_zero hz2
        have HL60 : Hid (l.length ≤ 60) := by show _ ≤ _; have := HKT.out.2.1; simpa using this
        clear hz1 hz2 hz3
        have hcall := wayBegin_any t (n : Int) (.slice po ps.length pc) ps (.slice ro rows.length rc) rows (.slice ao l.length c) l sn 0 false (col : Int) w2 HC2.out.gb.pds (HRW.out.below HC2.out.gb.below) HC2.out.td HL60.out
        have z0 := HC2.out.gb.c0
        have z1 := HC2.out.gb.c1
        have z2 := HC2.out.gb.c2
        have q0 := tcell_blk HC2.out.c 0
        have q1 := tcell_blk HC2.out.c 1
        have q2 := tcell_blk HC2.out.c 2
        have q3 := tcell_blk HC2.out.c 3
        simp only [List.getElem?_toArray, List.getElem?_cons_zero, List.getElem?_cons_succ] at q0 q1 q2 q3
        go_wp2_with fail
        refine hcall.mono ?_
        rintro _ w3 ⟨gw, ua, un, uc, rfl, hwb⟩
        have HWB : Hid _ := hwb
        clear hcall hwb z0 z1 z2 q0 q1 q2 q3
        have hcall := token_any w2 gw t n _ _ ps rows col t sn ua un uc none 0 0 l.reverse w3 HWB.out HOKW.out HKT.out.1 HKT.out.2.1 HKT.out.2.2 (by have := HTM.out; omega) (by have := HTM.out; omega)
        obtain ⟨R, HRR⟩ : ∃ R, Hid (clm ps (rwF rows col) t (col : Int) sn l.reverse [] false = R) := ⟨_, rfl⟩
        rw [HRR.out] at hcall
        have HXR : Hid (X = if R.1 = 0 then ⟨R.2.1.reverse, sn + 1, 0, false, R.2.2.1, 0⟩ else ⟨[], sn, R.1, false, [], R.1⟩) := by
          show _ = _
          rw [← HXX.out]
          unfold pushR
          rw [HOK.out, HCE.out, if_pos rfl, Int.toNat_natCast, HRR.out]
        have HRH : Hid (R.1 = 0 → R.2.2.2 = true) := by
          rw [← HRR.out]
          exact clm_zero_had (by have := HTM.out; omega) _ _ _
        clear HXX HRR
        go_wp2_with fail
        refine hcall.mono ?_
        rintro _ w4 ⟨rfl, hb4, hw4⟩
        have HB4 : Hid (Below w.heap.size w w4) := HC2.out.gb.below.trans (hb4.mono HC2.out.gb.below.size)
        have HN4 : Hid (w4.heap[g + 1 + 1]? = some (.cells #[.slice none 0 0, .int .i64 0, .int .i64 0, .bool false] 43)) := tbox_next HN2.out hb4
        have HC4 : Hid _ := HC2.out.next hb4
        clear hcall hb4
        by_cases hr0 : R.1 = 0
        · have HWW : Hid _ := hw4 hr0
          clear hw4
          obtain ⟨ta, tn, tc, ea, en, ec, hw⟩ := HWW.out
          rw [HRH.out hr0] at hw
          obtain ⟨snw, HSW⟩ : ∃ snw, Hid (sn + 1 = snw) := ⟨_, rfl⟩
          have HW : Hid (Wb w2 gw t (n : Int) (.slice po ps.length pc) (.slice ro rows.length rc) (col : Int) snw ta tn tc ea en ec R.2.1 R.2.2.1 w4) := by
            have h5 := hw
            simp only [if_true] at h5
            rw [HSW.out] at h5; exact h5
          clear hw HWW
          have HRES : Hid (X = ⟨R.2.1.reverse, snw, 0, false, R.2.2.1, 0⟩) := by show _ = _; rw [HXR.out, if_pos hr0, HSW.out]
          have hre : (R.1 != 0) = false := by simp [hr0]
          have HG2 : Hid (g + 1 + 1 < w2.heap.size) := heap_lt3 HN2.out
          have HTO9 : Hid _ := HW.out.tq
          have HEO9 : Hid _ := HW.out.eo
          have HTO : Hid (w4.ownsRow w.heap.size 49 4 (.slice ta tn tc) R.2.1.reverse.length (tcd R.2.1.reverse)) := by rw [List.length_reverse]; exact own_less HW.out.tq HC2.out.gb.below.size
          have HEO : Hid (w4.ownsRow w.heap.size 66 2 (.slice ea en ec) R.2.2.1.length (ecs R.2.2.1)) := own_less HW.out.eo HC2.out.gb.below.size
          have q5 := tcell_blk HW.out.blk 5
          have q6 := tcell_blk HW.out.blk 6
          have q7 := tcell_blk HW.out.blk 7
          simp only [List.getElem?_toArray, List.getElem?_cons_zero, List.getElem?_cons_succ] at q5 q6 q7
          have HR7 : Hid (w4.cell? ⟨gw, 5, none⟩ = some (.slice ta tn tc) ∧ w4.cell? ⟨gw, 6, none⟩ = some (.int .i64 snw) ∧ w4.cell? ⟨gw, 7, none⟩ = some (.slice ea en ec)) := ⟨q5, q6, q7⟩
          have HNE : Hid (gw ≠ g + 1 + 1) := by show _ ≠ _; have := HW.out.ge; have := HG2.out; omega
          have HGL : Hid (w.heap.size ≤ g + 1 + 1) := by show _ ≤ _; have := HG.out; omega
          clear q5 q6 q7 HSW
          go_upto_region 9 with fail
          refine wp_region_free mixed (fun a0 d a W => ∃ (x9 x10 x46 x47 x48 x49 x50 x51 x52 x53 x54 x55 x56 x57 x58 : Value), a = (((((((((((((((a0.put (some 9) x9).put (some 10) x10).put (some 46) x46).put (some 47) x47).put (some 48) x48).put (some 49) x49).put (some 50) x50).put (some 51) x51).put (some 52) x52).put (some 53) x53).put (some 54) x54).put (some 55) x55).put (some 56) x56).put (some 57) x57).put (some 58) x58) ∧ Hid (RPs w w4 gw (g + 1 + 1) ta tn tc snw ea en ec d x9 x10 x46 x47 x48 x49 x50 x51 x52 x53 x54 x55 x56 x57 x58 W)) (by kernel_rfl) ⟨(.slice none 0 0), (.int .i64 0), undef, undef, undef, undef, undef, undef, undef, undef, undef, undef, undef, undef, undef, by first | (simp only [Act.put, List.setIfInBounds_toArray, List.set_cons_zero, List.set_cons_succ]; done) | (simp only [Act.put, List.setIfInBounds_toArray, List.set_cons_zero, List.set_cons_succ]; rfl), ?_⟩ ?_ ?_
          · exact ⟨fun h => no_way h, fun h => no_way h, fun h => no_way h, fun h => no_way h, fun h => no_way h, fun h => no_way h, fun h => no_way h, fun h => no_way h, fun h => no_way h, fun h => no_way h, fun h => no_way h, fun h => no_way h, fun h => no_way h, fun _ => trivial, fun h => no_way h, fun h => no_way h, HB4.out.drew, fun _ _ => rfl, fun _ _ => rfl, fun _ => HN4.out, fun h => no_way h⟩
          · simp only [StepAll, and_true]
            refine ⟨?_, ?_, ?_, ?_, ?_, ?_, ?_, ?_, ?_, ?_, ?_, ?_, ?_, ?_, ?_, ?_⟩
            · intro d a W hI hd hdep
              obtain ⟨x9, x10, x46, x47, x48, x49, x50, x51, x52, x53, x54, x55, x56, x57, x58, rfl, hF⟩ := hI
              clear hdep hd
              intro K hK
              simp only [Act.put, List.setIfInBounds_toArray, List.set_cons_zero, List.set_cons_succ]
              go_simp
              refine hK.out _ _ ⟨x9, x10, (.pointer (some ⟨gw, 0, none⟩)), x47, x48, x49, x50, x51, x52, x53, x54, x55, x56, x57, x58, by first | (simp only [Act.put, List.setIfInBounds_toArray, List.set_cons_zero, List.set_cons_succ]; done) | (simp only [Act.put, List.setIfInBounds_toArray, List.set_cons_zero, List.set_cons_succ]; rfl), ?_⟩
              exact ⟨fun _ => rfl, fun h => hF.out.f1 (by simpa using h), fun h => hF.out.f2 (by simpa using h), fun h => hF.out.f3 (by simpa using h), fun h => hF.out.f4 (by simpa using h), fun h => hF.out.f5 (by simpa using h), fun h => hF.out.f6 (by simpa using h), fun h => hF.out.f7 (by simpa using h), fun h => hF.out.f8 (by simpa using h), fun h => hF.out.f9 (by simpa using h), fun h => hF.out.f10 (by simpa using h), fun h => hF.out.f11 (by simpa using h), fun h => hF.out.f12 (by simpa using h), fun h => hF.out.f13 (by simpa using h), fun h => hF.out.f14 (by simpa using h), fun h => hF.out.f15 (by simpa using h), hF.out.bw, hF.out.oth, hF.out.bk, fun h => hF.out.b0 (by simpa using h), fun h => hF.out.b1 (by simpa using h)⟩
            · intro d a W hI hd hdep
              obtain ⟨x9, x10, x46, x47, x48, x49, x50, x51, x52, x53, x54, x55, x56, x57, x58, rfl, hF⟩ := hI
              have hd0 : d 0 = true := dep_of hdep 0 (by kernel_rfl)
              obtain rfl := hF.out.f0 hd0
              clear hdep hd hd0
              intro K hK
              simp only [Act.put, List.setIfInBounds_toArray, List.set_cons_zero, List.set_cons_succ]
              go_simp
              refine hK.out _ _ ⟨x9, x10, (.pointer (some ⟨gw, 0, none⟩)), (.pointer (some ⟨gw, 0, none⟩)), x48, x49, x50, x51, x52, x53, x54, x55, x56, x57, x58, by first | (simp only [Act.put, List.setIfInBounds_toArray, List.set_cons_zero, List.set_cons_succ]; done) | (simp only [Act.put, List.setIfInBounds_toArray, List.set_cons_zero, List.set_cons_succ]; rfl), ?_⟩
              exact ⟨fun h => hF.out.f0 (by simpa using h), fun _ => rfl, fun h => hF.out.f2 (by simpa using h), fun h => hF.out.f3 (by simpa using h), fun h => hF.out.f4 (by simpa using h), fun h => hF.out.f5 (by simpa using h), fun h => hF.out.f6 (by simpa using h), fun h => hF.out.f7 (by simpa using h), fun h => hF.out.f8 (by simpa using h), fun h => hF.out.f9 (by simpa using h), fun h => hF.out.f10 (by simpa using h), fun h => hF.out.f11 (by simpa using h), fun h => hF.out.f12 (by simpa using h), fun h => hF.out.f13 (by simpa using h), fun h => hF.out.f14 (by simpa using h), fun h => hF.out.f15 (by simpa using h), hF.out.bw, hF.out.oth, hF.out.bk, fun h => hF.out.b0 (by simpa using h), fun h => hF.out.b1 (by simpa using h)⟩
            · intro d a W hI hd hdep
              obtain ⟨x9, x10, x46, x47, x48, x49, x50, x51, x52, x53, x54, x55, x56, x57, x58, rfl, hF⟩ := hI
              have hd1 : d 1 = true := dep_of hdep 1 (by kernel_rfl)
              obtain rfl := hF.out.f1 hd1
              clear hdep hd hd1
              intro K hK
              simp only [Act.put, List.setIfInBounds_toArray, List.set_cons_zero, List.set_cons_succ]
              go_simp
              refine hK.out _ _ ⟨x9, x10, x46, (.pointer (some ⟨gw, 0, none⟩)), (.pointer (some ⟨gw, 5, none⟩)), x49, x50, x51, x52, x53, x54, x55, x56, x57, x58, by first | (simp only [Act.put, List.setIfInBounds_toArray, List.set_cons_zero, List.set_cons_succ]; done) | (simp only [Act.put, List.setIfInBounds_toArray, List.set_cons_zero, List.set_cons_succ]; rfl), ?_⟩
              exact ⟨fun h => hF.out.f0 (by simpa using h), fun h => hF.out.f1 (by simpa using h), fun _ => rfl, fun h => hF.out.f3 (by simpa using h), fun h => hF.out.f4 (by simpa using h), fun h => hF.out.f5 (by simpa using h), fun h => hF.out.f6 (by simpa using h), fun h => hF.out.f7 (by simpa using h), fun h => hF.out.f8 (by simpa using h), fun h => hF.out.f9 (by simpa using h), fun h => hF.out.f10 (by simpa using h), fun h => hF.out.f11 (by simpa using h), fun h => hF.out.f12 (by simpa using h), fun h => hF.out.f13 (by simpa using h), fun h => hF.out.f14 (by simpa using h), fun h => hF.out.f15 (by simpa using h), hF.out.bw, hF.out.oth, hF.out.bk, fun h => hF.out.b0 (by simpa using h), fun h => hF.out.b1 (by simpa using h)⟩
            · intro d a W hI hd hdep
              obtain ⟨x9, x10, x46, x47, x48, x49, x50, x51, x52, x53, x54, x55, x56, x57, x58, rfl, hF⟩ := hI
              have hd2 : d 2 = true := dep_of hdep 2 (by kernel_rfl)
              obtain rfl := hF.out.f2 hd2
              have q0 := (hF.out.oth ⟨gw, 5, none⟩ HNE.out).trans HR7.out.1
              clear hdep hd hd2
              intro K hK
              simp only [Act.put, List.setIfInBounds_toArray, List.set_cons_zero, List.set_cons_succ]
              go_simp
              refine hK.out _ _ ⟨x9, x10, x46, x47, (.pointer (some ⟨gw, 5, none⟩)), (.slice ta tn tc), x50, x51, x52, x53, x54, x55, x56, x57, x58, by first | (simp only [Act.put, List.setIfInBounds_toArray, List.set_cons_zero, List.set_cons_succ]; done) | (simp only [Act.put, List.setIfInBounds_toArray, List.set_cons_zero, List.set_cons_succ]; rfl), ?_⟩
              exact ⟨fun h => hF.out.f0 (by simpa using h), fun h => hF.out.f1 (by simpa using h), fun h => hF.out.f2 (by simpa using h), fun _ => rfl, fun h => hF.out.f4 (by simpa using h), fun h => hF.out.f5 (by simpa using h), fun h => hF.out.f6 (by simpa using h), fun h => hF.out.f7 (by simpa using h), fun h => hF.out.f8 (by simpa using h), fun h => hF.out.f9 (by simpa using h), fun h => hF.out.f10 (by simpa using h), fun h => hF.out.f11 (by simpa using h), fun h => hF.out.f12 (by simpa using h), fun h => hF.out.f13 (by simpa using h), fun h => hF.out.f14 (by simpa using h), fun h => hF.out.f15 (by simpa using h), hF.out.bw, hF.out.oth, hF.out.bk, fun h => hF.out.b0 (by simpa using h), fun h => hF.out.b1 (by simpa using h)⟩
            · intro d a W hI hd hdep
              obtain ⟨x9, x10, x46, x47, x48, x49, x50, x51, x52, x53, x54, x55, x56, x57, x58, rfl, hF⟩ := hI
              clear hdep hd
              intro K hK
              simp only [Act.put, List.setIfInBounds_toArray, List.set_cons_zero, List.set_cons_succ]
              go_simp
              refine hK.out _ _ ⟨x9, x10, x46, x47, x48, x49, (.pointer (some ⟨gw, 0, none⟩)), x51, x52, x53, x54, x55, x56, x57, x58, by first | (simp only [Act.put, List.setIfInBounds_toArray, List.set_cons_zero, List.set_cons_succ]; done) | (simp only [Act.put, List.setIfInBounds_toArray, List.set_cons_zero, List.set_cons_succ]; rfl), ?_⟩
              exact ⟨fun h => hF.out.f0 (by simpa using h), fun h => hF.out.f1 (by simpa using h), fun h => hF.out.f2 (by simpa using h), fun h => hF.out.f3 (by simpa using h), fun _ => rfl, fun h => hF.out.f5 (by simpa using h), fun h => hF.out.f6 (by simpa using h), fun h => hF.out.f7 (by simpa using h), fun h => hF.out.f8 (by simpa using h), fun h => hF.out.f9 (by simpa using h), fun h => hF.out.f10 (by simpa using h), fun h => hF.out.f11 (by simpa using h), fun h => hF.out.f12 (by simpa using h), fun h => hF.out.f13 (by simpa using h), fun h => hF.out.f14 (by simpa using h), fun h => hF.out.f15 (by simpa using h), hF.out.bw, hF.out.oth, hF.out.bk, fun h => hF.out.b0 (by simpa using h), fun h => hF.out.b1 (by simpa using h)⟩
            · intro d a W hI hd hdep
              obtain ⟨x9, x10, x46, x47, x48, x49, x50, x51, x52, x53, x54, x55, x56, x57, x58, rfl, hF⟩ := hI
              have hd4 : d 4 = true := dep_of hdep 4 (by kernel_rfl)
              obtain rfl := hF.out.f4 hd4
              clear hdep hd hd4
              intro K hK
              simp only [Act.put, List.setIfInBounds_toArray, List.set_cons_zero, List.set_cons_succ]
              go_simp
              refine hK.out _ _ ⟨x9, x10, x46, x47, x48, x49, (.pointer (some ⟨gw, 0, none⟩)), (.pointer (some ⟨gw, 0, none⟩)), x52, x53, x54, x55, x56, x57, x58, by first | (simp only [Act.put, List.setIfInBounds_toArray, List.set_cons_zero, List.set_cons_succ]; done) | (simp only [Act.put, List.setIfInBounds_toArray, List.set_cons_zero, List.set_cons_succ]; rfl), ?_⟩
              exact ⟨fun h => hF.out.f0 (by simpa using h), fun h => hF.out.f1 (by simpa using h), fun h => hF.out.f2 (by simpa using h), fun h => hF.out.f3 (by simpa using h), fun h => hF.out.f4 (by simpa using h), fun _ => rfl, fun h => hF.out.f6 (by simpa using h), fun h => hF.out.f7 (by simpa using h), fun h => hF.out.f8 (by simpa using h), fun h => hF.out.f9 (by simpa using h), fun h => hF.out.f10 (by simpa using h), fun h => hF.out.f11 (by simpa using h), fun h => hF.out.f12 (by simpa using h), fun h => hF.out.f13 (by simpa using h), fun h => hF.out.f14 (by simpa using h), fun h => hF.out.f15 (by simpa using h), hF.out.bw, hF.out.oth, hF.out.bk, fun h => hF.out.b0 (by simpa using h), fun h => hF.out.b1 (by simpa using h)⟩
            · intro d a W hI hd hdep
              obtain ⟨x9, x10, x46, x47, x48, x49, x50, x51, x52, x53, x54, x55, x56, x57, x58, rfl, hF⟩ := hI
              have hd5 : d 5 = true := dep_of hdep 5 (by kernel_rfl)
              obtain rfl := hF.out.f5 hd5
              clear hdep hd hd5
              intro K hK
              simp only [Act.put, List.setIfInBounds_toArray, List.set_cons_zero, List.set_cons_succ]
              go_simp
              refine hK.out _ _ ⟨x9, x10, x46, x47, x48, x49, x50, (.pointer (some ⟨gw, 0, none⟩)), (.pointer (some ⟨gw, 6, none⟩)), x53, x54, x55, x56, x57, x58, by first | (simp only [Act.put, List.setIfInBounds_toArray, List.set_cons_zero, List.set_cons_succ]; done) | (simp only [Act.put, List.setIfInBounds_toArray, List.set_cons_zero, List.set_cons_succ]; rfl), ?_⟩
              exact ⟨fun h => hF.out.f0 (by simpa using h), fun h => hF.out.f1 (by simpa using h), fun h => hF.out.f2 (by simpa using h), fun h => hF.out.f3 (by simpa using h), fun h => hF.out.f4 (by simpa using h), fun h => hF.out.f5 (by simpa using h), fun _ => rfl, fun h => hF.out.f7 (by simpa using h), fun h => hF.out.f8 (by simpa using h), fun h => hF.out.f9 (by simpa using h), fun h => hF.out.f10 (by simpa using h), fun h => hF.out.f11 (by simpa using h), fun h => hF.out.f12 (by simpa using h), fun h => hF.out.f13 (by simpa using h), fun h => hF.out.f14 (by simpa using h), fun h => hF.out.f15 (by simpa using h), hF.out.bw, hF.out.oth, hF.out.bk, fun h => hF.out.b0 (by simpa using h), fun h => hF.out.b1 (by simpa using h)⟩
            · intro d a W hI hd hdep
              obtain ⟨x9, x10, x46, x47, x48, x49, x50, x51, x52, x53, x54, x55, x56, x57, x58, rfl, hF⟩ := hI
              have hd6 : d 6 = true := dep_of hdep 6 (by kernel_rfl)
              obtain rfl := hF.out.f6 hd6
              have q0 := (hF.out.oth ⟨gw, 6, none⟩ HNE.out).trans HR7.out.2.1
              clear hdep hd hd6
              intro K hK
              simp only [Act.put, List.setIfInBounds_toArray, List.set_cons_zero, List.set_cons_succ]
              go_simp
              refine hK.out _ _ ⟨x9, x10, x46, x47, x48, x49, x50, x51, (.pointer (some ⟨gw, 6, none⟩)), (.int .i64 snw), x54, x55, x56, x57, x58, by first | (simp only [Act.put, List.setIfInBounds_toArray, List.set_cons_zero, List.set_cons_succ]; done) | (simp only [Act.put, List.setIfInBounds_toArray, List.set_cons_zero, List.set_cons_succ]; rfl), ?_⟩
              exact ⟨fun h => hF.out.f0 (by simpa using h), fun h => hF.out.f1 (by simpa using h), fun h => hF.out.f2 (by simpa using h), fun h => hF.out.f3 (by simpa using h), fun h => hF.out.f4 (by simpa using h), fun h => hF.out.f5 (by simpa using h), fun h => hF.out.f6 (by simpa using h), fun _ => rfl, fun h => hF.out.f8 (by simpa using h), fun h => hF.out.f9 (by simpa using h), fun h => hF.out.f10 (by simpa using h), fun h => hF.out.f11 (by simpa using h), fun h => hF.out.f12 (by simpa using h), fun h => hF.out.f13 (by simpa using h), fun h => hF.out.f14 (by simpa using h), fun h => hF.out.f15 (by simpa using h), hF.out.bw, hF.out.oth, hF.out.bk, fun h => hF.out.b0 (by simpa using h), fun h => hF.out.b1 (by simpa using h)⟩
            · intro d a W hI hd hdep
              obtain ⟨x9, x10, x46, x47, x48, x49, x50, x51, x52, x53, x54, x55, x56, x57, x58, rfl, hF⟩ := hI
              have hd3 : d 3 = true := dep_of hdep 3 (by kernel_rfl)
              have hd7 : d 7 = true := dep_of hdep 7 (by kernel_rfl)
              obtain rfl := hF.out.f3 hd3
              obtain rfl := hF.out.f7 hd7
              clear hdep hd hd3 hd7
              intro K hK
              simp only [Act.put, List.setIfInBounds_toArray, List.set_cons_zero, List.set_cons_succ]
              go_simp
              refine hK.out _ _ ⟨x9, x10, x46, x47, x48, (.slice ta tn tc), x50, x51, x52, (.int .i64 snw), (.agg #[.slice ta tn tc, .int .i64 snw, .int .i64 0, .bool false]), x55, x56, x57, x58, by first | (simp only [Act.put, List.setIfInBounds_toArray, List.set_cons_zero, List.set_cons_succ]; done) | (simp only [Act.put, List.setIfInBounds_toArray, List.set_cons_zero, List.set_cons_succ]; rfl), ?_⟩
              exact ⟨fun h => hF.out.f0 (by simpa using h), fun h => hF.out.f1 (by simpa using h), fun h => hF.out.f2 (by simpa using h), fun h => hF.out.f3 (by simpa using h), fun h => hF.out.f4 (by simpa using h), fun h => hF.out.f5 (by simpa using h), fun h => hF.out.f6 (by simpa using h), fun h => hF.out.f7 (by simpa using h), fun _ => rfl, fun h => hF.out.f9 (by simpa using h), fun h => hF.out.f10 (by simpa using h), fun h => hF.out.f11 (by simpa using h), fun h => hF.out.f12 (by simpa using h), fun h => hF.out.f13 (by simpa using h), fun h => hF.out.f14 (by simpa using h), fun h => hF.out.f15 (by simpa using h), hF.out.bw, hF.out.oth, hF.out.bk, fun h => hF.out.b0 (by simpa using h), fun h => hF.out.b1 (by simpa using h)⟩
            · intro d a W hI hd hdep
              obtain ⟨x9, x10, x46, x47, x48, x49, x50, x51, x52, x53, x54, x55, x56, x57, x58, rfl, hF⟩ := hI
              clear hdep hd
              intro K hK
              simp only [Act.put, List.setIfInBounds_toArray, List.set_cons_zero, List.set_cons_succ]
              go_simp
              refine hK.out _ _ ⟨x9, x10, x46, x47, x48, x49, x50, x51, x52, x53, x54, (.pointer (some ⟨gw, 0, none⟩)), x56, x57, x58, by first | (simp only [Act.put, List.setIfInBounds_toArray, List.set_cons_zero, List.set_cons_succ]; done) | (simp only [Act.put, List.setIfInBounds_toArray, List.set_cons_zero, List.set_cons_succ]; rfl), ?_⟩
              exact ⟨fun h => hF.out.f0 (by simpa using h), fun h => hF.out.f1 (by simpa using h), fun h => hF.out.f2 (by simpa using h), fun h => hF.out.f3 (by simpa using h), fun h => hF.out.f4 (by simpa using h), fun h => hF.out.f5 (by simpa using h), fun h => hF.out.f6 (by simpa using h), fun h => hF.out.f7 (by simpa using h), fun h => hF.out.f8 (by simpa using h), fun _ => rfl, fun h => hF.out.f10 (by simpa using h), fun h => hF.out.f11 (by simpa using h), fun h => hF.out.f12 (by simpa using h), fun h => hF.out.f13 (by simpa using h), fun h => hF.out.f14 (by simpa using h), fun h => hF.out.f15 (by simpa using h), hF.out.bw, hF.out.oth, hF.out.bk, fun h => hF.out.b0 (by simpa using h), fun h => hF.out.b1 (by simpa using h)⟩
            · intro d a W hI hd hdep
              obtain ⟨x9, x10, x46, x47, x48, x49, x50, x51, x52, x53, x54, x55, x56, x57, x58, rfl, hF⟩ := hI
              have hd9 : d 9 = true := dep_of hdep 9 (by kernel_rfl)
              obtain rfl := hF.out.f9 hd9
              clear hdep hd hd9
              intro K hK
              simp only [Act.put, List.setIfInBounds_toArray, List.set_cons_zero, List.set_cons_succ]
              go_simp
              refine hK.out _ _ ⟨x9, x10, x46, x47, x48, x49, x50, x51, x52, x53, x54, (.pointer (some ⟨gw, 0, none⟩)), (.pointer (some ⟨gw, 0, none⟩)), x57, x58, by first | (simp only [Act.put, List.setIfInBounds_toArray, List.set_cons_zero, List.set_cons_succ]; done) | (simp only [Act.put, List.setIfInBounds_toArray, List.set_cons_zero, List.set_cons_succ]; rfl), ?_⟩
              exact ⟨fun h => hF.out.f0 (by simpa using h), fun h => hF.out.f1 (by simpa using h), fun h => hF.out.f2 (by simpa using h), fun h => hF.out.f3 (by simpa using h), fun h => hF.out.f4 (by simpa using h), fun h => hF.out.f5 (by simpa using h), fun h => hF.out.f6 (by simpa using h), fun h => hF.out.f7 (by simpa using h), fun h => hF.out.f8 (by simpa using h), fun h => hF.out.f9 (by simpa using h), fun _ => rfl, fun h => hF.out.f11 (by simpa using h), fun h => hF.out.f12 (by simpa using h), fun h => hF.out.f13 (by simpa using h), fun h => hF.out.f14 (by simpa using h), fun h => hF.out.f15 (by simpa using h), hF.out.bw, hF.out.oth, hF.out.bk, fun h => hF.out.b0 (by simpa using h), fun h => hF.out.b1 (by simpa using h)⟩
            · intro d a W hI hd hdep
              obtain ⟨x9, x10, x46, x47, x48, x49, x50, x51, x52, x53, x54, x55, x56, x57, x58, rfl, hF⟩ := hI
              have hd10 : d 10 = true := dep_of hdep 10 (by kernel_rfl)
              obtain rfl := hF.out.f10 hd10
              clear hdep hd hd10
              intro K hK
              simp only [Act.put, List.setIfInBounds_toArray, List.set_cons_zero, List.set_cons_succ]
              go_simp
              refine hK.out _ _ ⟨x9, x10, x46, x47, x48, x49, x50, x51, x52, x53, x54, x55, (.pointer (some ⟨gw, 0, none⟩)), (.pointer (some ⟨gw, 7, none⟩)), x58, by first | (simp only [Act.put, List.setIfInBounds_toArray, List.set_cons_zero, List.set_cons_succ]; done) | (simp only [Act.put, List.setIfInBounds_toArray, List.set_cons_zero, List.set_cons_succ]; rfl), ?_⟩
              exact ⟨fun h => hF.out.f0 (by simpa using h), fun h => hF.out.f1 (by simpa using h), fun h => hF.out.f2 (by simpa using h), fun h => hF.out.f3 (by simpa using h), fun h => hF.out.f4 (by simpa using h), fun h => hF.out.f5 (by simpa using h), fun h => hF.out.f6 (by simpa using h), fun h => hF.out.f7 (by simpa using h), fun h => hF.out.f8 (by simpa using h), fun h => hF.out.f9 (by simpa using h), fun h => hF.out.f10 (by simpa using h), fun _ => rfl, fun h => hF.out.f12 (by simpa using h), fun h => hF.out.f13 (by simpa using h), fun h => hF.out.f14 (by simpa using h), fun h => hF.out.f15 (by simpa using h), hF.out.bw, hF.out.oth, hF.out.bk, fun h => hF.out.b0 (by simpa using h), fun h => hF.out.b1 (by simpa using h)⟩
            · intro d a W hI hd hdep
              obtain ⟨x9, x10, x46, x47, x48, x49, x50, x51, x52, x53, x54, x55, x56, x57, x58, rfl, hF⟩ := hI
              have hd11 : d 11 = true := dep_of hdep 11 (by kernel_rfl)
              obtain rfl := hF.out.f11 hd11
              have q0 := (hF.out.oth ⟨gw, 7, none⟩ HNE.out).trans HR7.out.2.2
              clear hdep hd hd11
              intro K hK
              simp only [Act.put, List.setIfInBounds_toArray, List.set_cons_zero, List.set_cons_succ]
              go_simp
              refine hK.out _ _ ⟨x9, x10, x46, x47, x48, x49, x50, x51, x52, x53, x54, x55, x56, (.pointer (some ⟨gw, 7, none⟩)), (.slice ea en ec), by first | (simp only [Act.put, List.setIfInBounds_toArray, List.set_cons_zero, List.set_cons_succ]; done) | (simp only [Act.put, List.setIfInBounds_toArray, List.set_cons_zero, List.set_cons_succ]; rfl), ?_⟩
              exact ⟨fun h => hF.out.f0 (by simpa using h), fun h => hF.out.f1 (by simpa using h), fun h => hF.out.f2 (by simpa using h), fun h => hF.out.f3 (by simpa using h), fun h => hF.out.f4 (by simpa using h), fun h => hF.out.f5 (by simpa using h), fun h => hF.out.f6 (by simpa using h), fun h => hF.out.f7 (by simpa using h), fun h => hF.out.f8 (by simpa using h), fun h => hF.out.f9 (by simpa using h), fun h => hF.out.f10 (by simpa using h), fun h => hF.out.f11 (by simpa using h), fun _ => rfl, fun h => hF.out.f13 (by simpa using h), fun h => hF.out.f14 (by simpa using h), fun h => hF.out.f15 (by simpa using h), hF.out.bw, hF.out.oth, hF.out.bk, fun h => hF.out.b0 (by simpa using h), fun h => hF.out.b1 (by simpa using h)⟩
            · intro d a W hI hd hdep
              obtain ⟨x9, x10, x46, x47, x48, x49, x50, x51, x52, x53, x54, x55, x56, x57, x58, rfl, hF⟩ := hI
              have hd8 : d 8 = true := dep_of hdep 8 (by kernel_rfl)
              obtain rfl := hF.out.f8 hd8
              have hbt := hF.out.b0 hd
              have p0 := tcell_blk hbt 0
              have f0 := tfrozen_blk hbt 0
              have p1 := tcell_blk hbt 1
              have f1 := tfrozen_blk hbt 1
              have p2 := tcell_blk hbt 2
              have f2 := tfrozen_blk hbt 2
              have p3 := tcell_blk hbt 3
              have f3 := tfrozen_blk hbt 3
              simp only [List.getElem?_toArray, List.getElem?_cons_zero, List.getElem?_cons_succ] at p0 p1 p2 p3
              have hbw := hF.out.bw
              have hoth := hF.out.oth
              have hbk := hF.out.bk
              clear hdep hd hd8
              intro K hK
              simp only [Act.put, List.setIfInBounds_toArray, List.set_cons_zero, List.set_cons_succ]
              go_simp
              rw [← set4_eq]
              refine hK.out _ _ ⟨x9, x10, x46, x47, x48, x49, x50, x51, x52, x53, (.agg #[.slice ta tn tc, .int .i64 snw, .int .i64 0, .bool false]), x55, x56, x57, x58, by first | (simp only [Act.put, List.setIfInBounds_toArray, List.set_cons_zero, List.set_cons_succ]; done) | (simp only [Act.put, List.setIfInBounds_toArray, List.set_cons_zero, List.set_cons_succ]; rfl), ?_⟩
              exact ⟨fun h => hF.out.f0 (by simpa using h), fun h => hF.out.f1 (by simpa using h), fun h => hF.out.f2 (by simpa using h), fun h => hF.out.f3 (by simpa using h), fun h => hF.out.f4 (by simpa using h), fun h => hF.out.f5 (by simpa using h), fun h => hF.out.f6 (by simpa using h), fun h => hF.out.f7 (by simpa using h), fun h => hF.out.f8 (by simpa using h), fun h => hF.out.f9 (by simpa using h), fun h => hF.out.f10 (by simpa using h), fun h => hF.out.f11 (by simpa using h), fun h => hF.out.f12 (by simpa using h), fun _ => trivial, fun h => hF.out.f14 (by simpa using h), fun h => hF.out.f15 (by simpa using h), set4_bel hbw HGL.out, fun p hp => (World.cell?_of_block (set4_other hp)).trans (hoth p hp), fun b hb => (set4_other hb).trans (hbk b hb), fun h => by simp at h, fun _ => set4_blk hbt _ _ _ _⟩
            · intro d a W hI hd hdep
              obtain ⟨x9, x10, x46, x47, x48, x49, x50, x51, x52, x53, x54, x55, x56, x57, x58, rfl, hF⟩ := hI
              have hd12 : d 12 = true := dep_of hdep 12 (by kernel_rfl)
              have hd13 : d 13 = true := dep_of hdep 13 (by kernel_rfl)
              obtain rfl := hF.out.f12 hd12
              clear hdep hd hd12 hd13
              intro K hK
              simp only [Act.put, List.setIfInBounds_toArray, List.set_cons_zero, List.set_cons_succ]
              go_simp
              refine hK.out _ _ ⟨(.slice ea en ec), x10, x46, x47, x48, x49, x50, x51, x52, x53, x54, x55, x56, x57, (.slice ea en ec), by first | (simp only [Act.put, List.setIfInBounds_toArray, List.set_cons_zero, List.set_cons_succ]; done) | (simp only [Act.put, List.setIfInBounds_toArray, List.set_cons_zero, List.set_cons_succ]; rfl), ?_⟩
              exact ⟨fun h => hF.out.f0 (by simpa using h), fun h => hF.out.f1 (by simpa using h), fun h => hF.out.f2 (by simpa using h), fun h => hF.out.f3 (by simpa using h), fun h => hF.out.f4 (by simpa using h), fun h => hF.out.f5 (by simpa using h), fun h => hF.out.f6 (by simpa using h), fun h => hF.out.f7 (by simpa using h), fun h => hF.out.f8 (by simpa using h), fun h => hF.out.f9 (by simpa using h), fun h => hF.out.f10 (by simpa using h), fun h => hF.out.f11 (by simpa using h), fun h => hF.out.f12 (by simpa using h), fun h => hF.out.f13 (by simpa using h), fun _ => rfl, fun h => hF.out.f15 (by simpa using h), hF.out.bw, hF.out.oth, hF.out.bk, fun h => hF.out.b0 (by simpa using h), fun h => hF.out.b1 (by simpa using h)⟩
            · intro d a W hI hd hdep
              obtain ⟨x9, x10, x46, x47, x48, x49, x50, x51, x52, x53, x54, x55, x56, x57, x58, rfl, hF⟩ := hI
              have hd14 : d 14 = true := dep_of hdep 14 (by kernel_rfl)
              obtain rfl := hF.out.f14 hd14
              clear hdep hd hd14
              intro K hK
              simp only [Act.put, List.setIfInBounds_toArray, List.set_cons_zero, List.set_cons_succ]
              go_simp
              refine hK.out _ _ ⟨(.slice ea en ec), (.int .i64 0), x46, x47, x48, x49, x50, x51, x52, x53, x54, x55, x56, x57, x58, by first | (simp only [Act.put, List.setIfInBounds_toArray, List.set_cons_zero, List.set_cons_succ]; done) | (simp only [Act.put, List.setIfInBounds_toArray, List.set_cons_zero, List.set_cons_succ]; rfl), ?_⟩
              exact ⟨fun h => hF.out.f0 (by simpa using h), fun h => hF.out.f1 (by simpa using h), fun h => hF.out.f2 (by simpa using h), fun h => hF.out.f3 (by simpa using h), fun h => hF.out.f4 (by simpa using h), fun h => hF.out.f5 (by simpa using h), fun h => hF.out.f6 (by simpa using h), fun h => hF.out.f7 (by simpa using h), fun h => hF.out.f8 (by simpa using h), fun h => hF.out.f9 (by simpa using h), fun h => hF.out.f10 (by simpa using h), fun h => hF.out.f11 (by simpa using h), fun h => hF.out.f12 (by simpa using h), fun h => hF.out.f13 (by simpa using h), fun h => hF.out.f14 (by simpa using h), fun _ => rfl, hF.out.bw, hF.out.oth, hF.out.bk, fun h => hF.out.b0 (by simpa using h), fun h => hF.out.b1 (by simpa using h)⟩
          · intro d a W hI hall
            obtain ⟨x9, x10, x46, x47, x48, x49, x50, x51, x52, x53, x54, x55, x56, x57, x58, rfl, hF⟩ := hI
            simp only [List.length_cons, List.length_nil] at hall
            obtain rfl := hF.out.f0 (hall 0 (by omega))
            obtain rfl := hF.out.f1 (hall 1 (by omega))
            obtain rfl := hF.out.f2 (hall 2 (by omega))
            obtain rfl := hF.out.f3 (hall 3 (by omega))
            obtain rfl := hF.out.f4 (hall 4 (by omega))
            obtain rfl := hF.out.f5 (hall 5 (by omega))
            obtain rfl := hF.out.f6 (hall 6 (by omega))
            obtain rfl := hF.out.f7 (hall 7 (by omega))
            obtain rfl := hF.out.f8 (hall 8 (by omega))
            obtain rfl := hF.out.f9 (hall 9 (by omega))
            obtain rfl := hF.out.f10 (hall 10 (by omega))
            obtain rfl := hF.out.f11 (hall 11 (by omega))
            obtain rfl := hF.out.f12 (hall 12 (by omega))
            obtain rfl := hF.out.f14 (hall 14 (by omega))
            obtain rfl := hF.out.f15 (hall 15 (by omega))
            have z := hF.out.b1 (hall 13 (by omega))
            have z0 := tcell_blk z 0
            have z1 := tcell_blk z 1
            have z2 := tcell_blk z 2
            have z3 := tcell_blk z 3
            simp only [List.getElem?_toArray, List.getElem?_cons_zero, List.getElem?_cons_succ] at z0 z1 z2 z3
            have HFIN : Hid (Dq w (.slice ta tn tc) (R.2.1.reverse) W ∧ Dn w (.slice ea en ec) R.2.2.1 W) :=
              ⟨⟨town_keep HTO.out fun b hb => hF.out.bk b (own_ne HTO9.out HG2.out b hb), hF.out.bw⟩, ⟨town_keep HEO.out fun b hb => hF.out.bk b (own_ne HEO9.out HG2.out b hb), hF.out.bw⟩⟩
            clear hF hall z
            simp only [Act.put, List.setIfInBounds_toArray, List.set_cons_zero, List.set_cons_succ]
            go_wp2_with fail
            exact bodyPost_ret (v := .tuple #[.agg #[.slice ta tn tc, .int .i64 snw, .int .i64 0, .bool false], .slice ea en ec, .int .i64 0]) (by simp [results, Try.results19, go_sem, z0, z1, z2, z3]) rfl ⟨_, _, _, _, _, _, by rw [HRES.out], by rw [HRES.out]; exact HFIN.out.1, by rw [HRES.out]; exact HFIN.out.2⟩
        · have HRN : Hid (R.1 ≠ 0) := hr0
          have HRES : Hid (X = ⟨[], sn, R.1, false, [], R.1⟩) := by show _ = _; rw [HXR.out, if_neg hr0]
          have hre : (R.1 != 0) = true := by simpa using hr0
          clear hw4 hr0
          generalize R.1 = er at HRES hre HRN ⊢
          have hcall := broken_any (.slice ao l.length c) ⟨_, _, _, rfl⟩ sn 0 er false w4
          have z0 := HC4.out.gb.c0
          have z1 := HC4.out.gb.c1
          have z2 := HC4.out.gb.c2
          have q0 := tcell_blk HC4.out.c 0
          have q1 := tcell_blk HC4.out.c 1
          have q2 := tcell_blk HC4.out.c 2
          have q3 := tcell_blk HC4.out.c 3
          simp only [List.getElem?_toArray, List.getElem?_cons_zero, List.getElem?_cons_succ] at q0 q1 q2 q3
          go_wp2_with fail
          refine hcall.mono ?_
          rintro _ w5 ⟨rfl, hb5⟩
          have BN := tbox_next HN4.out hb5
          have HB5 : Hid (Below w.heap.size w w5) := HB4.out.trans (hb5.mono HB4.out.size)
          clear hcall hb5 z0 z1 z2 q0 q1 q2 q3 hre
          have p0 := tcell_blk BN 0
          have p1 := tcell_blk BN 1
          have p2 := tcell_blk BN 2
          have p3 := tcell_blk BN 3
          have f0 := tfrozen_blk BN 0
          have f1 := tfrozen_blk BN 1
          have f2 := tfrozen_blk BN 2
          have f3 := tfrozen_blk BN 3
          simp only [List.getElem?_toArray, List.getElem?_cons_zero, List.getElem?_cons_succ] at p0 p1 p2 p3
          go_wp2_with fail
          rw [← set4_eq]
          have z := set4_blk BN (.slice none 0 0) (.int .i64 sn) (.int .i64 er) (.bool false)
          have z0 := tcell_blk z 0
          have z1 := tcell_blk z 1
          have z2 := tcell_blk z 2
          have z3 := tcell_blk z 3
          simp only [List.getElem?_toArray, List.getElem?_cons_zero, List.getElem?_cons_succ] at z0 z1 z2 z3
          have HFB : Hid (Below w.heap.size w (set4 w5 (g + 1 + 1) (.slice none 0 0) (.int .i64 sn) (.int .i64 er) (.bool false))) := set4_bel HB5.out (by have := HG.out; omega)
          exact bodyPost_ret (v := .tuple #[.agg #[.slice none 0 0, .int .i64 sn, .int .i64 er, .bool false], .slice none 0 0, .int .i64 er]) (by simp [results, Try.results19, go_sem, z0, z1, z2, z3]) rfl ⟨_, _, _, _, _, _, by rw [HRES.out], by rw [HRES.out]; exact Dq.nil _ HFB.out, by rw [HRES.out]; exact Dn.nil _ HFB.out⟩
      · have HCN : Hid (ce ≠ 0) := hce
        have hne : (ce != 0) = true := by simpa using hce
        obtain rfl : ⟨l, sn, ov, dn, [], ce⟩ = X := by rw [← HXX.out]; unfold pushR; rw [HOK.out, HCE.out, if_neg HCN.out]
        have hcall := asItWas_any (.slice ao l.length c) l sn ov dn w2 HC2.out.td HLL.out
        have z0 := HC2.out.gb.c0
        have z1 := HC2.out.gb.c1
        have z2 := HC2.out.gb.c2
        have q0 := tcell_blk HC2.out.c 0
        have q1 := tcell_blk HC2.out.c 1
        have q2 := tcell_blk HC2.out.c 2
        have q3 := tcell_blk HC2.out.c 3
        simp only [List.getElem?_toArray, List.getElem?_cons_zero, List.getElem?_cons_succ] at q0 q1 q2 q3
        go_wp2_with fail
        refine hcall.mono ?_
        rintro _ w3 ⟨ra, rn, rq, rfl, hd⟩
        have HD : Hid _ := hd
        have BN : w3.heap[g + 1 + 1]? = _ := tbox_next HN2.out hd.bel
        clear hcall hd z0 z1 z2 q0 q1 q2 q3 hne hce
        have p0 := tcell_blk BN 0
        have p1 := tcell_blk BN 1
        have p2 := tcell_blk BN 2
        have p3 := tcell_blk BN 3
        have f0 := tfrozen_blk BN 0
        have f1 := tfrozen_blk BN 1
        have f2 := tfrozen_blk BN 2
        have f3 := tfrozen_blk BN 3
        simp only [List.getElem?_toArray, List.getElem?_cons_zero, List.getElem?_cons_succ] at p0 p1 p2 p3
        go_wp2_with fail
        rw [← set4_eq]
        have z := set4_blk BN (.slice ra rn rq) (.int .i64 sn) (.int .i64 ov) (.bool dn)
        have z0 := tcell_blk z 0
        have z1 := tcell_blk z 1
        have z2 := tcell_blk z 2
        have z3 := tcell_blk z 3
        simp only [List.getElem?_toArray, List.getElem?_cons_zero, List.getElem?_cons_succ] at z0 z1 z2 z3
        have HFB : Hid (Below w.heap.size w (set4 w3 (g + 1 + 1) (.slice ra rn rq) (.int .i64 sn) (.int .i64 ov) (.bool dn))) := set4_bel (HC2.out.gb.below.trans (HD.out.bel.mono HC2.out.gb.below.size)) (by have := HG.out; omega)
        have HFIN : Hid (Dq w (.slice ra rn rq) l (set4 w3 (g + 1 + 1) (.slice ra rn rq) (.int .i64 sn) (.int .i64 ov) (.bool dn))) := by
          refine ⟨?_, HFB.out⟩
          have h2 := heap_lt3 HN2.out
          have := town_keep (w' := set4 w3 (g + 1 + 1) (.slice ra rn rq) (.int .i64 sn) (.int .i64 ov) (.bool dn)) HD.out.own fun b hb => set4_other (own_ne HD.out.own (by omega) b hb)
          exact own_less this HC2.out.gb.below.size
        exact bodyPost_ret (v := .tuple #[.agg #[.slice ra rn rq, .int .i64 sn, .int .i64 ov, .bool dn], .slice none 0 0, .int .i64 ce]) (by simp [results, Try.results19, go_sem, z0, z1, z2, z3]) rfl ⟨_, _, _, _, _, _, rfl, HFIN.out, Dn.nil _ HFB.out⟩
    · obtain rfl : okb = false := by rw [← HOK.out]; simp [a2]
      have hnz : ce ≠ 0 := fun e => by have := (chkC_zero (HCE.out.trans e)).2.2.2.1; cases this
      go_wp2_with fail
      clear a1 a2
      refine hcall.mono ?_
      rintro _ w2 ⟨rfl, hb2⟩
      have HC2 : Hid (Clb w g (g + 1) t (n : Int) (.slice po ps.length pc) ps (.slice ao l.length c) l sn ov dn w2) := HC1.out.next hb2
      have HN2 : Hid (w2.heap[g + 1 + 1]? = some (.cells #[.slice none 0 0, .int .i64 0, .int .i64 0, .bool false] 43)) := tbox_next HN1.out hb2
      clear hcall hb2 z0 z1 z2 q0 q1 q2 q3 HC1 HN1 HB1
      by_cases hce : ce = 0
      · subst hce
        exact absurd rfl hnz
      · have HCN : Hid (ce ≠ 0) := hce
        have hne : (ce != 0) = true := by simpa using hce
        obtain rfl : ⟨l, sn, ov, dn, [], ce⟩ = X := by rw [← HXX.out]; unfold pushR; rw [HOK.out, HCE.out, if_neg HCN.out]
        have hcall := asItWas_any (.slice ao l.length c) l sn ov dn w2 HC2.out.td HLL.out
        have z0 := HC2.out.gb.c0
        have z1 := HC2.out.gb.c1
        have z2 := HC2.out.gb.c2
        have q0 := tcell_blk HC2.out.c 0
        have q1 := tcell_blk HC2.out.c 1
        have q2 := tcell_blk HC2.out.c 2
        have q3 := tcell_blk HC2.out.c 3
        simp only [List.getElem?_toArray, List.getElem?_cons_zero, List.getElem?_cons_succ] at q0 q1 q2 q3
        go_wp2_with fail
        refine hcall.mono ?_
        rintro _ w3 ⟨ra, rn, rq, rfl, hd⟩
        have HD : Hid _ := hd
        have BN : w3.heap[g + 1 + 1]? = _ := tbox_next HN2.out hd.bel
        clear hcall hd z0 z1 z2 q0 q1 q2 q3 hne hce
        have p0 := tcell_blk BN 0
        have p1 := tcell_blk BN 1
        have p2 := tcell_blk BN 2
        have p3 := tcell_blk BN 3
        have f0 := tfrozen_blk BN 0
        have f1 := tfrozen_blk BN 1
        have f2 := tfrozen_blk BN 2
        have f3 := tfrozen_blk BN 3
        simp only [List.getElem?_toArray, List.getElem?_cons_zero, List.getElem?_cons_succ] at p0 p1 p2 p3
        go_wp2_with fail
        rw [← set4_eq]
        have z := set4_blk BN (.slice ra rn rq) (.int .i64 sn) (.int .i64 ov) (.bool dn)
        have z0 := tcell_blk z 0
        have z1 := tcell_blk z 1
        have z2 := tcell_blk z 2
        have z3 := tcell_blk z 3
        simp only [List.getElem?_toArray, List.getElem?_cons_zero, List.getElem?_cons_succ] at z0 z1 z2 z3
        have HFB : Hid (Below w.heap.size w (set4 w3 (g + 1 + 1) (.slice ra rn rq) (.int .i64 sn) (.int .i64 ov) (.bool dn))) := set4_bel (HC2.out.gb.below.trans (HD.out.bel.mono HC2.out.gb.below.size)) (by have := HG.out; omega)
        have HFIN : Hid (Dq w (.slice ra rn rq) l (set4 w3 (g + 1 + 1) (.slice ra rn rq) (.int .i64 sn) (.int .i64 ov) (.bool dn))) := by
          refine ⟨?_, HFB.out⟩
          have h2 := heap_lt3 HN2.out
          have := town_keep (w' := set4 w3 (g + 1 + 1) (.slice ra rn rq) (.int .i64 sn) (.int .i64 ov) (.bool dn)) HD.out.own fun b hb => set4_other (own_ne HD.out.own (by omega) b hb)
          exact own_less this HC2.out.gb.below.size
        exact bodyPost_ret (v := .tuple #[.agg #[.slice ra rn rq, .int .i64 sn, .int .i64 ov, .bool dn], .slice none 0 0, .int .i64 ce]) (by simp [results, Try.results19, go_sem, z0, z1, z2, z3]) rfl ⟨_, _, _, _, _, _, rfl, HFIN.out, Dn.nil _ HFB.out⟩
  · obtain rfl : okb = false := by rw [← HOK.out]; simp [a1]
    have hnz : ce ≠ 0 := fun e => by have := (chkC_zero (HCE.out.trans e)).2.2.2.1; cases this
    go_wp2_with fail
    clear a1
    refine hcall.mono ?_
    rintro _ w2 ⟨rfl, hb2⟩
    have HC2 : Hid (Clb w g (g + 1) t (n : Int) (.slice po ps.length pc) ps (.slice ao l.length c) l sn ov dn w2) := HC1.out.next hb2
    have HN2 : Hid (w2.heap[g + 1 + 1]? = some (.cells #[.slice none 0 0, .int .i64 0, .int .i64 0, .bool false] 43)) := tbox_next HN1.out hb2
    clear hcall hb2 z0 z1 z2 q0 q1 q2 q3 HC1 HN1 HB1
    by_cases hce : ce = 0
    · subst hce
      exact absurd rfl hnz
    · have HCN : Hid (ce ≠ 0) := hce
      have hne : (ce != 0) = true := by simpa using hce
      obtain rfl : ⟨l, sn, ov, dn, [], ce⟩ = X := by rw [← HXX.out]; unfold pushR; rw [HOK.out, HCE.out, if_neg HCN.out]
      have hcall := asItWas_any (.slice ao l.length c) l sn ov dn w2 HC2.out.td HLL.out
      have z0 := HC2.out.gb.c0
      have z1 := HC2.out.gb.c1
      have z2 := HC2.out.gb.c2
      have q0 := tcell_blk HC2.out.c 0
      have q1 := tcell_blk HC2.out.c 1
      have q2 := tcell_blk HC2.out.c 2
      have q3 := tcell_blk HC2.out.c 3
      simp only [List.getElem?_toArray, List.getElem?_cons_zero, List.getElem?_cons_succ] at q0 q1 q2 q3
      go_wp2_with fail
      refine hcall.mono ?_
      rintro _ w3 ⟨ra, rn, rq, rfl, hd⟩
      have HD : Hid _ := hd
      have BN : w3.heap[g + 1 + 1]? = _ := tbox_next HN2.out hd.bel
      clear hcall hd z0 z1 z2 q0 q1 q2 q3 hne hce
      have p0 := tcell_blk BN 0
      have p1 := tcell_blk BN 1
      have p2 := tcell_blk BN 2
      have p3 := tcell_blk BN 3
      have f0 := tfrozen_blk BN 0
      have f1 := tfrozen_blk BN 1
      have f2 := tfrozen_blk BN 2
      have f3 := tfrozen_blk BN 3
      simp only [List.getElem?_toArray, List.getElem?_cons_zero, List.getElem?_cons_succ] at p0 p1 p2 p3
      go_wp2_with fail
      rw [← set4_eq]
      have z := set4_blk BN (.slice ra rn rq) (.int .i64 sn) (.int .i64 ov) (.bool dn)
      have z0 := tcell_blk z 0
      have z1 := tcell_blk z 1
      have z2 := tcell_blk z 2
      have z3 := tcell_blk z 3
      simp only [List.getElem?_toArray, List.getElem?_cons_zero, List.getElem?_cons_succ] at z0 z1 z2 z3
      have HFB : Hid (Below w.heap.size w (set4 w3 (g + 1 + 1) (.slice ra rn rq) (.int .i64 sn) (.int .i64 ov) (.bool dn))) := set4_bel (HC2.out.gb.below.trans (HD.out.bel.mono HC2.out.gb.below.size)) (by have := HG.out; omega)
      have HFIN : Hid (Dq w (.slice ra rn rq) l (set4 w3 (g + 1 + 1) (.slice ra rn rq) (.int .i64 sn) (.int .i64 ov) (.bool dn))) := by
        refine ⟨?_, HFB.out⟩
        have h2 := heap_lt3 HN2.out
        have := town_keep (w' := set4 w3 (g + 1 + 1) (.slice ra rn rq) (.int .i64 sn) (.int .i64 ov) (.bool dn)) HD.out.own fun b hb => set4_other (own_ne HD.out.own (by omega) b hb)
        exact own_less this HC2.out.gb.below.size
      exact bodyPost_ret (v := .tuple #[.agg #[.slice ra rn rq, .int .i64 sn, .int .i64 ov, .bool dn], .slice none 0 0, .int .i64 ce]) (by simp [results, Try.results19, go_sem, z0, z1, z2, z3]) rfl ⟨_, _, _, _, _, _, rfl, HFIN.out, Dn.nil _ HFB.out⟩
set_option maxHeartbeats 12000000 in
set_option maxRecDepth 20000 in
theorem End_any (t : Int) (n : Nat) (pv : Value) (ps : List Pd) (rv : Value) (rows : List (List Int)) (tv : Value) (l : List Td) (sn ov : Int) (dn : Bool) (w : World) (hp : Pds w pv ps) (hr : Rws w rv rows) (ht : Tds w tv l) (hl : l.length ≤ 4398046511104) :
    Calls Try.prog 20 #[.agg #[.int .i64 t, .int .i64 (n : Int), pv], rv, .agg #[tv, .int .i64 sn, .int .i64 ov, .bool dn]] w fun e w' => ResP w (endR t n ps rows l sn ov dn) e w' := by
  have HC0 : Hid _ := Clb.box hp ht t (n : Int) sn ov dn
  have HPV : Hid (Pds w pv ps) := hp
  have HRW : Hid (Rws w rv rows) := hr
  have HTV : Hid (Tds w tv l) := ht
  have HLL : Hid (l.length ≤ 4398046511104) := hl
  obtain ⟨ao, c, rfl, hm, -⟩ := ht
  obtain ⟨po, pc, rfl, hpm, -⟩ := hp
  obtain ⟨ro, rc, rfl, hrm, -⟩ := hr
  clear hl
  have HB1 : Hid (Below w.heap.size w ((((w.alloc (Obj.cells #[.int .i64 t, .int .i64 (n : Int), .slice po ps.length pc] 24)).alloc (Obj.cells #[.slice ao l.length c, .int .i64 sn, .int .i64 ov, .bool dn] 43))).alloc (Obj.cells #[.slice none 0 0, .int .i64 0, .int .i64 0, .bool false] 43))) := (below_alloc2 _ _ _).trans ((below_alloc _ _).mono (below_alloc2 _ _ _).size)
  have HC1 : Hid _ := HC0.out.next (below_alloc _ (Obj.cells #[.slice none 0 0, .int .i64 0, .int .i64 0, .bool false] 43))
  have HN1 : Hid ((((w.alloc (Obj.cells #[.int .i64 t, .int .i64 (n : Int), .slice po ps.length pc] 24)).alloc (Obj.cells #[.slice ao l.length c, .int .i64 sn, .int .i64 ov, .bool dn] 43)).alloc (Obj.cells #[.slice none 0 0, .int .i64 0, .int .i64 0, .bool false] 43)).heap[w.heap.size + 1 + 1]? = some (.cells #[.slice none 0 0, .int .i64 0, .int .i64 0, .bool false] 43)) := by
    have := heap_alloc_new ((w.alloc (Obj.cells #[.int .i64 t, .int .i64 (n : Int), .slice po ps.length pc] 24)).alloc (Obj.cells #[.slice ao l.length c, .int .i64 sn, .int .i64 ov, .bool dn] 43)) (Obj.cells #[.slice none 0 0, .int .i64 0, .int .i64 0, .bool false] 43)
    show _ = _
    simpa using this
  clear HC0
  obtain ⟨X, HXX⟩ : ∃ X, Hid (endR t n ps rows l sn ov dn = X) := ⟨_, rfl⟩
  rw [HXX.out]
  go_enter Try.func20, Try.ntmps20
  go_upto_region 1 with fail
  generalize (((w.alloc (Obj.cells #[.int .i64 t, .int .i64 (n : Int), .slice po ps.length pc] 24)).alloc (Obj.cells #[.slice ao l.length c, .int .i64 sn, .int .i64 ov, .bool dn] 43))).alloc (Obj.cells #[.slice none 0 0, .int .i64 0, .int .i64 0, .bool false] 43) = w1 at HC1 HN1 HB1 ⊢
  obtain ⟨g, HG⟩ : ∃ g, Hid (w.heap.size = g) := ⟨_, (rfl : w.heap.size = w.heap.size)⟩
  rw [HG.out] at HC1 HN1 ⊢
  have hcall := clmCheck_any t (n : Int) (.slice po ps.length pc) ps (.slice ro rows.length rc) rows (.slice ao l.length c) l sn ov dn true w1 HC1.out.gb.pds (HRW.out.below HB1.out) HC1.out.td
  obtain ⟨ce, HCE⟩ : ∃ ce, Hid (chkC t (n : Int) ps rows l sn ov dn true = ce) := ⟨_, rfl⟩
  rw [HCE.out] at hcall
  have z0 := HC1.out.gb.c0
  have z1 := HC1.out.gb.c1
  have z2 := HC1.out.gb.c2
  have q0 := tcell_blk HC1.out.c 0
  have q1 := tcell_blk HC1.out.c 1
  have q2 := tcell_blk HC1.out.c 2
  have q3 := tcell_blk HC1.out.c 3
  simp only [List.getElem?_toArray, List.getElem?_cons_zero, List.getElem?_cons_succ] at q0 q1 q2 q3
  go_wp2_with fail
  refine hcall.mono ?_
  rintro _ w2 ⟨rfl, hb2⟩
  have HC2 : Hid (Clb w g (g + 1) t (n : Int) (.slice po ps.length pc) ps (.slice ao l.length c) l sn ov dn w2) := HC1.out.next hb2
  have HN2 : Hid (w2.heap[g + 1 + 1]? = some (.cells #[.slice none 0 0, .int .i64 0, .int .i64 0, .bool false] 43)) := tbox_next HN1.out hb2
  clear hcall hb2 z0 z1 z2 q0 q1 q2 q3 HC1 HN1 HB1
  by_cases hce : ce = 0
  · subst hce
    have HZ : Hid _ := chkC_zero HCE.out
    obtain ⟨col, rfl⟩ : ∃ col : Nat, t = (col : Int) := ⟨t.toNat, by have := (okTN_le (chk_zero (chkR_zero HZ.out.1).1).1); omega⟩
    obtain ⟨hz1, hz2, hz3, -, hz5, hz6⟩ := HZ.out
    subst hz5 hz6
    have HOKW : Hid (Ok w2 (col : Int) n (.slice po ps.length pc) (.slice ro rows.length rc) ps rows col) := Ok.of (HPV.out.below HC2.out.gb.below) (HRW.out.below HC2.out.gb.below) hz1 (by omega)
    have HKT : Hid ((∀ y ∈ l.reverse, okT (col : Int) (n : Int) ps y = true) ∧ l.reverse.length ≤ 60 ∧ (0 ≤ sn ∧ sn ≤ 1099511627776)) := okC_zero hz2
    have HL60 : Hid (l.length ≤ 60) := by show _ ≤ _; have := HKT.out.2.1; simpa using this
    clear hz1 hz2 hz3
    have hcall := wayBegin_any (col : Int) (n : Int) (.slice po ps.length pc) ps (.slice ro rows.length rc) rows (.slice ao l.length c) l sn 0 false (col : Int) w2 HC2.out.gb.pds (HRW.out.below HC2.out.gb.below) HC2.out.td HL60.out
    have z0 := HC2.out.gb.c0
    have z1 := HC2.out.gb.c1
    have z2 := HC2.out.gb.c2
    have q0 := tcell_blk HC2.out.c 0
    have q1 := tcell_blk HC2.out.c 1
    have q2 := tcell_blk HC2.out.c 2
    have q3 := tcell_blk HC2.out.c 3
    simp only [List.getElem?_toArray, List.getElem?_cons_zero, List.getElem?_cons_succ] at q0 q1 q2 q3
    go_wp2_with fail
    refine hcall.mono ?_
    rintro _ w3 ⟨gw, ua, un, uc, rfl, hwb⟩
    have HWB : Hid _ := hwb
    clear hcall hwb z0 z1 z2 q0 q1 q2 q3
    have hcall := end_any w2 gw (col : Int) n _ _ ps rows col sn ua un uc none 0 0 l.reverse w3 HWB.out HOKW.out HKT.out.1 HKT.out.2.1 HKT.out.2.2 rfl
    obtain ⟨R, HRR⟩ : ∃ R, Hid (clm ps (rwF rows col) (col : Int) (col : Int) sn l.reverse [] false = R) := ⟨_, rfl⟩
    rw [HRR.out] at hcall
    have HXR : Hid (X = if R.1 = 0 then ⟨[], sn, 0, true, R.2.2.1, 0⟩ else ⟨[], sn, R.1, false, [], R.1⟩) := by
      show _ = _
      rw [← HXX.out]
      unfold endR
      rw [HCE.out, if_pos rfl, Int.toNat_natCast, HRR.out]
    have HRH : Hid (R.1 = 0 → R.2.2.2 = false) := by
      rw [← HRR.out]
      exact clm_end_had (fun y hy => HKT.out.1 y hy) HOKW.out
    clear HXX HRR
    go_wp2_with fail
    refine hcall.mono ?_
    rintro _ w4 ⟨rfl, hb4, hw4⟩
    have HB4 : Hid (Below w.heap.size w w4) := HC2.out.gb.below.trans (hb4.mono HC2.out.gb.below.size)
    have HN4 : Hid (w4.heap[g + 1 + 1]? = some (.cells #[.slice none 0 0, .int .i64 0, .int .i64 0, .bool false] 43)) := tbox_next HN2.out hb4
    have HC4 : Hid _ := HC2.out.next hb4
    clear hcall hb4
    by_cases hr0 : R.1 = 0
    · have HWW : Hid _ := hw4 hr0
      clear hw4
      obtain ⟨ta, tn, tc, ea, en, ec, hw⟩ := HWW.out
      rw [HRH.out hr0] at hw
      obtain ⟨snw, HSW⟩ : ∃ snw, Hid (sn = snw) := ⟨_, rfl⟩
      have HW : Hid (Wb w2 gw (col : Int) (n : Int) (.slice po ps.length pc) (.slice ro rows.length rc) (col : Int) snw ta tn tc ea en ec R.2.1 R.2.2.1 w4) := by
        have h5 := hw
        simp only [Bool.false_eq_true, if_false] at h5
        rw [HSW.out] at h5; exact h5
      clear hw HWW
      have HRES : Hid (X = ⟨[], snw, 0, true, R.2.2.1, 0⟩) := by show _ = _; rw [HXR.out, if_pos hr0, HSW.out]
      have hre : (R.1 != 0) = false := by simp [hr0]
      have HG2 : Hid (g + 1 + 1 < w2.heap.size) := heap_lt3 HN2.out
      have HTO9 : Hid _ := HW.out.tq
      have HEO9 : Hid _ := HW.out.eo
      have HTO : Hid (w4.ownsRow w.heap.size 49 4 (.slice ta tn tc) R.2.1.reverse.length (tcd R.2.1.reverse)) := by rw [List.length_reverse]; exact own_less HW.out.tq HC2.out.gb.below.size
      have HEO : Hid (w4.ownsRow w.heap.size 66 2 (.slice ea en ec) R.2.2.1.length (ecs R.2.2.1)) := own_less HW.out.eo HC2.out.gb.below.size
      have q5 := tcell_blk HW.out.blk 5
      have q6 := tcell_blk HW.out.blk 6
      have q7 := tcell_blk HW.out.blk 7
      simp only [List.getElem?_toArray, List.getElem?_cons_zero, List.getElem?_cons_succ] at q5 q6 q7
      have HR7 : Hid (w4.cell? ⟨gw, 5, none⟩ = some (.slice ta tn tc) ∧ w4.cell? ⟨gw, 6, none⟩ = some (.int .i64 snw) ∧ w4.cell? ⟨gw, 7, none⟩ = some (.slice ea en ec)) := ⟨q5, q6, q7⟩
      have HNE : Hid (gw ≠ g + 1 + 1) := by show _ ≠ _; have := HW.out.ge; have := HG2.out; omega
      have HGL : Hid (w.heap.size ≤ g + 1 + 1) := by show _ ≤ _; have := HG.out; omega
      clear q5 q6 q7 HSW
      go_upto_region 8 with fail
      refine wp_region_free mixed (fun a0 d a W => ∃ (x7 x8 x35 x36 x37 x38 x39 x40 x41 x42 x43 : Value), a = (((((((((((a0.put (some 7) x7).put (some 8) x8).put (some 35) x35).put (some 36) x36).put (some 37) x37).put (some 38) x38).put (some 39) x39).put (some 40) x40).put (some 41) x41).put (some 42) x42).put (some 43) x43) ∧ Hid (REn w w4 gw (g + 1 + 1) snw ea en ec d x7 x8 x35 x36 x37 x38 x39 x40 x41 x42 x43 W)) (by kernel_rfl) ⟨(.slice none 0 0), (.int .i64 0), undef, undef, undef, undef, undef, undef, undef, undef, undef, by first | (simp only [Act.put, List.setIfInBounds_toArray, List.set_cons_zero, List.set_cons_succ]; done) | (simp only [Act.put, List.setIfInBounds_toArray, List.set_cons_zero, List.set_cons_succ]; rfl), ?_⟩ ?_ ?_
      · exact ⟨fun h => no_way h, fun h => no_way h, fun h => no_way h, fun h => no_way h, fun h => no_way h, fun h => no_way h, fun h => no_way h, fun h => no_way h, fun h => no_way h, fun _ => trivial, fun h => no_way h, fun h => no_way h, HB4.out.drew, fun _ _ => rfl, fun _ _ => rfl, fun _ => HN4.out, fun h => no_way h⟩
      · simp only [StepAll, and_true]
        refine ⟨?_, ?_, ?_, ?_, ?_, ?_, ?_, ?_, ?_, ?_, ?_, ?_⟩
        · intro d a W hI hd hdep
          obtain ⟨x7, x8, x35, x36, x37, x38, x39, x40, x41, x42, x43, rfl, hF⟩ := hI
          clear hdep hd
          intro K hK
          simp only [Act.put, List.setIfInBounds_toArray, List.set_cons_zero, List.set_cons_succ]
          go_simp
          refine hK.out _ _ ⟨x7, x8, (.pointer (some ⟨gw, 0, none⟩)), x36, x37, x38, x39, x40, x41, x42, x43, by first | (simp only [Act.put, List.setIfInBounds_toArray, List.set_cons_zero, List.set_cons_succ]; done) | (simp only [Act.put, List.setIfInBounds_toArray, List.set_cons_zero, List.set_cons_succ]; rfl), ?_⟩
          exact ⟨fun _ => rfl, fun h => hF.out.f1 (by simpa using h), fun h => hF.out.f2 (by simpa using h), fun h => hF.out.f3 (by simpa using h), fun h => hF.out.f4 (by simpa using h), fun h => hF.out.f5 (by simpa using h), fun h => hF.out.f6 (by simpa using h), fun h => hF.out.f7 (by simpa using h), fun h => hF.out.f8 (by simpa using h), fun h => hF.out.f9 (by simpa using h), fun h => hF.out.f10 (by simpa using h), fun h => hF.out.f11 (by simpa using h), hF.out.bw, hF.out.oth, hF.out.bk, fun h => hF.out.b0 (by simpa using h), fun h => hF.out.b1 (by simpa using h)⟩
        · intro d a W hI hd hdep
          obtain ⟨x7, x8, x35, x36, x37, x38, x39, x40, x41, x42, x43, rfl, hF⟩ := hI
          have hd0 : d 0 = true := dep_of hdep 0 (by kernel_rfl)
          obtain rfl := hF.out.f0 hd0
          clear hdep hd hd0
          intro K hK
          simp only [Act.put, List.setIfInBounds_toArray, List.set_cons_zero, List.set_cons_succ]
          go_simp
          refine hK.out _ _ ⟨x7, x8, (.pointer (some ⟨gw, 0, none⟩)), (.pointer (some ⟨gw, 0, none⟩)), x37, x38, x39, x40, x41, x42, x43, by first | (simp only [Act.put, List.setIfInBounds_toArray, List.set_cons_zero, List.set_cons_succ]; done) | (simp only [Act.put, List.setIfInBounds_toArray, List.set_cons_zero, List.set_cons_succ]; rfl), ?_⟩
          exact ⟨fun h => hF.out.f0 (by simpa using h), fun _ => rfl, fun h => hF.out.f2 (by simpa using h), fun h => hF.out.f3 (by simpa using h), fun h => hF.out.f4 (by simpa using h), fun h => hF.out.f5 (by simpa using h), fun h => hF.out.f6 (by simpa using h), fun h => hF.out.f7 (by simpa using h), fun h => hF.out.f8 (by simpa using h), fun h => hF.out.f9 (by simpa using h), fun h => hF.out.f10 (by simpa using h), fun h => hF.out.f11 (by simpa using h), hF.out.bw, hF.out.oth, hF.out.bk, fun h => hF.out.b0 (by simpa using h), fun h => hF.out.b1 (by simpa using h)⟩
        · intro d a W hI hd hdep
          obtain ⟨x7, x8, x35, x36, x37, x38, x39, x40, x41, x42, x43, rfl, hF⟩ := hI
          have hd1 : d 1 = true := dep_of hdep 1 (by kernel_rfl)
          obtain rfl := hF.out.f1 hd1
          clear hdep hd hd1
          intro K hK
          simp only [Act.put, List.setIfInBounds_toArray, List.set_cons_zero, List.set_cons_succ]
          go_simp
          refine hK.out _ _ ⟨x7, x8, x35, (.pointer (some ⟨gw, 0, none⟩)), (.pointer (some ⟨gw, 6, none⟩)), x38, x39, x40, x41, x42, x43, by first | (simp only [Act.put, List.setIfInBounds_toArray, List.set_cons_zero, List.set_cons_succ]; done) | (simp only [Act.put, List.setIfInBounds_toArray, List.set_cons_zero, List.set_cons_succ]; rfl), ?_⟩
          exact ⟨fun h => hF.out.f0 (by simpa using h), fun h => hF.out.f1 (by simpa using h), fun _ => rfl, fun h => hF.out.f3 (by simpa using h), fun h => hF.out.f4 (by simpa using h), fun h => hF.out.f5 (by simpa using h), fun h => hF.out.f6 (by simpa using h), fun h => hF.out.f7 (by simpa using h), fun h => hF.out.f8 (by simpa using h), fun h => hF.out.f9 (by simpa using h), fun h => hF.out.f10 (by simpa using h), fun h => hF.out.f11 (by simpa using h), hF.out.bw, hF.out.oth, hF.out.bk, fun h => hF.out.b0 (by simpa using h), fun h => hF.out.b1 (by simpa using h)⟩
        · intro d a W hI hd hdep
          obtain ⟨x7, x8, x35, x36, x37, x38, x39, x40, x41, x42, x43, rfl, hF⟩ := hI
          have hd2 : d 2 = true := dep_of hdep 2 (by kernel_rfl)
          obtain rfl := hF.out.f2 hd2
          have q0 := (hF.out.oth ⟨gw, 6, none⟩ HNE.out).trans HR7.out.2.1
          clear hdep hd hd2
          intro K hK
          simp only [Act.put, List.setIfInBounds_toArray, List.set_cons_zero, List.set_cons_succ]
          go_simp
          refine hK.out _ _ ⟨x7, x8, x35, x36, (.pointer (some ⟨gw, 6, none⟩)), (.int .i64 snw), x39, x40, x41, x42, x43, by first | (simp only [Act.put, List.setIfInBounds_toArray, List.set_cons_zero, List.set_cons_succ]; done) | (simp only [Act.put, List.setIfInBounds_toArray, List.set_cons_zero, List.set_cons_succ]; rfl), ?_⟩
          exact ⟨fun h => hF.out.f0 (by simpa using h), fun h => hF.out.f1 (by simpa using h), fun h => hF.out.f2 (by simpa using h), fun _ => rfl, fun h => hF.out.f4 (by simpa using h), fun h => hF.out.f5 (by simpa using h), fun h => hF.out.f6 (by simpa using h), fun h => hF.out.f7 (by simpa using h), fun h => hF.out.f8 (by simpa using h), fun h => hF.out.f9 (by simpa using h), fun h => hF.out.f10 (by simpa using h), fun h => hF.out.f11 (by simpa using h), hF.out.bw, hF.out.oth, hF.out.bk, fun h => hF.out.b0 (by simpa using h), fun h => hF.out.b1 (by simpa using h)⟩
        · intro d a W hI hd hdep
          obtain ⟨x7, x8, x35, x36, x37, x38, x39, x40, x41, x42, x43, rfl, hF⟩ := hI
          have hd3 : d 3 = true := dep_of hdep 3 (by kernel_rfl)
          obtain rfl := hF.out.f3 hd3
          clear hdep hd hd3
          intro K hK
          simp only [Act.put, List.setIfInBounds_toArray, List.set_cons_zero, List.set_cons_succ]
          go_simp
          refine hK.out _ _ ⟨x7, x8, x35, x36, x37, (.int .i64 snw), (.agg #[.slice none 0 0, .int .i64 snw, .int .i64 0, .bool true]), x40, x41, x42, x43, by first | (simp only [Act.put, List.setIfInBounds_toArray, List.set_cons_zero, List.set_cons_succ]; done) | (simp only [Act.put, List.setIfInBounds_toArray, List.set_cons_zero, List.set_cons_succ]; rfl), ?_⟩
          exact ⟨fun h => hF.out.f0 (by simpa using h), fun h => hF.out.f1 (by simpa using h), fun h => hF.out.f2 (by simpa using h), fun h => hF.out.f3 (by simpa using h), fun _ => rfl, fun h => hF.out.f5 (by simpa using h), fun h => hF.out.f6 (by simpa using h), fun h => hF.out.f7 (by simpa using h), fun h => hF.out.f8 (by simpa using h), fun h => hF.out.f9 (by simpa using h), fun h => hF.out.f10 (by simpa using h), fun h => hF.out.f11 (by simpa using h), hF.out.bw, hF.out.oth, hF.out.bk, fun h => hF.out.b0 (by simpa using h), fun h => hF.out.b1 (by simpa using h)⟩
        · intro d a W hI hd hdep
          obtain ⟨x7, x8, x35, x36, x37, x38, x39, x40, x41, x42, x43, rfl, hF⟩ := hI
          clear hdep hd
          intro K hK
          simp only [Act.put, List.setIfInBounds_toArray, List.set_cons_zero, List.set_cons_succ]
          go_simp
          refine hK.out _ _ ⟨x7, x8, x35, x36, x37, x38, x39, (.pointer (some ⟨gw, 0, none⟩)), x41, x42, x43, by first | (simp only [Act.put, List.setIfInBounds_toArray, List.set_cons_zero, List.set_cons_succ]; done) | (simp only [Act.put, List.setIfInBounds_toArray, List.set_cons_zero, List.set_cons_succ]; rfl), ?_⟩
          exact ⟨fun h => hF.out.f0 (by simpa using h), fun h => hF.out.f1 (by simpa using h), fun h => hF.out.f2 (by simpa using h), fun h => hF.out.f3 (by simpa using h), fun h => hF.out.f4 (by simpa using h), fun _ => rfl, fun h => hF.out.f6 (by simpa using h), fun h => hF.out.f7 (by simpa using h), fun h => hF.out.f8 (by simpa using h), fun h => hF.out.f9 (by simpa using h), fun h => hF.out.f10 (by simpa using h), fun h => hF.out.f11 (by simpa using h), hF.out.bw, hF.out.oth, hF.out.bk, fun h => hF.out.b0 (by simpa using h), fun h => hF.out.b1 (by simpa using h)⟩
        · intro d a W hI hd hdep
          obtain ⟨x7, x8, x35, x36, x37, x38, x39, x40, x41, x42, x43, rfl, hF⟩ := hI
          have hd5 : d 5 = true := dep_of hdep 5 (by kernel_rfl)
          obtain rfl := hF.out.f5 hd5
          clear hdep hd hd5
          intro K hK
          simp only [Act.put, List.setIfInBounds_toArray, List.set_cons_zero, List.set_cons_succ]
          go_simp
          refine hK.out _ _ ⟨x7, x8, x35, x36, x37, x38, x39, (.pointer (some ⟨gw, 0, none⟩)), (.pointer (some ⟨gw, 0, none⟩)), x42, x43, by first | (simp only [Act.put, List.setIfInBounds_toArray, List.set_cons_zero, List.set_cons_succ]; done) | (simp only [Act.put, List.setIfInBounds_toArray, List.set_cons_zero, List.set_cons_succ]; rfl), ?_⟩
          exact ⟨fun h => hF.out.f0 (by simpa using h), fun h => hF.out.f1 (by simpa using h), fun h => hF.out.f2 (by simpa using h), fun h => hF.out.f3 (by simpa using h), fun h => hF.out.f4 (by simpa using h), fun h => hF.out.f5 (by simpa using h), fun _ => rfl, fun h => hF.out.f7 (by simpa using h), fun h => hF.out.f8 (by simpa using h), fun h => hF.out.f9 (by simpa using h), fun h => hF.out.f10 (by simpa using h), fun h => hF.out.f11 (by simpa using h), hF.out.bw, hF.out.oth, hF.out.bk, fun h => hF.out.b0 (by simpa using h), fun h => hF.out.b1 (by simpa using h)⟩
        · intro d a W hI hd hdep
          obtain ⟨x7, x8, x35, x36, x37, x38, x39, x40, x41, x42, x43, rfl, hF⟩ := hI
          have hd6 : d 6 = true := dep_of hdep 6 (by kernel_rfl)
          obtain rfl := hF.out.f6 hd6
          clear hdep hd hd6
          intro K hK
          simp only [Act.put, List.setIfInBounds_toArray, List.set_cons_zero, List.set_cons_succ]
          go_simp
          refine hK.out _ _ ⟨x7, x8, x35, x36, x37, x38, x39, x40, (.pointer (some ⟨gw, 0, none⟩)), (.pointer (some ⟨gw, 7, none⟩)), x43, by first | (simp only [Act.put, List.setIfInBounds_toArray, List.set_cons_zero, List.set_cons_succ]; done) | (simp only [Act.put, List.setIfInBounds_toArray, List.set_cons_zero, List.set_cons_succ]; rfl), ?_⟩
          exact ⟨fun h => hF.out.f0 (by simpa using h), fun h => hF.out.f1 (by simpa using h), fun h => hF.out.f2 (by simpa using h), fun h => hF.out.f3 (by simpa using h), fun h => hF.out.f4 (by simpa using h), fun h => hF.out.f5 (by simpa using h), fun h => hF.out.f6 (by simpa using h), fun _ => rfl, fun h => hF.out.f8 (by simpa using h), fun h => hF.out.f9 (by simpa using h), fun h => hF.out.f10 (by simpa using h), fun h => hF.out.f11 (by simpa using h), hF.out.bw, hF.out.oth, hF.out.bk, fun h => hF.out.b0 (by simpa using h), fun h => hF.out.b1 (by simpa using h)⟩
        · intro d a W hI hd hdep
          obtain ⟨x7, x8, x35, x36, x37, x38, x39, x40, x41, x42, x43, rfl, hF⟩ := hI
          have hd7 : d 7 = true := dep_of hdep 7 (by kernel_rfl)
          obtain rfl := hF.out.f7 hd7
          have q0 := (hF.out.oth ⟨gw, 7, none⟩ HNE.out).trans HR7.out.2.2
          clear hdep hd hd7
          intro K hK
          simp only [Act.put, List.setIfInBounds_toArray, List.set_cons_zero, List.set_cons_succ]
          go_simp
          refine hK.out _ _ ⟨x7, x8, x35, x36, x37, x38, x39, x40, x41, (.pointer (some ⟨gw, 7, none⟩)), (.slice ea en ec), by first | (simp only [Act.put, List.setIfInBounds_toArray, List.set_cons_zero, List.set_cons_succ]; done) | (simp only [Act.put, List.setIfInBounds_toArray, List.set_cons_zero, List.set_cons_succ]; rfl), ?_⟩
          exact ⟨fun h => hF.out.f0 (by simpa using h), fun h => hF.out.f1 (by simpa using h), fun h => hF.out.f2 (by simpa using h), fun h => hF.out.f3 (by simpa using h), fun h => hF.out.f4 (by simpa using h), fun h => hF.out.f5 (by simpa using h), fun h => hF.out.f6 (by simpa using h), fun h => hF.out.f7 (by simpa using h), fun _ => rfl, fun h => hF.out.f9 (by simpa using h), fun h => hF.out.f10 (by simpa using h), fun h => hF.out.f11 (by simpa using h), hF.out.bw, hF.out.oth, hF.out.bk, fun h => hF.out.b0 (by simpa using h), fun h => hF.out.b1 (by simpa using h)⟩
        · intro d a W hI hd hdep
          obtain ⟨x7, x8, x35, x36, x37, x38, x39, x40, x41, x42, x43, rfl, hF⟩ := hI
          have hd4 : d 4 = true := dep_of hdep 4 (by kernel_rfl)
          obtain rfl := hF.out.f4 hd4
          have hbt := hF.out.b0 hd
          have p0 := tcell_blk hbt 0
          have f0 := tfrozen_blk hbt 0
          have p1 := tcell_blk hbt 1
          have f1 := tfrozen_blk hbt 1
          have p2 := tcell_blk hbt 2
          have f2 := tfrozen_blk hbt 2
          have p3 := tcell_blk hbt 3
          have f3 := tfrozen_blk hbt 3
          simp only [List.getElem?_toArray, List.getElem?_cons_zero, List.getElem?_cons_succ] at p0 p1 p2 p3
          have hbw := hF.out.bw
          have hoth := hF.out.oth
          have hbk := hF.out.bk
          clear hdep hd hd4
          intro K hK
          simp only [Act.put, List.setIfInBounds_toArray, List.set_cons_zero, List.set_cons_succ]
          go_simp
          rw [← set4_eq]
          refine hK.out _ _ ⟨x7, x8, x35, x36, x37, x38, (.agg #[.slice none 0 0, .int .i64 snw, .int .i64 0, .bool true]), x40, x41, x42, x43, by first | (simp only [Act.put, List.setIfInBounds_toArray, List.set_cons_zero, List.set_cons_succ]; done) | (simp only [Act.put, List.setIfInBounds_toArray, List.set_cons_zero, List.set_cons_succ]; rfl), ?_⟩
          exact ⟨fun h => hF.out.f0 (by simpa using h), fun h => hF.out.f1 (by simpa using h), fun h => hF.out.f2 (by simpa using h), fun h => hF.out.f3 (by simpa using h), fun h => hF.out.f4 (by simpa using h), fun h => hF.out.f5 (by simpa using h), fun h => hF.out.f6 (by simpa using h), fun h => hF.out.f7 (by simpa using h), fun h => hF.out.f8 (by simpa using h), fun _ => trivial, fun h => hF.out.f10 (by simpa using h), fun h => hF.out.f11 (by simpa using h), set4_bel hbw HGL.out, fun p hp => (World.cell?_of_block (set4_other hp)).trans (hoth p hp), fun b hb => (set4_other hb).trans (hbk b hb), fun h => by simp at h, fun _ => set4_blk hbt _ _ _ _⟩
        · intro d a W hI hd hdep
          obtain ⟨x7, x8, x35, x36, x37, x38, x39, x40, x41, x42, x43, rfl, hF⟩ := hI
          have hd8 : d 8 = true := dep_of hdep 8 (by kernel_rfl)
          have hd9 : d 9 = true := dep_of hdep 9 (by kernel_rfl)
          obtain rfl := hF.out.f8 hd8
          clear hdep hd hd8 hd9
          intro K hK
          simp only [Act.put, List.setIfInBounds_toArray, List.set_cons_zero, List.set_cons_succ]
          go_simp
          refine hK.out _ _ ⟨(.slice ea en ec), x8, x35, x36, x37, x38, x39, x40, x41, x42, (.slice ea en ec), by first | (simp only [Act.put, List.setIfInBounds_toArray, List.set_cons_zero, List.set_cons_succ]; done) | (simp only [Act.put, List.setIfInBounds_toArray, List.set_cons_zero, List.set_cons_succ]; rfl), ?_⟩
          exact ⟨fun h => hF.out.f0 (by simpa using h), fun h => hF.out.f1 (by simpa using h), fun h => hF.out.f2 (by simpa using h), fun h => hF.out.f3 (by simpa using h), fun h => hF.out.f4 (by simpa using h), fun h => hF.out.f5 (by simpa using h), fun h => hF.out.f6 (by simpa using h), fun h => hF.out.f7 (by simpa using h), fun h => hF.out.f8 (by simpa using h), fun h => hF.out.f9 (by simpa using h), fun _ => rfl, fun h => hF.out.f11 (by simpa using h), hF.out.bw, hF.out.oth, hF.out.bk, fun h => hF.out.b0 (by simpa using h), fun h => hF.out.b1 (by simpa using h)⟩
        · intro d a W hI hd hdep
          obtain ⟨x7, x8, x35, x36, x37, x38, x39, x40, x41, x42, x43, rfl, hF⟩ := hI
          have hd10 : d 10 = true := dep_of hdep 10 (by kernel_rfl)
          obtain rfl := hF.out.f10 hd10
          clear hdep hd hd10
          intro K hK
          simp only [Act.put, List.setIfInBounds_toArray, List.set_cons_zero, List.set_cons_succ]
          go_simp
          refine hK.out _ _ ⟨(.slice ea en ec), (.int .i64 0), x35, x36, x37, x38, x39, x40, x41, x42, x43, by first | (simp only [Act.put, List.setIfInBounds_toArray, List.set_cons_zero, List.set_cons_succ]; done) | (simp only [Act.put, List.setIfInBounds_toArray, List.set_cons_zero, List.set_cons_succ]; rfl), ?_⟩
          exact ⟨fun h => hF.out.f0 (by simpa using h), fun h => hF.out.f1 (by simpa using h), fun h => hF.out.f2 (by simpa using h), fun h => hF.out.f3 (by simpa using h), fun h => hF.out.f4 (by simpa using h), fun h => hF.out.f5 (by simpa using h), fun h => hF.out.f6 (by simpa using h), fun h => hF.out.f7 (by simpa using h), fun h => hF.out.f8 (by simpa using h), fun h => hF.out.f9 (by simpa using h), fun h => hF.out.f10 (by simpa using h), fun _ => rfl, hF.out.bw, hF.out.oth, hF.out.bk, fun h => hF.out.b0 (by simpa using h), fun h => hF.out.b1 (by simpa using h)⟩
      · intro d a W hI hall
        obtain ⟨x7, x8, x35, x36, x37, x38, x39, x40, x41, x42, x43, rfl, hF⟩ := hI
        simp only [List.length_cons, List.length_nil] at hall
        obtain rfl := hF.out.f0 (hall 0 (by omega))
        obtain rfl := hF.out.f1 (hall 1 (by omega))
        obtain rfl := hF.out.f2 (hall 2 (by omega))
        obtain rfl := hF.out.f3 (hall 3 (by omega))
        obtain rfl := hF.out.f4 (hall 4 (by omega))
        obtain rfl := hF.out.f5 (hall 5 (by omega))
        obtain rfl := hF.out.f6 (hall 6 (by omega))
        obtain rfl := hF.out.f7 (hall 7 (by omega))
        obtain rfl := hF.out.f8 (hall 8 (by omega))
        obtain rfl := hF.out.f10 (hall 10 (by omega))
        obtain rfl := hF.out.f11 (hall 11 (by omega))
        have z := hF.out.b1 (hall 9 (by omega))
        have z0 := tcell_blk z 0
        have z1 := tcell_blk z 1
        have z2 := tcell_blk z 2
        have z3 := tcell_blk z 3
        simp only [List.getElem?_toArray, List.getElem?_cons_zero, List.getElem?_cons_succ] at z0 z1 z2 z3
        have HFIN : Hid (Dq w (.slice none 0 0) ([]) W ∧ Dn w (.slice ea en ec) R.2.2.1 W) :=
          ⟨⟨World.ownsRow_nil _ _ _ _, hF.out.bw⟩, ⟨town_keep HEO.out fun b hb => hF.out.bk b (own_ne HEO9.out HG2.out b hb), hF.out.bw⟩⟩
        clear hF hall z
        simp only [Act.put, List.setIfInBounds_toArray, List.set_cons_zero, List.set_cons_succ]
        go_wp2_with fail
        exact bodyPost_ret (v := .tuple #[.agg #[.slice none 0 0, .int .i64 snw, .int .i64 0, .bool true], .slice ea en ec, .int .i64 0]) (by simp [results, Try.results20, go_sem, z0, z1, z2, z3]) rfl ⟨_, _, _, _, _, _, by rw [HRES.out], by rw [HRES.out]; exact HFIN.out.1, by rw [HRES.out]; exact HFIN.out.2⟩
    · have HRN : Hid (R.1 ≠ 0) := hr0
      have HRES : Hid (X = ⟨[], sn, R.1, false, [], R.1⟩) := by show _ = _; rw [HXR.out, if_neg hr0]
      have hre : (R.1 != 0) = true := by simpa using hr0
      clear hw4 hr0
      generalize R.1 = er at HRES hre HRN ⊢
      have hcall := broken_any (.slice ao l.length c) ⟨_, _, _, rfl⟩ sn 0 er false w4
      have z0 := HC4.out.gb.c0
      have z1 := HC4.out.gb.c1
      have z2 := HC4.out.gb.c2
      have q0 := tcell_blk HC4.out.c 0
      have q1 := tcell_blk HC4.out.c 1
      have q2 := tcell_blk HC4.out.c 2
      have q3 := tcell_blk HC4.out.c 3
      simp only [List.getElem?_toArray, List.getElem?_cons_zero, List.getElem?_cons_succ] at q0 q1 q2 q3
      go_wp2_with fail
      refine hcall.mono ?_
      rintro _ w5 ⟨rfl, hb5⟩
      have BN := tbox_next HN4.out hb5
      have HB5 : Hid (Below w.heap.size w w5) := HB4.out.trans (hb5.mono HB4.out.size)
      clear hcall hb5 z0 z1 z2 q0 q1 q2 q3 hre
      have p0 := tcell_blk BN 0
      have p1 := tcell_blk BN 1
      have p2 := tcell_blk BN 2
      have p3 := tcell_blk BN 3
      have f0 := tfrozen_blk BN 0
      have f1 := tfrozen_blk BN 1
      have f2 := tfrozen_blk BN 2
      have f3 := tfrozen_blk BN 3
      simp only [List.getElem?_toArray, List.getElem?_cons_zero, List.getElem?_cons_succ] at p0 p1 p2 p3
      go_wp2_with fail
      rw [← set4_eq]
      have z := set4_blk BN (.slice none 0 0) (.int .i64 sn) (.int .i64 er) (.bool false)
      have z0 := tcell_blk z 0
      have z1 := tcell_blk z 1
      have z2 := tcell_blk z 2
      have z3 := tcell_blk z 3
      simp only [List.getElem?_toArray, List.getElem?_cons_zero, List.getElem?_cons_succ] at z0 z1 z2 z3
      have HFB : Hid (Below w.heap.size w (set4 w5 (g + 1 + 1) (.slice none 0 0) (.int .i64 sn) (.int .i64 er) (.bool false))) := set4_bel HB5.out (by have := HG.out; omega)
      exact bodyPost_ret (v := .tuple #[.agg #[.slice none 0 0, .int .i64 sn, .int .i64 er, .bool false], .slice none 0 0, .int .i64 er]) (by simp [results, Try.results20, go_sem, z0, z1, z2, z3]) rfl ⟨_, _, _, _, _, _, by rw [HRES.out], by rw [HRES.out]; exact Dq.nil _ HFB.out, by rw [HRES.out]; exact Dn.nil _ HFB.out⟩
  · have HCN : Hid (ce ≠ 0) := hce
    have hne : (ce != 0) = true := by simpa using hce
    obtain rfl : ⟨l, sn, ov, dn, [], ce⟩ = X := by rw [← HXX.out]; unfold endR; rw [HCE.out, if_neg HCN.out]
    have hcall := asItWas_any (.slice ao l.length c) l sn ov dn w2 HC2.out.td HLL.out
    have z0 := HC2.out.gb.c0
    have z1 := HC2.out.gb.c1
    have z2 := HC2.out.gb.c2
    have q0 := tcell_blk HC2.out.c 0
    have q1 := tcell_blk HC2.out.c 1
    have q2 := tcell_blk HC2.out.c 2
    have q3 := tcell_blk HC2.out.c 3
    simp only [List.getElem?_toArray, List.getElem?_cons_zero, List.getElem?_cons_succ] at q0 q1 q2 q3
    go_wp2_with fail
    refine hcall.mono ?_
    rintro _ w3 ⟨ra, rn, rq, rfl, hd⟩
    have HD : Hid _ := hd
    have BN : w3.heap[g + 1 + 1]? = _ := tbox_next HN2.out hd.bel
    clear hcall hd z0 z1 z2 q0 q1 q2 q3 hne hce
    have p0 := tcell_blk BN 0
    have p1 := tcell_blk BN 1
    have p2 := tcell_blk BN 2
    have p3 := tcell_blk BN 3
    have f0 := tfrozen_blk BN 0
    have f1 := tfrozen_blk BN 1
    have f2 := tfrozen_blk BN 2
    have f3 := tfrozen_blk BN 3
    simp only [List.getElem?_toArray, List.getElem?_cons_zero, List.getElem?_cons_succ] at p0 p1 p2 p3
    go_wp2_with fail
    rw [← set4_eq]
    have z := set4_blk BN (.slice ra rn rq) (.int .i64 sn) (.int .i64 ov) (.bool dn)
    have z0 := tcell_blk z 0
    have z1 := tcell_blk z 1
    have z2 := tcell_blk z 2
    have z3 := tcell_blk z 3
    simp only [List.getElem?_toArray, List.getElem?_cons_zero, List.getElem?_cons_succ] at z0 z1 z2 z3
    have HFB : Hid (Below w.heap.size w (set4 w3 (g + 1 + 1) (.slice ra rn rq) (.int .i64 sn) (.int .i64 ov) (.bool dn))) := set4_bel (HC2.out.gb.below.trans (HD.out.bel.mono HC2.out.gb.below.size)) (by have := HG.out; omega)
    have HFIN : Hid (Dq w (.slice ra rn rq) l (set4 w3 (g + 1 + 1) (.slice ra rn rq) (.int .i64 sn) (.int .i64 ov) (.bool dn))) := by
      refine ⟨?_, HFB.out⟩
      have h2 := heap_lt3 HN2.out
      have := town_keep (w' := set4 w3 (g + 1 + 1) (.slice ra rn rq) (.int .i64 sn) (.int .i64 ov) (.bool dn)) HD.out.own fun b hb => set4_other (own_ne HD.out.own (by omega) b hb)
      exact own_less this HC2.out.gb.below.size
    exact bodyPost_ret (v := .tuple #[.agg #[.slice ra rn rq, .int .i64 sn, .int .i64 ov, .bool dn], .slice none 0 0, .int .i64 ce]) (by simp [results, Try.results20, go_sem, z0, z1, z2, z3]) rfl ⟨_, _, _, _, _, _, rfl, HFIN.out, Dn.nil _ HFB.out⟩
end Go.Proofs.Ytpfehghicaaghaa
