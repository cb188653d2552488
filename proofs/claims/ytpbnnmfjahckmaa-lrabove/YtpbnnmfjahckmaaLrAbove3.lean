/-
  What is LL(1) is LR(1), plainly, at last: each item has its trees, and no state has two acts.
-/
import Derived.Test.YtpbnnmfjahckmaaLrAbove2
namespace Go.Proofs.Ytpbnnmfjahckmaa
namespace Cg

theorem shL_split {ps : List Pd} : ∀ {a b : List Sy} {l : List T}, shL ps l (a ++ b) = true → ∃ l1 l2, l = l1 ++ l2 ∧ shL ps l1 a = true ∧ shL ps l2 b = true
  | [], b, l, h => ⟨[], l, rfl, by simp [shL], h⟩
  | s :: a, b, [], h => by rw [List.cons_append, shL] at h; simp at h
  | s :: a, b, t :: l, h => by
    rw [List.cons_append, shL] at h; simp at h
    obtain ⟨l1, l2, rfl, h1, h2⟩ := shL_split h.2
    exact ⟨t :: l1, l2, rfl, shL_cons h.1 h1, h2⟩
theorem ylL_split {ps : List Pd} : ∀ {a b : List Sy} {l1 l2 : List T}, l1.length = a.length → ylL ps (l1 ++ l2) (a ++ b) = ylL ps l1 a ++ ylL ps l2 b
  | [], b, [], l2, _ => by simp [ylL]
  | [], b, t :: l1, l2, h => by simp at h
  | s :: a, b, [], l2, h => by simp at h
  | s :: a, b, t :: l1, l2, h => by
    rw [List.cons_append, List.cons_append, ylL, ylL]
    simp only [List.headD_cons, List.tail_cons]
    rw [ylL_split (by simpa using h), List.append_assoc]
mutual
theorem yl_rg {nt n : Nat} {ps : List Pd} (hg : Rg (nt : Int) n ps) : ∀ {t : T} {s : Sy}, sh ps t s = true → Ry nt n s → Rg2 nt (yl ps t s)
  | .mk p k l, s, h, hs => by
    by_cases h4 : s.1 = 1
    · rw [yl, if_pos h4]
      rcases hs with h | h
      · intro x hx; simp at hx; subst hx; exact h.2
      · omega
    · obtain ⟨h1, h2, h3, h5⟩ := sh_node h h4
      have hle := isPr_le h1
      obtain ⟨z, rfl⟩ : ∃ z : Nat, p = (z : Int) := ⟨p.toNat, by omega⟩
      have hz : z < ps.length := by omega
      rw [yl, if_neg h4]
      rw [(bodyOf_nat hz).1] at h5 ⊢
      exact yl_rgL hg h5 (hg.ok z hz)
theorem yl_rgL {nt n : Nat} {ps : List Pd} (hg : Rg (nt : Int) n ps) : ∀ {l : List T} {ss : List Sy}, shL ps l ss = true → OkL (nt : Int) n ss → Rg2 nt (ylL ps l ss)
  | [], ss, h, hs => by intro x hx; simp [ylL] at hx
  | t :: l, [], h, hs => by rw [shL] at h; simp at h
  | t :: l, s :: ss, h, hs => by
    rw [shL] at h; simp at h
    rw [ylL]
    intro x hx
    rcases List.mem_append.1 hx with hx | hx
    · exact yl_rg hg h.1 (hs s (by simp)) x hx
    · exact yl_rgL hg h.2 (fun u hu => hs u (by simp [hu])) x hx
end
def cl (ps : List Pd) (p : Nat) : List Td := if p = ps.length then [] else [.cls p]
/-- A right body, the WHOLE's too. -/
theorem bod_ok {nt n : Nat} {ps : List Pd} (hg : Rg (nt : Int) n ps) {p : Nat} (hp : p ≤ ps.length) : OkL (nt : Int) n (bod ps p) := by
  unfold bod
  split
  · intro s hs
    simp at hs
    subst hs
    exact Or.inr ⟨rfl, by simp, by have := hg.n1; simp; omega⟩
  · have hz : p < ps.length := by omega
    have eg : ps.getD p (0, []) = ps[p] := by rw [List.getD_eq_getElem?_getD, List.getElem?_eq_getElem hz]; rfl
    rw [eg]
    exact hg.ok p hz
theorem vi_ok {nt n : Nat} {ps : List Pd} {E : Nat → Bool} {F : Nat → Wd} (hg : Rg (nt : Int) n ps) {γ : List Sy} {x : It} (h : Vi nt ps E F γ x) : x.1 ≤ ps.length ∧ x.2.2 ≤ nt ∧ OkL (nt : Int) n γ := by
  induction h with
  | start => exact ⟨Nat.le_refl _, Nat.le_refl _, fun s hs => by simp at hs⟩
  | «open» γ x y _ ho ih =>
    obtain ⟨m, tl, -, h1, -, -, h4, -⟩ := ho
    exact ⟨by omega, h4, ih.2.2⟩
  | move γ x s tl _ hr ih =>
    refine ⟨ih.1, ih.2.1, fun u hu => ?_⟩
    rcases List.mem_append.1 hu with h | h
    · exact ih.2.2 u h
    · simp at h
      subst h
      refine bod_ok hg ih.1 u ?_
      have : u ∈ rst ps x := by rw [hr]; simp
      exact List.mem_of_mem_drop this
/-- Behind the next symbol of an item comes what Follow has. -/
theorem beh {nt n : Nat} {ps : List Pd} {E : Nat → Bool} {F V : Nat → Wd} {R M : Nat → Bool} (g : Lg ps E F V R M nt n) {x : It} (hx1 : x.1 ≤ ps.length) {s : Sy} {tl : List Sy} (hr : rst ps x = s :: tl) {zs : List T} (hz : shL ps zs tl = true) {post : List Int} (h1 : x.1 < ps.length → le (nx post) (V (ps.getD x.1 (0, [])).1.toNat)) (h2 : x.1 = ps.length → post = []) (h4 : s.1 ≠ 1) : le (nx (ylL ps zs tl ++ post)) (V s.2.toNat) := by
  by_cases e : x.1 = ps.length
  · unfold rst bod at hr
    rw [if_pos e] at hr
    have hp := h2 e
    subst hp
    have hd : x.2.1 = 0 := by
      rcases Nat.eq_zero_or_pos x.2.1 with h | h
      · exact h
      · have := congrArg List.length hr
        rw [List.length_drop] at this
        simp at this
        omega
    rw [hd, List.drop_zero] at hr
    simp only [List.cons.injEq] at hr
    obtain ⟨rfl, rfl⟩ := hr
    have := shL_length hz
    cases zs with
    | nil => simpa [ylL, nx] using g.fa.w.cl.z
    | cons t zs => simp at this
  · have hlt : x.1 < ps.length := by omega
    have eg : ps.getD x.1 (0, []) = ps[x.1] := by rw [List.getD_eq_getElem?_getD, List.getElem?_eq_getElem hlt]; rfl
    have hr2 : ps[x.1].2.drop x.2.1 = s :: tl := by unfold rst bod at hr; rw [if_neg e, eg] at hr; exact hr
    have hd : x.2.1 < ps[x.1].2.length := by
      rcases Nat.lt_or_ge x.2.1 ps[x.1].2.length with h | h
      · exact h
      · rw [List.drop_eq_nil_of_le h] at hr2; cases hr2
    rw [List.drop_eq_getElem_cons hd] at hr2
    simp only [List.cons.injEq] at hr2
    obtain ⟨rfl, rfl⟩ := hr2
    have hk : ps[x.1].2[x.2.1].1 = 2 := by
      rcases g.rg.ok x.1 hlt _ (List.getElem_mem hd) with h | h
      · exact absurd h.1 h4
      · exact h.1
    have h5 := g.fa.w.cl.st _ (List.getElem_mem hlt) x.2.1 hd hk
    have h6 := h1 hlt
    rw [eg] at h6
    exact le_trans (next_shL g.fa.m.cl g.fa.e.cl g.fa.f.cl hz post _ (Or.inr h6)) h5
/-- Each right symbol has a tree. -/
theorem all_tree {nt n : Nat} {ps : List Pd} {E : Nat → Bool} {F V : Nat → Wd} {R M : Nat → Bool} (g : Lg ps E F V R M nt n) (hall : ∀ A, A < n → M A = true) {s : Sy} (hs : Ry nt n s) : ∃ t, sh ps t s = true := by
  rcases hs with h | h
  · exact ⟨.mk (-1) 0 [], sh_of_leaf h.1⟩
  · obtain ⟨t, h1, -⟩ := least_tree g.fa.m (Q := fun _ => True) trivial (fun _ _ _ _ => trivial) (fun _ _ => trivial) (rg_syms g.rg) (hall s.2.toNat (by omega))
    exact ⟨t, (sh_two (by omega) h.2.1).1.2 h1⟩
theorem all_trees {nt n : Nat} {ps : List Pd} {E : Nat → Bool} {F V : Nat → Wd} {R M : Nat → Bool} (g : Lg ps E F V R M nt n) (hall : ∀ A, A < n → M A = true) {l : List Sy} (hs : OkL (nt : Int) n l) : ∃ ts, shL ps ts l = true := by
  obtain ⟨ts, h, -⟩ := shL_of_trees (ps := ps) (Q := fun _ => True) trivial (fun _ _ _ _ => trivial) l (fun u hu => (all_tree g hall (hs u hu)).imp fun t ht => ⟨ht, trivial⟩)
  exact ⟨ts, h⟩
/-- An item has its trees: whatever trees there are of the symbols had, and of those to come. -/
theorem ctx {nt n : Nat} {ps : List Pd} {E : Nat → Bool} {F V : Nat → Wd} {R M : Nat → Bool} (g : Lg ps E F V R M nt n) (hall : ∀ A, A < n → M A = true) {γ : List Sy} {x : It} (h : Vi nt ps E F γ x) : ∀ ts ys, shL ps ts γ = true → shL ps ys (rst ps x) = true → ∃ K post l, Lss nt ps (sts ps E F V) l [.sym (2, 0)] (ylL ps ts γ ++ (ylL ps ys (rst ps x) ++ post)) ((rst ps x).map .sym ++ (cl ps x.1 ++ K)) (ylL ps ys (rst ps x) ++ post) ∧ cm l = szL ts ∧ colOf nt post = x.2.2 ∧ (x.1 < ps.length → le (nx post) (V (ps.getD x.1 (0, [])).1.toNat)) ∧ (x.1 = ps.length → K = [] ∧ post = []) ∧ Rg2 nt post := by
  have hnt : nt < 64 := by have := g.tt; omega
  induction h with
  | start =>
    intro ts ys hts hys
    have := shL_length hts
    cases ts with
    | cons t ts => simp at this
    | nil =>
      have hr0 : rst ps (ps.length, 0, nt) = [(2, 0)] := by unfold rst bod; simp
      rw [hr0] at hys ⊢
      refine ⟨[], [], [], ?_, by simp [cm, szL], rfl, fun h => by simp at h, fun _ => ⟨rfl, rfl⟩, fun x hx => by simp at hx⟩
      simpa [ylL, cl] using Lss.nil (nt := nt) (ps := ps) (S := sts ps E F V) [.sym (2, 0)] (ylL ps ys [(2, 0)])
  | «open» γ x y hv ho ih =>
    intro ts ys hts hys
    obtain ⟨hx1, hx2, hγ⟩ := vi_ok g.rg hv
    obtain ⟨m, tl, hr, hy1, hy2, hy3, hy4, hy5⟩ := ho
    have hin : ∀ u ∈ rst ps x, Ry nt n u := fun u hu => bod_ok g.rg hx1 u (List.mem_of_mem_drop hu)
    rw [hr] at hin
    have hm := hin (2, m) (by simp)
    have hm2 : 0 ≤ m ∧ m < (n : Int) := by
      rcases hm with h | h
      · have := h.1; simp at this
      · exact h.2
    have htl : OkL (nt : Int) n tl := fun u hu => hin u (by simp [hu])
    have eg : ps.getD y.1 (0, []) = ps[y.1] := by rw [List.getD_eq_getElem?_getD, List.getElem?_eq_getElem hy1]; rfl
    have hry : rst ps y = ps[y.1].2 := by unfold rst bod; rw [hy3, List.drop_zero, if_neg (by omega), eg]
    obtain ⟨b1, b2⟩ := bodyOf_nat hy1
    have hnode : sh ps (.mk (y.1 : Int) 0 ys) (2, m) = true := sh_of_node (by show (2 : Int) ≠ 1; decide) (by unfold isPr; simp; omega) (by rw [b2, ← eg]; exact hy2) (by rw [b1, ← hry]; exact hys)
    have hyl : yl ps (.mk (y.1 : Int) 0 ys) (2, m) = ylL ps ys (rst ps y) := by rw [yl, if_neg (by show ¬ (2 : Int) = 1; decide), b1, hry]
    obtain ⟨zs, hzs, hcol⟩ : ∃ zs, shL ps zs tl = true ∧ ∀ post, colOf nt post = x.2.2 → colOf nt (ylL ps zs tl ++ post) = y.2.2 := by
      rcases bg_real (ps := ps) (E := E) (G := F) (fun s h4 h0 z hz => first_real g.fa g.rg h4 h0 hz) (fun s h4 h0 he => by
        obtain ⟨t, h1, h2⟩ := least_tree g.fa.e (Q := fun l => l = []) rfl (fun a b ha hb => by rw [ha, hb]; rfl) (fun e => by cases e) (rg_syms g.rg) he
        exact ⟨t, (sh_two h4 h0).1.2 h1, by rw [(sh_two h4 h0).2]; exact h2⟩) tl _ y.2.2 (fun u hu => ⟨all_tree g hall (htl u hu), fun h4 => by
          rcases htl u hu with h | h
          · exact absurd h.1 h4
          · exact h.2.1⟩) hy5 with ⟨zs, h1, a, r, h2, h3⟩ | ⟨h0, zs, h1, h2⟩
      · exact ⟨zs, h1, fun post _ => by rw [h2]; exact h3⟩
      · rw [bit_one] at h0
        have := of_decide_eq_true h0
        exact ⟨zs, h1, fun post hp => by rw [h2, List.nil_append, hp]; exact this.1.symm⟩
    obtain ⟨K, post, l, h1, h2, h3, h4, h5, h6⟩ := ih ts (.mk (y.1 : Int) 0 ys :: zs) hts (by rw [hr]; exact shL_cons hnode hzs)
    rw [hr, ylL] at h1
    simp only [List.headD_cons, List.tail_cons, List.append_assoc, List.map_cons, List.cons_append] at h1
    rw [hyl] at h1
    have hV := beh g hx1 hr hzs h4 (fun e => (h5 e).2) (by show (2 : Int) ≠ 1; decide)
    have hrg : Rg2 nt (ylL ps zs tl ++ post) := fun z hz => by
      rcases List.mem_append.1 hz with h | h
      · exact yl_rgL g.rg hzs htl z h
      · exact h6 z h
    have hrg2 : Rg2 nt (yl ps (.mk (y.1 : Int) 0 ys) (2, m) ++ (ylL ps zs tl ++ post)) := fun z hz => by
      rcases List.mem_append.1 hz with h | h
      · exact yl_rg g.rg hnode hm z h
      · exact hrg z h
    obtain ⟨m1, m2⟩ := may_node g.fa g.tt hnode (by show (2 : Int) ≠ 1; decide) (hd := m.toNat) (by show m = _; omega) hV hrg2
    have o1 := row_one g.no (by omega) (col_lt hrg2) m1 m2
    rw [hyl] at o1
    have hcl : cl ps y.1 = [.cls y.1] := by unfold cl; rw [if_neg (by omega)]
    refine ⟨tl.map .sym ++ (cl ps x.1 ++ K), ylL ps zs tl ++ post, l ++ [(1, (y.1 : Int))], ?_, ?_, hcol post h3, fun _ => ?_, fun e => by omega, hrg⟩
    · refine h1.app (.cons _ _ _ _ _ _ _ _ ?_ (.nil _ _))
      have := Ls.opn (nt := nt) (ps := ps) (S := sts ps E F V) (2, m) m.toNat y.1 (tl.map .sym ++ (cl ps x.1 ++ K)) (ylL ps ys (rst ps y) ++ (ylL ps zs tl ++ post)) (by show (2 : Int) ≠ 1; decide) (by show m = _; omega) o1
      rw [hcl, hry, ← eg]
      rw [hry, ← eg] at this
      exact this
    · rw [cm_app, h2]; simp [cm]
    · rw [hy2]; exact hV
  | move γ x s tl hv hr ih =>
    intro ts ys hts hys
    obtain ⟨hx1, hx2, hγ⟩ := vi_ok g.rg hv
    have hin : ∀ u ∈ rst ps x, Ry nt n u := fun u hu => bod_ok g.rg hx1 u (List.mem_of_mem_drop hu)
    rw [hr] at hin
    have hrt : rst ps (x.1, x.2.1 + 1, x.2.2) = tl := by
      have := congrArg List.tail hr
      unfold rst at this ⊢
      rw [List.tail_drop] at this
      exact this
    rw [hrt] at hys ⊢
    obtain ⟨l1, l2, rfl, ha, hb⟩ := shL_split hts
    have hl2 := shL_length hb
    obtain ⟨t, rfl⟩ : ∃ t, l2 = [t] := List.length_eq_one_iff.1 hl2
    have ht : sh ps t s = true := by rw [shL] at hb; simp at hb; exact hb.1
    obtain ⟨K, post, l, h1, h2, h3, h4, h5, h6⟩ := ih l1 (t :: ys) ha (by rw [hr]; exact shL_cons ht hys)
    rw [hr, ylL] at h1
    simp only [List.headD_cons, List.tail_cons, List.append_assoc, List.map_cons, List.cons_append] at h1
    have hrg : Rg2 nt (yl ps t s ++ (ylL ps ys tl ++ post)) := fun z hz => by
      rcases List.mem_append.1 hz with h | h
      · exact yl_rg g.rg ht (hin s (by simp)) z h
      · rcases List.mem_append.1 h with h | h
        · exact yl_rgL g.rg hys (fun u hu => hin u (by simp [hu])) z h
        · exact h6 z h
    obtain ⟨l', q1, q2⟩ := ld_sh g (tl.map .sym ++ (cl ps x.1 ++ K)) (ylL ps ys tl ++ post) ht (hin s (by simp)) (fun h7 => beh g hx1 hr hys h4 (fun e => (h5 e).2) h7) hrg
    refine ⟨K, post, l ++ l', ?_, by rw [cm_app, h2, q2, szL_append]; simp [szL], h3, h4, h5, h6⟩
    rw [ylL_split (shL_length ha)]
    have e : ylL ps [t] [s] = yl ps t s := by simp [ylL]
    rw [e, List.append_assoc]
    exact h1.app q1
theorem cm_cons (e : Ev) (l : List Ev) (h : e.1 ≠ 1) : cm (e :: l) = cm l + 1 := by simp [cm, h]
/-- From a node that is done on, or behind all: no run with as many closes and tokens goes on. -/
theorem done_stop {nt : Nat} {ps : List Pd} {S : Nat → Wd} {p : Nat} {K : List Td} {d : List Ev} {r k2 r2} (hK : p = ps.length → K = []) (hd : cm d = 0) (h : Lss nt ps S d (cl ps p ++ K) r k2 r2) : k2 = cl ps p ++ K := by
  cases h with
  | nil => rfl
  | cons e l _ k' _ _ r' _ h1 h2 =>
    by_cases e0 : p = ps.length
    · rw [hK e0] at h1
      unfold cl at h1
      rw [if_pos e0] at h1
      cases h1
    · unfold cl at h1
      rw [if_neg e0] at h1
      cases h1 with
      | cls =>
        rw [cm_cons _ _ (by show (3 : Int) ≠ 1; decide)] at hd
        omega
theorem tok_stop {nt : Nat} {ps : List Pd} {S : Nat → Wd} {c : Int} {K : List Td} {d : List Ev} {r k2 r2} (hd : cm d = 0) (h : Lss nt ps S d (.sym (1, c) :: K) r k2 r2) : k2 = .sym (1, c) :: K := by
  cases h with
  | nil => rfl
  | cons e l _ k' _ _ r' _ h1 h2 =>
    cases h1 with
    | tok =>
      rw [cm_cons _ _ (by show (2 : Int) ≠ 1; decide)] at hd
      omega
    | opn s hd z k r h => simp at h
theorem cl_top {ps : List Pd} {p q : Nat} {K L : List Td} (hK : p = ps.length → K = []) (hL : q = ps.length → L = []) (h : cl ps p ++ K = cl ps q ++ L) : p = q := by
  by_cases e : p = ps.length
  · by_cases e2 : q = ps.length
    · omega
    · rw [hK e] at h
      unfold cl at h
      rw [if_pos e, if_neg e2] at h
      simp at h
  · by_cases e2 : q = ps.length
    · rw [hL e2] at h
      unfold cl at h
      rw [if_neg e, if_pos e2] at h
      simp at h
    · unfold cl at h
      rw [if_neg e, if_neg e2] at h
      simp only [List.cons_append, List.nil_append, List.cons.injEq, Td.cls.injEq] at h
      exact h.1
/-- LEWIS, STEARNS; KNUTH: what is LL(1) is LR(1). -/
theorem ll_nf {nt n : Nat} {ps : List Pd} {E : Nat → Bool} {F V : Nat → Wd} {R M : Nat → Bool} (g : Lg ps E F V R M nt n) (hall : ∀ A, A < n → M A = true) : Nf nt ps E F := by
  constructor
  · intro γ x y hx hy ex ey hl
    obtain ⟨x1, x2, hγ⟩ := vi_ok g.rg hx
    obtain ⟨y1, y2, -⟩ := vi_ok g.rg hy
    obtain ⟨ts, hts⟩ := all_trees g hall hγ
    obtain ⟨K1, p1, l1, a1, a2, a3, a4, a5, a6⟩ := ctx g hall hx ts [] hts (by rw [ex]; simp [shL])
    obtain ⟨K2, p2, l2, b1, b2, b3, b4, b5, b6⟩ := ctx g hall hy ts [] hts (by rw [ey]; simp [shL])
    rw [ex] at a1
    rw [ey] at b1
    simp only [ylL, List.nil_append, List.map_nil] at a1 b1
    have hu := yl_rgL g.rg hts hγ
    have hr1 : Rg2 nt (ylL ps ts γ ++ p1) := fun z hz => (List.mem_append.1 hz).elim (hu z) (a6 z)
    have hr2 : Rg2 nt (ylL ps ts γ ++ p2) := fun z hz => (List.mem_append.1 hz).elim (hu z) (b6 z)
    rcases lss_det (by rw [a3, b3, hl]) a1 rfl rfl hr1 hr2 b1 with ⟨d, w, hd, hdr⟩ | ⟨d, w, hd, hdr⟩
    · have hc : cm d = 0 := by have := b2; rw [hd, cm_app, a2] at this; omega
      have := done_stop (fun e => (a5 e).1) hc hdr
      exact (cl_top (fun e => (b5 e).1) (fun e => (a5 e).1) this).symm
    · have hc : cm d = 0 := by have := a2; rw [hd, cm_app, b2] at this; omega
      have := done_stop (fun e => (b5 e).1) hc hdr
      exact cl_top (fun e => (a5 e).1) (fun e => (b5 e).1) this
  · intro γ x y tl hx hy ex ey
    obtain ⟨x1, x2, hγ⟩ := vi_ok g.rg hx
    obtain ⟨y1, y2, -⟩ := vi_ok g.rg hy
    obtain ⟨ts, hts⟩ := all_trees g hall hγ
    have hin : ∀ u ∈ rst ps y, Ry nt n u := fun u hu => bod_ok g.rg y1 u (List.mem_of_mem_drop hu)
    have hok : OkL (nt : Int) n (rst ps y) := hin
    obtain ⟨zs, hzs⟩ := all_trees g hall hok
    obtain ⟨K1, p1, l1, a1, a2, a3, a4, a5, a6⟩ := ctx g hall hx ts [] hts (by rw [ex]; simp [shL])
    obtain ⟨K2, p2, l2, b1, b2, b3, b4, b5, b6⟩ := ctx g hall hy ts zs hts hzs
    rw [ex] at a1
    simp only [ylL, List.nil_append, List.map_nil] at a1
    have hu := yl_rgL g.rg hts hγ
    have hz := yl_rgL g.rg hzs hok
    have hr1 : Rg2 nt (ylL ps ts γ ++ p1) := fun z hz => (List.mem_append.1 hz).elim (hu z) (a6 z)
    have hr2 : Rg2 nt (ylL ps ts γ ++ (ylL ps zs (rst ps y) ++ p2)) := fun z hm => (List.mem_append.1 hm).elim (hu z) fun hm => (List.mem_append.1 hm).elim (hz z) (b6 z)
    have hcol : colOf nt (ylL ps zs (rst ps y) ++ p2) = x.2.2 := by
      rw [ey] at hzs ⊢
      cases zs with
      | nil => rw [shL] at hzs; simp at hzs
      | cons t zs =>
        rw [ylL]
        simp only [List.headD_cons, List.tail_cons]
        rw [shL] at hzs; simp at hzs
        rw [sh_is_leaf hzs.1 rfl, yl, if_pos rfl]
        simp [colOf]
    have hstk : ∀ k : List Td, (rst ps y).map Td.sym ++ k = Td.sym (1, (x.2.2 : Int)) :: (tl.map Td.sym ++ k) := fun k => by rw [ey]; rfl
    rw [hstk] at b1
    have hno : ∀ k : List Td, Td.sym (1, (x.2.2 : Int)) :: k ≠ cl ps x.1 ++ K1 := fun k e => by
      by_cases e0 : x.1 = ps.length
      · rw [(a5 e0).1] at e
        unfold cl at e
        rw [if_pos e0] at e
        simp at e
      · unfold cl at e
        rw [if_neg e0] at e
        simp at e
    rcases lss_det (by rw [a3, hcol]) a1 rfl rfl hr1 hr2 b1 with ⟨d, w, hd, hdr⟩ | ⟨d, w, hd, hdr⟩
    · have hc : cm d = 0 := by have := b2; rw [hd, cm_app, a2] at this; omega
      exact hno _ (done_stop (fun e => (a5 e).1) hc hdr)
    · have hc : cm d = 0 := by have := a2; rw [hd, cm_app, b2] at this; omega
      exact hno _ (tok_stop hc hdr).symm
end Cg
end Go.Proofs.Ytpbnnmfjahckmaa
