/-
  A table's form, plainly; the brackets' states: there are ten at most, none has two acts.
-/
import Derived.Test.YtpbnnmfjahckmaaGrF
import Derived.Test.YtpbnnmfjahckmaaLrMake
import Derived.Test.YtpbnnmfjahckmaaFcBrack
namespace Go.Proofs.Ytpbnnmfjahckmaa
namespace Cg

/-! Of a rule that is WHOLE the look is the end. -/
theorem vi_whole {T : Nat} {ps : List Pd} {E : Nat → Bool} {F : Nat → Wd} {γ : List Sy} {x : It} (h : Vi T ps E F γ x) : x.1 = ps.length → x.2.2 = T := by
  induction h with
  | start => exact fun _ => rfl
  | «open» γ x y _ ho _ =>
    intro e
    obtain ⟨m, tl, -, h2⟩ := ho
    have := h2.1
    omega
  | move γ x s tl _ _ ih => exact fun e => ih e
section
variable {T n : Nat} {ps : List Pd} {E : Nat → Bool} {F : Nat → Wd} {ks ss : List (List It)} {nx : List (List Int)}
theorem cdH_ok (h : Au T n ps E F ks ss nx) {k c : Nat} (hk : k < ks.length) : okAct (ks.length : Int) (ps.length : Int) ((c : Int) == (T : Int)) (cdH T ps ss nx k c) = true := by
  obtain ⟨s, hs⟩ := h.st_at hk
  unfold cdH
  cases e : cd T ps ss nx k c with
  | nil => simp [okAct]
  | cons a l =>
    have ha : a ∈ cd T ps ss nx k c := by rw [e]; simp
    simp only [List.headD_cons]
    unfold cd cnd at ha
    rw [ss_getD hs] at ha
    rcases List.mem_append.1 ha with h1 | h1
    · have hcT : c < T := by
        unfold shA at h1
        split at h1
        · rename_i h2; exact h2.1
        · simp at h1
      rcases sh_at h hs hcT with ⟨-, e2⟩ | ⟨-, q, e2, e3, -⟩
      · rw [e2] at h1; simp at h1
      · rw [e2] at h1
        simp at h1
        subst h1
        have hq := (List.getElem?_eq_some_iff.1 e3).1
        have hne : ((c : Int) == (T : Int)) = false := by simp; omega
        rw [hne]
        simp [okAct, okN]
        omega
    · obtain ⟨x, hx, x1, x2, rfl⟩ := mem_rdL.1 h1
      have hok := h.aw.st.sok hs x hx
      unfold actX
      by_cases e2 : x.1 = ps.length
      · rw [if_pos e2]
        obtain ⟨γ, hg⟩ := gs_reach h (k + 1) k (by omega) hk
        have := vi_whole (gs_vi h hg hs hx) e2
        have he : ((c : Int) == (T : Int)) = true := by simp; omega
        rw [he]; simp [okAct]
      · rw [if_neg e2]
        have := hok.p
        simp [okAct, okN]
        omega
theorem okFrom_all {t S pl : Int} : ∀ (l : List Sy) (q : Nat), (∀ i (hi : i < l.length), okAct S pl (((q + i : Nat) : Int) == t) l[i] = true) → okFrom t S pl q l = true
  | [], _, _ => rfl
  | a :: l, q, h => by
    unfold okFrom
    rw [Bool.and_eq_true]
    refine ⟨by have := h 0 (by simp); simpa using this, okFrom_all l (q + 1) fun i hi => ?_⟩
    have := h (i + 1) (by simp; omega)
    rw [show q + 1 + i = q + (i + 1) by omega]
    simpa using this
theorem okTab_all {t n S pl : Int} : ∀ (al : List (List Sy)) (gs : List (List Int)), (∀ i (hi : i < al.length), okActs t S pl al[i] = true) → (∀ i (hi : i < gs.length), okNext n S gs[i] = true) → okTab t n S pl al gs = true
  | [], _, _, _ => by unfold okTab; rfl
  | _ :: _, [], _, _ => by unfold okTab; rfl
  | a :: al, g :: gs, h1, h2 => by
    unfold okTab
    rw [Bool.and_eq_true, Bool.and_eq_true]
    refine ⟨⟨h1 0 (by simp), h2 0 (by simp)⟩, okTab_all al gs (fun i hi => ?_) (fun i hi => ?_)⟩
    · exact h1 (i + 1) (by simp; omega)
    · exact h2 (i + 1) (by simp; omega)
/-- A table that was made has the form of a table. -/
theorem made_ok (h : Au T n ps E F ks ss nx) (hS : ks.length ≤ 200) : chkT (T : Int) (n : Int) ps (actsT T ks.length ps ss nx) (gotoT T ks.length nx) = 0 := by
  have h0 := (List.getElem?_eq_some_iff.1 h.aw.st.k0).1
  have e0 : (actsT T ks.length ps ss nx).length = ks.length := by simp [actsT]
  have e9 : (gotoT T ks.length nx).length = ks.length := by simp [gotoT]
  unfold chkT
  rw [if_pos h.hk, if_neg (by rw [e0]; omega), if_neg (by rw [e0]; omega), if_pos (by rw [e0, e9]), if_pos ?_]
  have e : ((actsT T ks.length ps ss nx).length : Int) = (ks.length : Int) := by rw [e0]
  rw [e]
  refine okTab_all _ _ (fun i hi => ?_) (fun i hi => ?_)
  · have hi2 : i < ks.length := by simpa [actsT] using hi
    have e1 : (actsT T ks.length ps ss nx)[i] = (List.range (T + 1)).map fun c => cdH T ps ss nx i c := by simp [actsT]
    rw [e1]
    unfold okActs
    rw [Bool.and_eq_true]
    refine ⟨by simp, okFrom_all _ 0 fun j hj => ?_⟩
    rw [Nat.zero_add]
    simpa using cdH_ok h (c := j) hi2
  · have hi2 : i < ks.length := by simpa [gotoT] using hi
    have hi3 : i < nx.length := by rw [h.all]; exact hi2
    have e1 : (gotoT T ks.length nx)[i] = (nx.getD i []).drop T := by simp [gotoT]
    have e2 : nx.getD i [] = nx[i] := by rw [List.getD_eq_getElem?_getD, List.getElem?_eq_getElem hi3]; rfl
    rw [e1, e2]
    obtain ⟨a1, s, a2, a3⟩ := h.aw.rw i _ (List.getElem?_eq_getElem hi3)
    unfold okNext
    rw [Bool.and_eq_true]
    refine ⟨by simp [a1], List.all_eq_true.2 fun z hz => ?_⟩
    obtain ⟨j, hj, e3⟩ := List.getElem_of_mem hz
    rw [List.getElem_drop] at e3
    have hj2 : T + j < (nx[i]).length := by rw [List.length_drop] at hj; omega
    have hto := a3 (T + j) z (by rw [List.getElem?_eq_getElem hj2, e3])
    unfold okTo
    rcases hto with ⟨-, e4⟩ | ⟨-, m, e4, e5⟩
    · simp [e4]
    · have := (List.getElem?_eq_some_iff.1 e5).1
      simp [okN]
      omega
end
/-! The brackets. -/
def brO (z : It) : List It := match rst brs z with
  | [(2, 0)] => [(0, 0, z.2.2), (1, 0, z.2.2)]
  | (2, 0) :: _ => [(0, 0, 1), (1, 0, 1)]
  | _ => []
def brS (z : It) : List It := brO z ++ [z]
def brK : List It := [(2, 0, 2), (2, 1, 2), (1, 1, 2), (1, 2, 2), (1, 3, 2), (1, 4, 2), (1, 1, 1), (1, 2, 1), (1, 3, 1), (1, 4, 1)]
theorem br_hd {lk : Wd} {q : Nat} (hq : q ≤ 2) (hlk : lk = 1#64 <<< q) (y : It) : Hd 2 brs 0 lk y ↔ y = (0, 0, q) ∨ y = (1, 0, q) := by
  subst hlk
  obtain ⟨a, b, c⟩ := y
  unfold Hd
  constructor
  · rintro ⟨h1, h2, h3, h4, h5⟩
    simp only at h1 h2 h3 h4 h5
    have hc : c = q := by
      simp only [BitVec.getLsbD_shiftLeft, BitVec.getLsbD_one] at h5
      simp at h5
      omega
    have ha : a = 0 ∨ a = 1 := by simp [brs] at h1; omega
    subst h3 hc
    rcases ha with rfl | rfl
    · exact Or.inl rfl
    · exact Or.inr rfl
  · have hb : (1#64 <<< q).getLsbD q = true := by
      simp only [BitVec.getLsbD_shiftLeft, BitVec.getLsbD_one]
      simp; omega
    rintro (h | h)
    · injection h with h1 h2
      injection h2 with h2 h3
      subst h1 h2 h3
      exact ⟨by simp [brs], by simp [brs], rfl, hq, hb⟩
    · injection h with h1 h2
      injection h2 with h2 h3
      subst h1 h2 h3
      exact ⟨by simp [brs], by simp [brs], rfl, hq, hb⟩
theorem br_opn1 {E : Nat → Bool} {F : Nat → Wd} {x : It} (h : rst brs x = [(2, 0)]) (hq : x.2.2 ≤ 2) (y : It) : Opn 2 brs E F x y ↔ y = (0, 0, x.2.2) ∨ y = (1, 0, x.2.2) := by
  rw [← br_hd hq rfl y]
  constructor
  · rintro ⟨m, tl, h1, h2⟩
    rw [h] at h1
    simp at h1
    obtain ⟨rfl, rfl⟩ := h1
    simpa [bg] using h2
  · intro h2
    exact ⟨0, [], h, by simpa [bg] using h2⟩
theorem br_opn2 {E : Nat → Bool} {F : Nat → Wd} {x : It} {l : List Sy} (h : rst brs x = (2, 0) :: (1, 1) :: l) (y : It) : Opn 2 brs E F x y ↔ y = (0, 0, 1) ∨ y = (1, 0, 1) := by
  have hb : ∀ b, bg E F ((1, 1) :: l) b = 1#64 <<< 1 := fun b => by rw [bg, if_pos rfl]; rfl
  rw [← br_hd (q := 1) (by omega) rfl y]
  constructor
  · rintro ⟨m, tl, h1, h2⟩
    rw [h] at h1
    simp at h1
    obtain ⟨rfl, rfl⟩ := h1
    rw [hb] at h2; exact h2
  · intro h2
    exact ⟨0, _, h, by rw [hb]; exact h2⟩
theorem br_opn0 {E : Nat → Bool} {F : Nat → Wd} {x : It} (h : ∀ m tl, rst brs x ≠ (2, m) :: tl) (y : It) : ¬ Opn 2 brs E F x y := by
  rintro ⟨m, tl, h1, -⟩
  exact h m tl h1
theorem br_opn {E : Nat → Bool} {F : Nat → Wd} {z : It} (hz : z ∈ brK) (y : It) : Opn 2 brs E F z y ↔ y ∈ brO z := by
  simp only [brK, List.mem_cons, List.not_mem_nil, or_false] at hz
  rcases hz with rfl | rfl | rfl | rfl | rfl | rfl | rfl | rfl | rfl | rfl
  · rw [br_opn1 (by decide) (by decide)]; simp [brO, show rst brs (2, 0, 2) = [(2, 0)] by decide]
  · refine ⟨fun h => absurd h (br_opn0 (fun m tl => by rw [show rst brs (2, 1, 2) = [] by decide]; simp) y), fun h => ?_⟩
    simp [brO, show rst brs (2, 1, 2) = [] by decide] at h
  · rw [br_opn2 (l := [(2, 0)]) (by decide)]; simp [brO, show rst brs (1, 1, 2) = [(2, 0), (1, 1), (2, 0)] by decide]
  · refine ⟨fun h => absurd h (br_opn0 (fun m tl => by rw [show rst brs (1, 2, 2) = [(1, 1), (2, 0)] by decide]; simp) y), fun h => ?_⟩
    simp [brO, show rst brs (1, 2, 2) = [(1, 1), (2, 0)] by decide] at h
  · rw [br_opn1 (by decide) (by decide)]; simp [brO, show rst brs (1, 3, 2) = [(2, 0)] by decide]
  · refine ⟨fun h => absurd h (br_opn0 (fun m tl => by rw [show rst brs (1, 4, 2) = [] by decide]; simp) y), fun h => ?_⟩
    simp [brO, show rst brs (1, 4, 2) = [] by decide] at h
  · rw [br_opn2 (l := [(2, 0)]) (by decide)]; simp [brO, show rst brs (1, 1, 1) = [(2, 0), (1, 1), (2, 0)] by decide]
  · refine ⟨fun h => absurd h (br_opn0 (fun m tl => by rw [show rst brs (1, 2, 1) = [(1, 1), (2, 0)] by decide]; simp) y), fun h => ?_⟩
    simp [brO, show rst brs (1, 2, 1) = [(1, 1), (2, 0)] by decide] at h
  · rw [br_opn1 (by decide) (by decide)]; simp [brO, show rst brs (1, 3, 1) = [(2, 0)] by decide]
  · refine ⟨fun h => absurd h (br_opn0 (fun m tl => by rw [show rst brs (1, 4, 1) = [] by decide]; simp) y), fun h => ?_⟩
    simp [brO, show rst brs (1, 4, 1) = [] by decide] at h
theorem br_none {E : Nat → Bool} {F : Nat → Wd} {z x : It} (hz : z ∈ brK) (hx : x ∈ brO z) (y : It) : ¬ Opn 2 brs E F x y := by
  refine br_opn0 (fun m tl => ?_) y
  have key : ∀ z ∈ brK, ∀ x ∈ brO z, (rst brs x).head? = none ∨ (rst brs x).head? = some (1, 0) := by decide
  rcases key z hz x hx with h | h
  · intro e; rw [e] at h; simp at h
  · intro e; rw [e] at h; simp at h
theorem br_rise : ∀ z ∈ brK, Rise (brS z) := by
  intro z hz
  simp only [brK, List.mem_cons, List.not_mem_nil, or_false] at hz
  have key : ∀ l : List It, (l = [] ∨ ∃ q, l = [(0, 0, q), (1, 0, q)]) → ∀ z : It, (∀ x ∈ l, ltI x z) → Rise (l ++ [z]) := by
    rintro l (rfl | ⟨q, rfl⟩) z h
    · simp [Rise]
    · have a := h (0, 0, q) (by simp)
      have b := h (1, 0, q) (by simp)
      unfold Rise
      simp only [List.cons_append, List.nil_append, List.pairwise_cons, List.mem_cons, List.not_mem_nil, or_false]
      refine ⟨?_, ?_, ?_, List.Pairwise.nil⟩
      · rintro y (rfl | rfl)
        · exact Or.inl (by show (0 : Nat) < 1; omega)
        · exact a
      · rintro y rfl; exact b
      · intro y hy; exact absurd hy (by simp)
  have lt2 : ∀ (p d k q : Nat) (x : It), x ∈ [((0, 0, q) : It), (1, 0, q)] → (1 < p ∨ (p = 1 ∧ 0 < d)) → ltI x (p, d, k) := by
    intro p d k q x hx h
    simp at hx
    rcases hx with rfl | rfl
    · exact Or.inl (by show (0 : Nat) < p; omega)
    · rcases h with h | ⟨rfl, h⟩
      · exact Or.inl h
      · exact Or.inr ⟨rfl, Or.inl h⟩
  have e : ∀ z ∈ brK, (brO z = [] ∨ ∃ q, brO z = [(0, 0, q), (1, 0, q)]) ∧ (1 < z.1 ∨ (z.1 = 1 ∧ 0 < z.2.1)) := by
    intro z hz
    simp only [brK, List.mem_cons, List.not_mem_nil, or_false] at hz
    rcases hz with rfl | rfl | rfl | rfl | rfl | rfl | rfl | rfl | rfl | rfl
    · exact ⟨Or.inr ⟨2, by decide⟩, by decide⟩
    · exact ⟨Or.inl (by decide), by decide⟩
    · exact ⟨Or.inr ⟨1, by decide⟩, by decide⟩
    · exact ⟨Or.inl (by decide), by decide⟩
    · exact ⟨Or.inr ⟨2, by decide⟩, by decide⟩
    · exact ⟨Or.inl (by decide), by decide⟩
    · exact ⟨Or.inr ⟨1, by decide⟩, by decide⟩
    · exact ⟨Or.inl (by decide), by decide⟩
    · exact ⟨Or.inr ⟨1, by decide⟩, by decide⟩
    · exact ⟨Or.inl (by decide), by decide⟩
  have hz2 : z ∈ brK := by simp only [brK, List.mem_cons, List.not_mem_nil, or_false]; exact hz
  obtain ⟨h1, h2⟩ := e z hz2
  refine key _ h1 z fun x hx => ?_
  rcases h1 with h1 | ⟨q, h1⟩
  · rw [h1] at hx; simp at hx
  · rw [h1] at hx
    exact lt2 z.1 z.2.1 z.2.2 q x hx h2
theorem br_clsd {E : Nat → Bool} {F : Nat → Wd} {z : It} (hz : z ∈ brK) : Clsd 2 brs E F [z] (brS z) := by
  refine ⟨br_rise z hz, fun x => ⟨fun hx => ?_, fun hx => ?_⟩⟩
  · rcases List.mem_append.1 hx with h | h
    · exact .step z x (.base z (by simp)) ((br_opn hz x).2 h)
    · simp at h; subst h; exact .base x (by simp)
  · induction hx with
    | base x h => simp at h; subst h; exact List.mem_append_right _ (by simp)
    | step x y _ ho ih =>
      rcases List.mem_append.1 ih with h | h
      · exact absurd ho (br_none hz h y)
      · simp at h; subst h; exact List.mem_append_left _ ((br_opn hz y).1 ho)
theorem br_move : ∀ z ∈ brK, ∀ s ∈ [((1, 0) : Sy), (1, 1), (2, 0)], mvd brs s (brS z) = [] ∨ ∃ z' ∈ brK, mvd brs s (brS z) = [z'] := by decide
theorem br_syms : ∀ z ∈ brK, ∀ y ∈ brS z, (rst brs y).head? = none ∨ ∃ s ∈ [((1, 0) : Sy), (1, 1), (2, 0)], (rst brs y).head? = some s := by decide
theorem br_acts : ∀ z ∈ brK, ∀ c ∈ [0, 1, 2], (rdL brs (brS z) c).length + (if mvd brs (1, (c : Int)) (brS z) = [] then 0 else 1) ≤ 1 := by decide
theorem br_all {E : Nat → Bool} {F : Nat → Wd} {ks ss : List (List It)} (h : Sts 2 brs E F ks ss) : ∀ (N i : Nat), i < N → ∀ k, ks[i]? = some k → ∃ z ∈ brK, k = [z] ∧ ∀ s, ss[i]? = some s → s = brS z
  | 0, i, hi, _, _ => by omega
  | N + 1, i, hi, k, hk => by
    have key : ∃ z ∈ brK, k = [z] := by
      cases i with
      | zero =>
        rw [h.k0] at hk
        cases hk
        exact ⟨(2, 0, 2), by decide, rfl⟩
      | succ i =>
        obtain ⟨j, s, hj, hs, x, e⟩ := h.fr i k hk
        have hjl : j < ks.length := by rw [← h.len]; exact (List.getElem?_eq_some_iff.1 hs).1
        obtain ⟨z, hz, -, hz2⟩ := br_all h N j (by omega) _ (List.getElem?_eq_getElem hjl)
        have := hz2 s hs
        subst this
        have hne := h.ne k (List.mem_of_getElem? hk)
        obtain ⟨y, hy⟩ := List.exists_mem_of_ne_nil k hne
        rw [e] at hy
        obtain ⟨y0, hy0, ⟨tl, hr⟩, -⟩ := mem_mvd.1 hy
        have hx : x ∈ [((1, 0) : Sy), (1, 1), (2, 0)] := by
          rcases br_syms z hz y0 hy0 with h1 | ⟨s, h1, h2⟩
          · rw [hr] at h1; simp at h1
          · rw [hr] at h2; simp at h2; rw [h2]; exact h1
        rcases br_move z hz x hx with h1 | ⟨z', h1, h2⟩
        · rw [h1] at e; exact absurd e hne
        · exact ⟨z', h1, by rw [e, h2]⟩
    obtain ⟨z, hz, rfl⟩ := key
    exact ⟨z, hz, rfl, fun s hs => (h.cl i _ s hk hs).uniq (br_clsd hz)⟩
theorem br_few {E : Nat → Bool} {F : Nat → Wd} {ks ss : List (List It)} (h : Sts 2 brs E F ks ss) : ks.length ≤ 10 := by
  have hm : ∀ k ∈ ks, ∃ z ∈ brK, k = [z] := fun k hk => by
    obtain ⟨i, hi, e⟩ := List.getElem_of_mem hk
    obtain ⟨z, h1, h2, -⟩ := br_all h (i + 1) i (by omega) k (by rw [List.getElem?_eq_getElem hi, e])
    exact ⟨z, h1, h2⟩
  have hcd : ∀ z ∈ brK, z.1 * 100 + z.2.1 * 10 + z.2.2 < 1000 := by decide
  have hin : ∀ z ∈ brK, ∀ z' ∈ brK, brK.idxOf z = brK.idxOf z' → z = z' := by decide
  have h1 : (ks.map fun k => brK.idxOf (k.headD (0, 0, 0))).Nodup := by
    rw [List.nodup_iff_pairwise_ne, List.pairwise_map]
    refine List.Pairwise.imp_of_mem ?_ h.nd
    intro a b ha hb hne e
    obtain ⟨z, hz, rfl⟩ := hm a ha
    obtain ⟨z', hz', rfl⟩ := hm b hb
    simp only [List.headD_cons] at e
    exact hne (by rw [hin z hz z' hz' e])
  have := nd_le 10 _ h1 fun x hx => by
    obtain ⟨k, hk, rfl⟩ := List.mem_map.1 hx
    obtain ⟨z, hz, rfl⟩ := hm k hk
    have key : ∀ z ∈ brK, brK.idxOf z < 10 := by decide
    simpa using key z hz
  simpa using this
theorem br_two {E : Nat → Bool} {F : Nat → Wd} {ks ss : List (List It)} {nx : List (List Int)} (h : Au 2 1 brs E F ks ss nx) : 2 ≤ ks.length := by
  have h0 := (List.getElem?_eq_some_iff.1 h.aw.st.k0).1
  obtain ⟨s, hs⟩ := h.st_at h0
  obtain ⟨z, hz, e1, e2⟩ := br_all h.aw.st 1 0 (by omega) _ h.aw.st.k0
  have hzz : z = (2, 0, 2) := by
    simp [brs] at e1; exact e1.symm
  subst hzz
  have := e2 s hs
  subst this
  obtain ⟨r, q, m1, m2, m3⟩ := h.move hs (j := 2) (by omega)
  have e3 : mvd brs (symAt 2 2) (brS (2, 0, 2)) = [(2, 1, 2)] := by decide
  rw [e3] at m3
  rcases m3 with ⟨m3, -⟩ | ⟨-, m, -, m4⟩
  · simp at m3
  · have hm := (List.getElem?_eq_some_iff.1 m4).1
    have : m ≠ 0 := fun e => by
      subst e
      rw [h.aw.st.k0] at m4
      simp [brs] at m4
    omega
theorem br_calm {E : Nat → Bool} {F : Nat → Wd} {ks ss : List (List It)} {nx : List (List Int)} (h : Au 2 1 brs E F ks ss nx) : ftN 2 brs ss nx ks.length = [] := by
  refine ftN_nil.2 fun i hi c hc => ?_
  obtain ⟨s, hs⟩ := h.st_at hi
  obtain ⟨z, hz, -, e2⟩ := br_all h.aw.st (i + 1) i (by omega) _ (List.getElem?_eq_getElem hi)
  have := e2 s hs
  subst this
  have ha := br_acts z hz c (by simp; omega)
  unfold cd cnd
  rw [ss_getD hs, List.length_append]
  by_cases hT : c < 2
  · rcases sh_at h hs hT with ⟨e, e3⟩ | ⟨hne, k, e3, -⟩
    · rw [e3]; rw [if_pos e] at ha; simpa using ha
    · rw [e3]; rw [if_neg hne] at ha; simp; omega
  · have e3 : shA 2 (nx.getD i []) c = [] := by unfold shA; rw [if_neg (fun e => hT e.1)]
    rw [e3]
    simp
    split at ha <;> omega
end Cg
end Go.Proofs.Ytpbnnmfjahckmaa
