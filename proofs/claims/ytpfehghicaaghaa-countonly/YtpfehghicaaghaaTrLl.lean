/-
  Trees and tables for one who climbs down, plainly: without a clash each node has the production that the row tells.
-/
import Derived.Test.YtpfehghicaaghaaTrFact
import Derived.Test.YtpfehghicaaghaaLlMath
namespace Go.Proofs.Ytpfehghicaaghaa
namespace Cg

/-- The column of what comes next. -/
def colOf (T : Nat) : List Int → Nat
  | [] => T
  | x :: _ => x.toNat
theorem may_node {ps : List Pd} {E : Nat → Bool} {F V : Nat → Wd} {R M : Nat → Bool} (hfa : Fa ps E F V R M) {kids : List T} {z hd T : Nat} {k : Int} {s : Sy} {post : List Int} (hT : T ≤ 60) (h : sh ps (.mk (z : Int) k kids) s = true) (h4 : s.1 ≠ 1) (hs : s.2 = (hd : Int)) (hV : le (nx post) (V hd)) (hx : ∀ x ∈ yl ps (.mk (z : Int) k kids) s ++ post, 0 ≤ x ∧ x < (T : Int)) : z < ps.length ∧ mayB ps (sts ps E F V) T hd (colOf T (yl ps (.mk (z : Int) k kids) s ++ post)) z = true := by
  obtain ⟨h1, h2, h3, h5⟩ := sh_node h h4
  have hz := isPr_le h1
  have hzl : z < ps.length := by omega
  refine ⟨hzl, ?_⟩
  have eg : ps.getD z (0, []) = ps[z] := by rw [List.getD_eq_getElem?_getD, List.getElem?_eq_getElem hzl]; rfl
  have eh : ps[z].1 = (hd : Int) := by rw [← hs, ← h2]; unfold headOf; rw [Int.toNat_natCast, eg]
  have eb : ps[z].2 = bodyOf ps (z : Int) := by unfold bodyOf; rw [Int.toNat_natCast, eg]
  rw [mayB_at hzl, sts_at hzl, eh, eb]
  simp only [decide_true, Bool.true_and, Int.toNat_natCast]
  have hn := next_shL hfa.m.cl hfa.e.cl hfa.f.cl h5 post (V hd) (Or.inr hV)
  rw [yl, if_neg h4] at hx ⊢
  refine le_bits.1 hn _ ?_
  cases hy : ylL ps kids (bodyOf ps (z : Int)) ++ post with
  | nil => simp [colOf, nx, bc, endW]
  | cons x r =>
    rw [hy] at hx
    have := hx x (by simp)
    have hb : bc T x.toNat = x.toNat := by unfold bc; rw [if_neg (by omega)]
    simp only [colOf, nx, hb]
    have h6 : x.toNat < 64 := by omega
    simp [h6]
theorem clsR_nil {ps : List Pd} {S : Nat → Wd} {T non : Nat} : ∀ {k : Nat}, clsR ps S T non k = [] → ∀ c, c < k → clsC ps S T non c = []
  | 0, _, c, hc => absurd hc (Nat.not_lt_zero _)
  | k + 1, h, c, hc => by
    unfold clsR at h
    obtain ⟨h1, h2⟩ := List.append_eq_nil_iff.1 h
    by_cases e : c = k
    · subst e; exact h2
    · exact clsR_nil h1 c (by omega)
theorem clsN_nil {ps : List Pd} {S : Nat → Wd} {T : Nat} : ∀ {k : Nat}, clsN ps S T k = [] → ∀ non, non < k → ∀ c, c < T + 1 → clsC ps S T non c = []
  | 0, _, non, hn => absurd hn (Nat.not_lt_zero _)
  | k + 1, h, non, hn => by
    unfold clsN at h
    obtain ⟨h1, h2⟩ := List.append_eq_nil_iff.1 h
    by_cases e : non = k
    · subst e; exact clsR_nil h2
    · exact clsN_nil h1 non (by omega)
theorem row_one {ps : List Pd} {S : Nat → Wd} {T n non col z : Nat} (h : clsN ps S T n = []) (hn : non < n) (hc : col < T + 1) (hz : z < ps.length) (hm : mayB ps S T non col z = true) : rowA ps S T non col = (z : Int) := by
  have h1 := clsN_nil h non hn col hc
  unfold clsC at h1
  have h2 : (mayL ps S T non col).tail = [] := List.map_eq_nil_iff.1 h1
  have h3 : (z : Int) ∈ mayL ps S T non col := by
    unfold mayL mayQ
    exact List.mem_map.2 ⟨z, List.mem_filter.2 ⟨List.mem_range.2 hz, hm⟩, rfl⟩
  unfold rowA
  cases hl : mayL ps S T non col with
  | nil => rw [hl] at h3; cases h3
  | cons a l =>
    rw [hl] at h2 h3
    simp only [List.tail_cons] at h2
    subst h2
    simp at h3
    subst h3
    rfl
end Cg
end Go.Proofs.Ytpfehghicaaghaa
