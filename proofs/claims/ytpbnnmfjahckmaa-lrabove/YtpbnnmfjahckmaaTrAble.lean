/-
  The contract of pushkeep.able: the rows of a grammar, and whether it has no clash.
-/
import Derived.Test.YtpbnnmfjahckmaaLlMake
namespace Go.Proofs.Ytpbnnmfjahckmaa
open Go.RowKit
open Cg

def AbQ (w : World) (T n : Nat) (ps : List Pd) (e : Ending) (w' : World) : Prop := ∃ ra rn rc S, e = .returned (.tuple #[.slice ra rn rc, .bool (decide (clsN ps S T n = []))]) ∧ TK ps S ∧ Rws w' (.slice ra rn rc) (rowsL ps S T n) ∧ Below w.heap.size w w'
set_option maxHeartbeats 4000000 in
set_option maxRecDepth 20000 in
theorem able_ok (T n : Nat) (pv : Value) (ps : List Pd) (w : World) (hp : Pds w pv ps) (hk : chk (T : Int) (n : Int) ps = 0) :
    Calls Try.prog 18 #[.agg #[.int .i64 (T : Int), .int .i64 (n : Int), pv]] w fun e w' => AbQ w T n ps e w' := by
  have HP : Hid (Pds w pv ps) := hp
  obtain ⟨ga, gc, rfl, -, -⟩ := hp
  obtain ⟨gm, HGM⟩ : ∃ gm, Hid (ps.length = gm) := ⟨_, (rfl : ps.length = _)⟩
  rw [HGM.out] at HP ⊢
  have HB1 : Hid (Below w.heap.size w (w.alloc (Obj.cells #[.int .i64 (T : Int), .int .i64 (n : Int), .slice ga gm gc] 24))) := below_alloc _ _
  have hc := Make_ok T n _ ps _ (HP.out.below HB1.out) hk
  go_enter Try.func18, Try.ntmps18
  go_wp2_with fail
  refine hc.mono ?_
  rintro _ w2 ⟨ra, rn, rc, vo, vn, vc, rfl, hb, S, htk, hrw, hcl⟩
  obtain ⟨co, cc, hce, hcm, -⟩ := hcl
  simp only [Value.slice.injEq] at hce
  obtain ⟨rfl, rfl, rfl⟩ := hce
  obtain ⟨q, HQ⟩ : ∃ q, Hid (decide (clsN ps S T n = []) = q) := ⟨_, (rfl : decide (clsN ps S T n = []) = _)⟩
  have HFIN : Hid (TK ps S ∧ Rws w2 (.slice ra rn rc) (rowsL ps S T n) ∧ Below w.heap.size w w2) := ⟨htk, hrw, HB1.out.trans (hb.mono HB1.out.size)⟩
  obtain ⟨cn, HCN⟩ : ∃ cn, Hid ((clsN ps S T n).length = cn) := ⟨_, (rfl : (clsN ps S T n).length = _)⟩
  rw [HCN.out] at hcm ⊢
  clear hc htk hrw hb
  cases q with
  | true =>
    have h0 : clsN ps S T n = [] := of_decide_eq_true HQ.out
    have h1 : cn = 0 := by rw [← HCN.out, h0]; rfl
    have hb1 : ((cn : Int) == 0) = true := by simp; omega
    clear h0 h1
    go_wp2_with fail
    go_ret2
    exact ⟨ra, rn, rc, S, by rw [HQ.out]; rfl, HFIN.out.1, HFIN.out.2.1, HFIN.out.2.2⟩
  | false =>
    have h0 : ¬ clsN ps S T n = [] := of_decide_eq_false HQ.out
    have h1 : cn ≠ 0 := fun e => h0 (List.length_eq_zero_iff.1 (HCN.out.trans e))
    have hb1 : ((cn : Int) == 0) = false := by simp; omega
    clear h0 h1
    go_wp2_with fail
    go_ret2
    exact ⟨ra, rn, rc, S, by rw [HQ.out]; rfl, HFIN.out.1, HFIN.out.2.1, HFIN.out.2.2⟩
set_option maxHeartbeats 4000000 in
set_option maxRecDepth 20000 in
theorem able_bad (t n : Int) (pv : Value) (ps : List Pd) (w : World) (hp : Pds w pv ps) (hk : chk t n ps ≠ 0) :
    Calls Try.prog 18 #[.agg #[.int .i64 t, .int .i64 n, pv]] w fun e w' => e = .returned (.tuple #[.slice none 0 0, .bool false]) ∧ Below w.heap.size w w' := by
  have HP : Hid (Pds w pv ps) := hp
  obtain ⟨ga, gc, rfl, -, -⟩ := hp
  obtain ⟨gm, HGM⟩ : ∃ gm, Hid (ps.length = gm) := ⟨_, (rfl : ps.length = _)⟩
  rw [HGM.out] at HP ⊢
  have HB1 : Hid (Below w.heap.size w (w.alloc (Obj.cells #[.int .i64 t, .int .i64 n, .slice ga gm gc] 24))) := below_alloc _ _
  have hc := Make_bad t n _ ps _ (HP.out.below HB1.out) hk
  obtain ⟨ce, HCE⟩ : ∃ ce, Hid (chk t n ps = ce) := ⟨_, (rfl : chk t n ps = _)⟩
  rw [HCE.out] at hc hk
  have hb0 : (ce == 0) = false := by simp; exact hk
  clear hk
  go_enter Try.func18, Try.ntmps18
  go_wp2_with fail
  refine hc.mono ?_
  rintro _ w2 ⟨rfl, hb⟩
  have HB2 : Hid (Below w.heap.size w w2) := HB1.out.trans (hb.mono HB1.out.size)
  clear hc hb
  go_wp2_with fail
  go_ret2
  exact ⟨by simp, HB2.out⟩
end Go.Proofs.Ytpbnnmfjahckmaa
