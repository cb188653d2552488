/-
  The contracts of count.check, chart.whole, count.Trees, count.Begins.
-/
import Derived.Test.YtpbnnmfjahckmaaChChart
import Derived.Test.YtpbnnmfjahckmaaGrB
namespace Go.Proofs.Ytpbnnmfjahckmaa
open Go.RowKit
open Cg

def ckW (t n : Int) (ps : List Pd) (ws : List Int) : Int := if chk t n ps = 0 then (if 20 < ws.length then 2 else if ws.all (okN t) = true then 0 else 1) else chk t n ps
theorem ckW_zero {t n : Int} {ps : List Pd} {ws : List Int} (h : ckW t n ps ws = 0) : chk t n ps = 0 ∧ ws.length ≤ 20 ∧ ∀ x ∈ ws, 0 ≤ x ∧ x < t := by
  unfold ckW at h
  split at h
  · rename_i h0
    split at h
    · omega
    · rename_i h1
      split at h
      · rename_i h2
        exact ⟨h0, by omega, fun x hx => okN_le (List.all_eq_true.1 h2 x hx)⟩
      · omega
  · rename_i h0; exact absurd h h0
theorem rc_of {w : World} {t n : Int} {pv wv : Value} {ps : List Pd} {ws : List Int} (hp : Pds w pv ps) (hw : Ints w wv ws) (h : ckW t n ps ws = 0) : n = (n.toNat : Int) ∧ Rc w t n.toNat pv wv ps ws ∧ Rg t n.toNat ps := by
  obtain ⟨h1, h2, h3⟩ := ckW_zero h
  obtain ⟨k0, k1, k2⟩ := chk_zero h1
  have k3 := okTN_le k0
  have e : n = (n.toNat : Int) := by omega
  have hg : Rg t n.toNat ps := rg_of (by rw [← e]; exact h1)
  refine ⟨e, ⟨hp, hw, fun p hm => ?_, k1, fun p hm => ?_, ⟨by have := hg.n1; omega, hg.n2⟩, h2⟩, hg⟩
  · obtain ⟨q, hq, rfl⟩ := List.getElem_of_mem hm
    obtain ⟨m, e1, e2, e3⟩ := hg.hd q hq
    exact ⟨hg.ok q hq, by omega, by omega⟩
  · obtain ⟨q, hq, rfl⟩ := List.getElem_of_mem hm
    exact hg.lb q hq
theorem Rc.kd {w : World} {t : Int} {n : Nat} {pv wv : Value} {ps : List Pd} {ws : List Int} (rc : Rc w t n pv wv ps ws) : Kd ps := fun p hp s hs => by
  rcases (rc.okl p hp).1 s hs with h | h
  · exact Or.inl h.1
  · exact Or.inr h.1

set_option maxHeartbeats 3200000 in
set_option maxRecDepth 20000 in
theorem check_any (t n : Int) (pv wv : Value) (ps : List Pd) (ws : List Int) (w : World) (hp : Pds w pv ps) (hw : Ints w wv ws) :
    Calls Try.prog 37 #[.agg #[.int .i64 t, .int .i64 n, pv], wv] w fun e w' => e = .returned (.int .i64 (ckW t n ps ws)) ∧ Below w.heap.size w w' := by
  have HG0 : Hid (Gb w w.heap.size t n pv ps (w.alloc (Obj.cells #[.int .i64 t, .int .i64 n, pv] 24))) := Gb.box hp t n
  have HI : Hid (Ints w wv ws) := hw
  obtain ⟨ga, gc, rfl, -, -⟩ := hp
  obtain ⟨wao, wc, rfl, hwm, -⟩ := hw
  obtain ⟨r, HR⟩ : ∃ r, Hid (ckW t n ps ws = r) := ⟨_, (rfl : ckW t n ps ws = _)⟩
  rw [HR.out]
  obtain ⟨ce, HCE⟩ : ∃ ce, Hid (chk t n ps = ce) := ⟨_, (rfl : chk t n ps = _)⟩
  obtain ⟨gm, HGM⟩ : ∃ gm, Hid (ps.length = gm) := ⟨_, (rfl : ps.length = _)⟩
  rw [HGM.out] at HG0 ⊢
  go_enter Try.func37, Try.ntmps37
  go_upto_region 1 with fail
  obtain ⟨g, HGG⟩ : ∃ g, Hid (w.heap.size = g) := ⟨_, (rfl : w.heap.size = _)⟩
  generalize w.alloc (Obj.cells #[.int .i64 t, .int .i64 n, .slice ga gm gc] 24) = w1 at HG0 ⊢
  rw [HGG.out] at HG0 ⊢
  have c0 := HG0.out.c0
  have c1 := HG0.out.c1
  have c2 := HG0.out.c2
  go_wp2_with fail
  have hc := Check_any t n _ ps w1 HG0.out.pds
  rw [HCE.out] at hc
  refine hc.mono ?_
  rintro _ w2 ⟨rfl, hb2⟩
  have HG2 : Hid (Gb w g t n (.slice ga gm gc) ps w2) := HG0.out.next hb2
  clear hc hb2 c0 c1 c2 HG0
  by_cases hz : ce = 0
  · subst hz
    have HR2 : Hid (r = if 20 < ws.length then 2 else if ws.all (okN t) = true then 0 else 1) := by show _ = _; rw [← HR.out]; unfold ckW; rw [if_pos HCE.out]
    clear HR HCE
    by_cases hl : ws.length ≤ 20
    · have HR3 : Hid (r = if ws.all (okN t) = true then 0 else 1) := by show _ = _; rw [HR2.out, if_neg (by omega)]
      clear HR2
      have hl2 : (ws.length : Int) ≤ 20 := by omega
      go_wp2_with fail
      go_loopw [18] (fun i wr => ∃ q : Nat, q ≤ ws.length ∧ i = .int .i64 (q : Int) ∧ Hid ((ws.take q).all (okN t) = true) ∧ Hid (Gb w g t n (.slice ga gm gc) ps wr)) (fun i _ => ws.length - (intOf i).toNat)
      case atStart => exact ⟨0, by omega, rfl, rfl, HG2⟩
      case round =>
        obtain ⟨q, hq, rfl, HA, HG⟩ := hrel
        have c0 := HG.out.c0
        have c1 := HG.out.c1
        have c2 := HG.out.c2
        by_cases hlt : q < ws.length
        · obtain ⟨b, o, rfl, hb, hc⟩ := HI.out.cell hlt
          replace hc : wr.cell? ⟨b, o + q, none⟩ = some (.int .i64 ws[q]) := (HG.out.below.cell (p := ⟨b, o + q, none⟩) hb).trans hc
          have hsy := isSym_any t n ga gm gc 1 ws[q] wr
          have HO : Hid (okSy t n (1, ws[q]) = okN t ws[q]) := by show _ = _; unfold okSy; rw [if_pos rfl]
          rw [HO.out] at hsy
          have HS : Hid (okN t ws[q] = true → (ws.take (q + 1)).all (okN t) = true) := fun h => by
            rw [List.take_succ_eq_append_getElem hlt, List.all_append, HA.out]; simp [h]
          have HF : Hid (okN t ws[q] = false → ws.all (okN t) = false) := fun h => List.all_eq_false.2 ⟨_, List.getElem_mem hlt, by simp [h]⟩
          generalize ws[q] = x at hc hsy HS HF HO
          obtain ⟨ok, HOK⟩ : ∃ ok, Hid (okN t x = ok) := ⟨_, (rfl : okN t x = _)⟩
          rw [HOK.out] at hsy HS HF
          have hk1 : (q : Int) < (ws.length : Int) := by omega
          go_wp2_with fail
          refine hsy.mono ?_
          rintro _ w3 ⟨rfl, hb3⟩
          have HG3 : Hid (Gb w g t n (.slice ga gm gc) ps w3) := HG.out.next hb3
          clear hsy hb3 c0 c1 c2 hc
          cases ok with
          | true =>
            go_wp2_with fail
            go_roundw
            case rel => exact ⟨q + 1, by omega, by go_num, HS.out (by trivial), HG3⟩
            case measure => simp [intOf]; omega
          | false =>
            obtain rfl : r = 1 := by rw [HR3.out, HF.out rfl]; simp
            go_wp2_with fail
            go_ret
            exact ⟨by simp, HG3.out.below⟩
        · obtain rfl : q = ws.length := by omega
          obtain rfl : r = 0 := by
            have := HA.out
            rw [List.take_length] at this
            rw [HR3.out, if_pos this]
          go_wp2_with fail
          go_ret
          exact ⟨by simp, HG.out.below⟩
    · obtain rfl : r = 2 := by rw [HR2.out, if_pos (by omega)]
      have hl2 : (20 : Int) < (ws.length : Int) := by omega
      go_wp2_with fail
      go_ret
      exact ⟨by simp, HG2.out.below⟩
  · obtain rfl : r = ce := by rw [← HR.out]; unfold ckW; rw [if_neg (by rw [HCE.out]; exact hz), HCE.out]
    have hb : (r != 0) = true := by simp; exact hz
    go_wp2_with fail
    go_ret
    exact ⟨by simp, HG2.out.below⟩

set_option maxHeartbeats 3200000 in
set_option maxRecDepth 20000 in
theorem whole_any3 (w0 : World) (y : Lay) (t : Int) (n : Nat) (pv wv : Value) (ps : List Pd) (ws : List Int) (op : Bool) (N : TbN) (B : Nat → Nat → Nat → Nat → Nat) (w : World) (rc : Rc w0 t n pv wv ps ws) (h : Ch w0 y t n pv wv ps ws op N B w) (hN : N 0 0 ws.length ≤ 2) :
    Calls Try.prog 39 #[.pointer (some ⟨y.q, 0, none⟩)] w fun e w' => e = .returned (.int .i64 ((N 0 0 ws.length : Nat) : Int)) ∧ Below w.heap.size w w' := by
  have hwl := rc.wl
  have hnl := rc.nl
  have c0 := h.ncell (a := 0) (i := 0) (j := ws.length) (by omega) (by omega) (by omega)
  obtain ⟨wao, wc, rfl, hwm, -⟩ := id rc.wrd
  have c1 : w.cell? ⟨y.q, 5, none⟩ = some (.slice (some ⟨y.bn, 0, none⟩) n n) := h.bcell 5
  have c2 : w.cell? ⟨y.q, 3, none⟩ = some (.slice wao ws.length wc) := h.bcell 3
  simp only [Nat.zero_mul, Nat.zero_add, Int.natCast_zero] at c0
  have k1 : (0 : Int) < (n : Int) := by omega
  have k2 : (ws.length : Int) < 21 := by omega
  clear h rc
  have c0' : w.cell? ⟨y.bn, ws.length, none⟩ = some (.int .u8 ((N 0 0 ws.length : Nat) : Int)) := c0
  clear c0
  generalize N 0 0 ws.length = x at c0' hN ⊢
  have hw : IntKind.i64.wrap (x : Int) = (x : Int) := by rw [IntKind.wrap_i64]; omega
  go_enter Try.func39, Try.ntmps39
  go_wp2_with (go_quiet (fail))
  go_ret
  exact ⟨by simp, ⟨rfl, rfl, rfl, Nat.le_refl _, fun _ _ => rfl⟩⟩
end Go.Proofs.Ytpbnnmfjahckmaa
