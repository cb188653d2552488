/-
  The contract of trees.endsWith: do the last of these trees stand for these symbols?
-/
import Derived.Test.YtldfiofgknmcgabTrDone
import Derived.Test.YtldfiofgknmcgabTrLow
namespace Go.Proofs.Ytldfiofgknmcgab
open Go.RowKit
open Cg

theorem Cg.endsW_iff {ps : List Pd} {st : List T} {body : List Sy} (h : body.length ≤ st.length) : endsW ps st body = true ↔ ∀ j (h2 : j < body.length), isOf ps (st[st.length - body.length + j]'(by omega)).p body[j] = true := by
  unfold endsW
  simp only [h, decide_true, Bool.true_and, List.all_eq_true]
  have hl : ((st.drop (st.length - body.length)).zip body).length = body.length := by simp; omega
  constructor
  · intro ha j h2
    have := ha (((st.drop (st.length - body.length)).zip body)[j]'(by omega)) (List.getElem_mem _)
    rw [List.getElem_zip] at this
    simpa using this
  · intro ha x hx
    obtain ⟨j, hj, rfl⟩ := List.mem_iff_getElem.1 hx
    rw [List.getElem_zip]
    have := ha j (by omega)
    simpa using this
/-- What endsWith holds in a round: the grammar and the tree in boxes. -/
def Se (w : World) (t n : Int) (pv : Value) (ps : List Pd) (q : Nat) (x0 x1 : Int) (xa : Option Addr) (xn xc : Nat) (W : World) : Prop := Gb w w.heap.size t n pv ps W ∧ Bx W q x0 x1 xa xn xc
theorem Se.next {w : World} {t n : Int} {pv : Value} {ps : List Pd} {q : Nat} {x0 x1 : Int} {xa : Option Addr} {xn xc : Nat} (W W' : World) (h : Se w t n pv ps q x0 x1 xa xn xc W) (hb : Below W.heap.size W W') : Se w t n pv ps q x0 x1 xa xn xc W' := ⟨h.1.next hb, h.2.next hb⟩

set_option maxHeartbeats 8000000 in
set_option maxRecDepth 20000 in
theorem endsWith_any (tt n : Int) (pv : Value) (ps : List Pd) (a : Option Addr) (c : Nat) (st : List T) (bv : Value) (body : List Sy) (P : Nat → Prop) (w : World) (hp : Pds w pv ps) (hv : Tx w P (.agg #[.int .i64 0, .int .i64 0, .slice a st.length c]) (.mk 0 0 st)) (hc : st.length ≤ c) (hb : Syms w bv body) :
    Calls Try.prog 38 #[.agg #[.int .i64 tt, .int .i64 n, pv], .slice a st.length c, bv] w fun e w' => e = .returned (.bool (endsW ps st body)) ∧ Below w.heap.size w w' := by
  have HP : Hid (Pds w pv ps) := hp
  have HX : Hid (Tx w P (.agg #[.int .i64 0, .int .i64 0, .slice a st.length c]) (.mk 0 0 st)) := hv
  have HGB : Hid (Gb w w.heap.size tt n pv ps (w.alloc (Obj.cells #[.int .i64 tt, .int .i64 n, pv] 24))) := Gb.box hp tt n
  obtain ⟨ga, gc, rfl, -, -⟩ := hp
  obtain ⟨p2, k2, ao2, cap2, kids2, vals, e1, e2, hm, -⟩ := hv.shape
  injection e2 with e3 e4 e5
  subst e5
  clear e1 e3 e4 hv
  have HSY : Hid (Syms w bv body) := hb
  obtain ⟨bo, bc, rfl, hbm, -⟩ := hb
  obtain ⟨gm, HGM⟩ : ∃ gm, Hid (ps.length = gm) := ⟨_, (rfl : ps.length = ps.length)⟩
  rw [HGM.out] at HP HGB ⊢
  obtain ⟨r, HR⟩ : ∃ r, Hid (endsW ps st body = r) := ⟨_, (rfl : endsW ps st body = _)⟩
  rw [HR.out]
  obtain ⟨sn, HSN⟩ : ∃ sn, Hid (st.length = sn) := ⟨_, (rfl : st.length = _)⟩
  obtain ⟨bl, HBL⟩ : ∃ bl, Hid (body.length = bl) := ⟨_, (rfl : body.length = _)⟩
  rw [HSN.out] at HX hc hm ⊢
  rw [HBL.out] at HSY hbm ⊢
  by_cases hlt : sn < bl
  · have hbb : decide ((sn : Int) < (bl : Int)) = true := by simp; omega
    obtain rfl : r = false := by rw [← HR.out]; unfold endsW; rw [HSN.out, HBL.out]; simp; omega
    go_enter Try.func38, Try.ntmps38
    go_wp2_with fail
    go_ret
    exact ⟨by simp, HGB.out.below⟩
  · have hbb : decide ((sn : Int) < (bl : Int)) = false := by simp; omega
    have HIF : Hid (r = true ↔ ∀ j (h1 : sn - bl + j < st.length) (h2 : j < body.length), isOf ps (st[sn - bl + j]).p body[j] = true) := by
      have h1 := endsW_iff (ps := ps) (st := st) (body := body) (by rw [HSN.out, HBL.out]; omega)
      rw [HR.out] at h1
      refine h1.trans ⟨fun h j h1 h2 => ?_, fun h j h2 => ?_⟩
      · have := h j h2
        simpa [HSN.out, HBL.out] using this
      · have := h j (by rw [HBL.out] at h2; rw [HSN.out]; omega) h2
        simpa [HSN.out, HBL.out] using this
    have hle : (bl : Int) ≤ (sn : Int) := by omega
    by_cases hz : bl = 0
    · obtain rfl : r = true := by rw [HIF.out]; intro j _ h2; rw [HBL.out] at h2; omega
      have hz0 : ¬ (0 : Int) < (bl : Int) := by omega
      have hz1 : ¬ 0 < bl := by omega
      have HBE : Hid (sn - (sn - bl) = bl) := (by omega : sn - (sn - bl) = bl)
      have HZ : Hid (bl = 0) := hz
      clear HIF hz
      go_enter Try.func38, Try.ntmps38
      go_upto_region 4 with fail
      all_goals
        rw [HBE.out]
        go_loopw [22] (fun y wr => y = .int .i64 0 ∧ Hid (Below w.heap.size w wr)) (fun _ _ => 0)
        case atStart => exact ⟨rfl, HGB.out.below⟩
        case round =>
          obtain ⟨rfl, HI⟩ := hrel
          go_wp2_with fail
          go_ret
          exact ⟨by simp, HI.out⟩
    · obtain ⟨b2, o2, -, -, -, -, -, rfl, -⟩ := HX.out.kid 0 (by rw [HSN.out]; omega)
      have hcn : ¬ c = sn - bl := by omega
      obtain ⟨lo, HLO⟩ : ∃ lo : Nat, Hid (sn - bl = lo) := ⟨_, (rfl : sn - bl = _)⟩
      have HBE : Hid (sn - lo = bl) := by have := HLO.out; show _ = _; omega
      have HLS : Hid (lo + bl = sn) := by have := HLO.out; show _ = _; omega
      rw [HLO.out] at HIF
      clear hz
      go_enter Try.func38, Try.ntmps38
      go_upto_region 4 with fail
      rw [HLO.out, HBE.out]
      clear hcn
      try simp only [Option.map_some, Addr.add_lit]
      generalize (w.alloc (Obj.cells #[.int .i64 tt, .int .i64 n, .slice ga gm gc] 24)) = w1 at HGB ⊢
      go_loopw [22] (fun y wr => ∃ i : Nat, i ≤ bl ∧ y = .int .i64 (i : Int) ∧ Hid (Gb w w.heap.size tt n (.slice ga gm gc) ps wr ∧ ∀ j (h1 : lo + j < st.length) (h2 : j < body.length), j < i → isOf ps (st[lo + j]).p body[j] = true)) (fun y _ => bl - (intOf y).toNat)
      case atStart => exact ⟨0, by omega, rfl, HGB.out, fun j _ _ h => absurd h (Nat.not_lt_zero _)⟩
      case round =>
        obtain ⟨i, hi, rfl, HI⟩ := hrel
        clear HGB
        by_cases hlb : i < bl
        · have hls : lo + i < st.length := by rw [HSN.out]; have := HLS.out; omega
          have hib : i < body.length := by rw [HBL.out]; exact hlb
          obtain ⟨b3, o3, p', k', a', n', c', hae, KD⟩ := HX.out.kid (lo + i) hls
          simp only [Option.some.injEq, Addr.mk.injEq, and_true] at hae
          obtain ⟨rfl, rfl⟩ := hae
          obtain ⟨bo2, bc2, hse, -, hsc⟩ := HSY.out
          simp only [Value.slice.injEq] at hse
          obtain ⟨rfl, -, rfl⟩ := hse
          obtain ⟨b4, o4, rfl, hb4, hsc⟩ := hsc.resolve_left (by intro e; subst e; simp at hib)
          obtain ⟨g0, g1⟩ := hsc i hib
          have hbel := HI.out.1.below
          have q0 : wr.cell? ⟨b2, o2 + lo * 3 + i * 3, none⟩ = some (.int .i64 p') := by
            have := (hbel.cell (p := ⟨b2, o2 + (lo + i) * 3, none⟩) KD.lt).trans KD.c0
            rwa [show o2 + (lo + i) * 3 = o2 + lo * 3 + i * 3 by omega] at this
          have q1 : wr.cell? ⟨b2, o2 + lo * 3 + i * 3 + 1, none⟩ = some (.int .i64 k') := by
            have := (hbel.cell (p := ⟨b2, o2 + (lo + i) * 3 + 1, none⟩) KD.lt).trans KD.c1
            rwa [show o2 + (lo + i) * 3 = o2 + lo * 3 + i * 3 by omega] at this
          have q2 : wr.cell? ⟨b2, o2 + lo * 3 + i * 3 + 2, none⟩ = some (.slice a' n' c') := by
            have := (hbel.cell (p := ⟨b2, o2 + (lo + i) * 3 + 2, none⟩) KD.lt).trans KD.c2
            rwa [show o2 + (lo + i) * 3 = o2 + lo * 3 + i * 3 by omega] at this
          have HPR : Hid (p' = (st[lo + i]).p) := KD.pr
          obtain ⟨x0, x1, HXX⟩ : ∃ x0 x1, Hid (body[i] = (x0, x1)) := ⟨_, _, (rfl : body[i] = (body[i].1, body[i].2))⟩
          rw [HXX.out] at g0 g1
          have HGC : Hid (∀ W, Below w.heap.size w W → W.cell? ⟨b4, o4 + i * 2, none⟩ = some (.int .i64 x0) ∧ W.cell? ⟨b4, o4 + i * 2 + 1, none⟩ = some (.int .i64 x1)) := fun W hb => ⟨(hb.cell (p := ⟨b4, o4 + i * 2, none⟩) hb4).trans g0, (hb.cell (p := ⟨b4, o4 + i * 2 + 1, none⟩) hb4).trans g1⟩
          have hk1 : (i : Int) < (bl : Int) := by omega
          have hk0 : (0 : Int) ≤ (i : Int) := by omega
          have HS0 : Hid (Se w tt n (.slice ga gm gc) ps wr.heap.size p' k' a' n' c' (wr.alloc (Obj.cells #[.int .i64 p', .int .i64 k', .slice a' n' c'] 27))) := ⟨HI.out.1.next (below_alloc _ _), Bx.box _ _ _ _ _ _⟩
          clear KD hsc g0 g1 hbel
          go_upto_region 6 with fail
          obtain ⟨q, HQ⟩ : ∃ q, Hid (wr.heap.size = q) := ⟨_, (rfl : wr.heap.size = _)⟩
          rw [HQ.out] at HS0 ⊢
          generalize wr.alloc (Obj.cells #[.int .i64 p', .int .i64 k', .slice a' n' c'] 27) = w2 at HS0 ⊢
          clear q0 q1 q2 HQ
          obtain ⟨rb, HRB⟩ : ∃ rb, Hid (isOf ps p' (x0, x1) = rb) := ⟨_, (rfl : isOf ps p' (x0, x1) = _)⟩
          have HC : Hid (∀ X : Kp (Se w tt n (.slice ga gm gc) ps q p' k' a' n' c'), Calls Try.prog 39 #[.agg #[.int .i64 tt, .int .i64 n, .slice ga gm gc], .int .i64 p', .agg #[.int .i64 x0, .int .i64 x1]] X.W fun e w' => e = .returned (.bool rb) ∧ Below X.W.heap.size X.W w') := fun X => by
            have := isOf_any tt n _ ps x0 x1 p' X.W X.h.1.pds
            rw [HRB.out] at this; exact this
          have S1 : Se w tt n (.slice ga gm gc) ps q p' k' a' n' c' w2.drew := HS0.out.next _ _ ((Below.refl _ _).drew)
          have y0 : ∀ X : Kp (Se w tt n (.slice ga gm gc) ps q p' k' a' n' c'), X.W.cell? ⟨w.heap.size, 0, none⟩ = some (.int .i64 tt) := fun X => X.h.1.c0
          have y1 : ∀ X : Kp (Se w tt n (.slice ga gm gc) ps q p' k' a' n' c'), X.W.cell? ⟨w.heap.size, 1, none⟩ = some (.int .i64 n) := fun X => X.h.1.c1
          have y2 : ∀ X : Kp (Se w tt n (.slice ga gm gc) ps q p' k' a' n' c'), X.W.cell? ⟨w.heap.size, 2, none⟩ = some (.slice ga gm gc) := fun X => X.h.1.c2
          have y3 : ∀ X : Kp (Se w tt n (.slice ga gm gc) ps q p' k' a' n' c'), X.W.cell? ⟨q, 0, none⟩ = some (.int .i64 p') := fun X => X.h.2.c0
          have y4 : ∀ X : Kp (Se w tt n (.slice ga gm gc) ps q p' k' a' n' c'), X.W.cell? ⟨b4, o4 + i * 2, none⟩ = some (.int .i64 x0) := fun X => (HGC.out X.W X.h.1.below).1
          have y5 : ∀ X : Kp (Se w tt n (.slice ga gm gc) ps q p' k' a' n' c'), X.W.cell? ⟨b4, o4 + i * 2 + 1, none⟩ = some (.int .i64 x1) := fun X => (HGC.out X.W X.h.1.below).2
          have hne : Nonempty (Kp (Se w tt n (.slice ga gm gc) ps q p' k' a' n' c')) := ⟨⟨_, S1⟩⟩
          refine wp_region_kept mixed (by kernel_rfl) S1 ?_
          clear S1
          repeat (go_big_quiet_step (first | (go_at_call 39; with_reducible exact Kp.calls _ Se.next (HC.out _))))
          refine wpQuiet_nil ?_
          intro W1 hw1
          obtain ⟨⟨W1, HS⟩, rfl⟩ := hw1
          have HS1 : Hid (Gb w w.heap.size tt n (.slice ga gm gc) ps W1) := HS.1
          clear y0 y1 y2 y3 y4 y5 hne HS HC HS0
          cases rb with
          | true =>
            have HNX : Hid (∀ j (h1 : lo + j < st.length) (h2 : j < body.length), j < i + 1 → isOf ps (st[lo + j]).p body[j] = true) := fun j h1 h2 h3 => by
              by_cases e : j < i
              · exact HI.out.2 j h1 h2 e
              · obtain rfl : j = i := by omega
                rw [← HPR.out, HXX.out]; exact HRB.out
            go_wp2_with fail
            go_roundw
            case rel => exact ⟨i + 1, by omega, by go_num, HS1.out, HNX.out⟩
            case measure => simp [intOf]; omega
          | false =>
            obtain rfl : r = false := by
              cases hr : r with
              | false => rfl
              | true =>
                have := HIF.out.1 hr i hls hib
                rw [← HPR.out, HXX.out, HRB.out] at this
                cases this
            go_wp2_with fail
            go_ret
            exact ⟨by simp, HS1.out.below⟩
        · obtain rfl : r = true := HIF.out.2 fun j h1 h2 => HI.out.2 j h1 h2 (by rw [HBL.out] at h2; omega)
          have hk1 : ¬ (i : Int) < (bl : Int) := by omega
          go_wp2_with fail
          go_ret
          exact ⟨by simp, HI.out.1.below⟩
end Go.Proofs.Ytldfiofgknmcgab
