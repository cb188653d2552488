/-
  The contracts of pushref.Begin and of slices.Equal at rows of truth values and of sets.
-/
import Derived.Test.YtdclhkjhbippdaaFcOf
namespace Go.Proofs.Ytdclhkjhbippdaa
open Go.RowKit
open Cg

set_option maxHeartbeats 6400000 in
set_option maxRecDepth 20000 in
theorem refBegin_any (t : Int) (ht : t ≤ 30) (n be bf : Nat) (E : Nat → Bool) (F : Nat → Wd) (v2 v3 v4 : Value) (x : Wd) : ∀ (l : List Sy) (v : Value) (w : World), Syms w v l → Rb w be n E → Rw w bf n F → OkL t n l →
    Calls Try.prog 19 #[.agg #[(.slice (some ⟨be, 0, none⟩) n n), (.slice (some ⟨bf, 0, none⟩) n n), v2, v3, v4], v, .int .u64 (x.toNat : Int)] w fun e w' => e = .returned (.int .u64 ((bg E F l x).toNat : Int)) ∧ Below w.heap.size w w' := by
  intro l
  induction l with
  | nil =>
    intro v w hv he hf ok
    obtain ⟨bo, bc, rfl, hm, -⟩ := hv
    have HB : Hid (Below w.heap.size w (w.alloc (Obj.cells #[(.slice (some ⟨be, 0, none⟩) n n), (.slice (some ⟨bf, 0, none⟩) n n), v2, v3, v4] 55))) := below_alloc _ _
    have e0 : bg E F [] x = x := rfl
    rw [e0]
    have e1 : ((([] : List Sy).length : Nat) : Int) = 0 := rfl
    simp only [List.length_nil]
    clear he hf ok hm
    go_enter Try.func19, Try.ntmps19
    go_wp2_with fail
    go_ret
    exact ⟨by simp, HB.out⟩
  | cons s l ih =>
    intro v w hv he hf ok
    have HIH : Hid (∀ (v : Value) (w : World), Syms w v l → Rb w be n E → Rw w bf n F → OkL t n l → Calls Try.prog 19 #[.agg #[(.slice (some ⟨be, 0, none⟩) n n), (.slice (some ⟨bf, 0, none⟩) n n), v2, v3, v4], v, .int .u64 (x.toNat : Int)] w fun e w' => e = .returned (.int .u64 ((bg E F l x).toNat : Int)) ∧ Below w.heap.size w w') := ih
    clear ih
    have hv' := hv
    obtain ⟨bo, bc, rfl, hm, hcs⟩ := hv
    obtain ⟨b2, o, rfl, hb, hc⟩ := hcs.resolve_left (by simp)
    obtain ⟨c0, c1⟩ := hc 0 (by simp)
    obtain ⟨kd, m, e1, e2, e3, hk⟩ := ok.at (q := 0) (by simp)
    simp only [List.getElem_cons_zero] at c0 c1 e1 e2 e3
    rw [e1] at c0
    rw [e2] at c1
    rw [Nat.zero_mul, Nat.add_zero] at c0 c1
    have hln : (((s :: l).length : Nat) : Int) = (l.length : Int) + 1 := by simp
    obtain ⟨wb, HWB⟩ : ∃ wb, Hid ((w.alloc (Obj.cells #[(.slice (some ⟨be, 0, none⟩) n n), (.slice (some ⟨bf, 0, none⟩) n n), v2, v3, v4] 55)).alloc (Obj.cells #[.int .i64 kd, .int .i64 (m : Int)] 52) = wb) := ⟨_, (rfl : _ = _)⟩
    have hb0 := below_alloc2 w (Obj.cells #[(.slice (some ⟨be, 0, none⟩) n n), (.slice (some ⟨bf, 0, none⟩) n n), v2, v3, v4] 55) (Obj.cells #[.int .i64 kd, .int .i64 (m : Int)] 52)
    have r1 := (row_vals5 w (.slice (some ⟨be, 0, none⟩) n n) (.slice (some ⟨bf, 0, none⟩) n n) v2 v3 v4).alloc (Obj.cells #[.int .i64 kd, .int .i64 (m : Int)] 52)
    have r2 := row_two (w.alloc (Obj.cells #[(.slice (some ⟨be, 0, none⟩) n n), (.slice (some ⟨bf, 0, none⟩) n n), v2, v3, v4] 55)) (.int .i64 kd) (.int .i64 (m : Int)) 52
    rw [show (w.alloc (Obj.cells #[(.slice (some ⟨be, 0, none⟩) n n), (.slice (some ⟨bf, 0, none⟩) n n), v2, v3, v4] 55)).heap.size = w.heap.size + 1 by simp] at r2
    rw [HWB.out] at hb0 r1 r2
    have HR1 : Hid (wb.rowIs w.heap.size 55 5 (fv (.slice (some ⟨be, 0, none⟩) n n) (.slice (some ⟨bf, 0, none⟩) n n) v2 v3 v4)) := r1
    have HR2 : Hid (wb.rowIs (w.heap.size + 1) 52 2 (fun i => if i = 0 then .int .i64 kd else .int .i64 (m : Int))) := r2
    have HB0 : Hid (Below w.heap.size w wb) := hb0
    have HE : Hid (Rb wb be n E) := he.next hb0
    have HF : Hid (Rw wb bf n F) := hf.next hb0
    have HSY : Hid (Syms wb (.slice (some ⟨b2, o, none⟩) (s :: l).length bc) (s :: l)) := hv'.below hb0
    have HOK : Hid (OkL t n l) := fun s' hs' => ok s' (List.mem_cons_of_mem _ hs')
    have HBG : Hid (bg E F (s :: l) x = if kd = 1 then 1#64 <<< m else F m ||| (if E m = true then bg E F l x else 0#64)) := by
      show _ = _
      conv => lhs; unfold bg
      rw [e1, e3]
    rw [HBG.out]
    have cw0 : (w.alloc (Obj.cells #[(.slice (some ⟨be, 0, none⟩) n n), (.slice (some ⟨bf, 0, none⟩) n n), v2, v3, v4] 55)).cell? ⟨b2, o, none⟩ = some (.int .i64 kd) := ((below_alloc w _).cell (p := ⟨b2, o, none⟩) hb).trans c0
    have cw1 : (w.alloc (Obj.cells #[(.slice (some ⟨be, 0, none⟩) n n), (.slice (some ⟨bf, 0, none⟩) n n), v2, v3, v4] 55)).cell? ⟨b2, o + 1, none⟩ = some (.int .i64 (m : Int)) := ((below_alloc w _).cell (p := ⟨b2, o + 1, none⟩) hb).trans c1
    have hd1 : decide ((((s :: l).length : Nat) : Int) = 0) = false := by simp; omega
    have hd2 : ((((s :: l).length : Nat) : Int) == 0) = false := by simp; omega
    have hd3 : (0 : Int) < (((s :: l).length : Nat) : Int) := by omega
    clear e1 e2 e3 hb0 r1 r2 hc hcs hv' he hf ok HBG c0 c1 hln
    obtain ⟨ll, HLL⟩ : ∃ ll, Hid ((s :: l).length = ll) := ⟨_, (rfl : (s :: l).length = (s :: l).length)⟩
    rw [HLL.out] at hd1 hd2 hd3 HSY hm ⊢
    rcases hk with ⟨rfl, hk⟩ | ⟨rfl, hk⟩
    · rw [if_pos rfl]
      have hm64 : m < 64 := by omega
      have hs := shl_one m hm64
      generalize 1#64 <<< m = sv at hs ⊢
      go_enter Try.func19, Try.ntmps19
      go_wp2_with fail
      rw [HWB.out]
      go_ret
      exact ⟨by simp, HB0.out⟩
    · rw [if_neg (by omega : ¬ ((2 : Int) = 1))]
      have hk2 : (m : Int) < (n : Int) := by omega
      have y0 := HR1.out.cell (i := 0) (by omega)
      have y1 := HR1.out.cell (i := 1) (by omega)
      have y2 := HR2.out.cell (i := 1) (by omega)
      simp only [fv, if_neg (by omega : ¬ (1 : Nat) = 0)] at y0 y1 y2
      have y3 := HE.out.cell hk
      have y4 := HF.out.cell hk
      rw [← HWB.out] at y0 y1 y2 y3 y4
      generalize HEM : E m = im at y3 ⊢
      cases im with
      | false =>
        rw [if_neg (by simp)]
        have hz : F m ||| 0#64 = F m := by simp
        rw [hz]
        generalize F m = fm at y4 ⊢
        clear hz HEM
        go_enter Try.func19, Try.ntmps19
        go_wp2_with fail
        rw [HWB.out]
        go_ret
        exact ⟨by simp, HB0.out⟩
      | true =>
        rw [if_pos rfl]
        obtain ⟨dv, HDV⟩ : ∃ dv, Hid (Value.slice (if bc = 1 then some ⟨b2, o, none⟩ else some ⟨b2, o + 2, none⟩) (ll - 1) (bc - 1) = dv) := ⟨_, (rfl : _ = _)⟩
        have HDS : Hid (Syms wb dv l) := by
          show Syms _ _ _
          rw [← HDV.out]
          have h1 := HSY.out
          rw [← HLL.out] at h1 ⊢
          have h2 := syms_drop h1 1
          simpa using h2
        obtain ⟨z, HZ⟩ : ∃ z, Hid (bg E F l x = z) := ⟨_, (rfl : bg E F l x = bg E F l x)⟩
        rw [HZ.out]
        have ho := or64 (F m) z
        generalize hfm : F m = fm at y4 ho ⊢
        obtain ⟨zz, HZZ⟩ : ∃ zz, Hid (fm ||| z = zz) := ⟨_, (rfl : fm ||| z = fm ||| z)⟩
        rw [HZZ.out] at ho ⊢
        have hne : Nonempty (Kp (Sb wb)) := ⟨⟨_, Sb.drew wb⟩⟩
        have k0 : ∀ p : Kp (Sb wb), p.W.cell? ⟨w.heap.size, 0, none⟩ = some (.slice (some ⟨be, 0, none⟩) n n) := fun p => (HR1.out.of_block (Below.block p.h _ HR1.out.lt)).cell (i := 0) (by omega)
        have k1 : ∀ p : Kp (Sb wb), p.W.cell? ⟨w.heap.size, 1, none⟩ = some (.slice (some ⟨bf, 0, none⟩) n n) := fun p => (HR1.out.of_block (Below.block p.h _ HR1.out.lt)).cell (i := 1) (by omega)
        have k2 : ∀ p : Kp (Sb wb), p.W.cell? ⟨w.heap.size, 2, none⟩ = some v2 := fun p => (HR1.out.of_block (Below.block p.h _ HR1.out.lt)).cell (i := 2) (by omega)
        have k3 : ∀ p : Kp (Sb wb), p.W.cell? ⟨w.heap.size, 3, none⟩ = some v3 := fun p => (HR1.out.of_block (Below.block p.h _ HR1.out.lt)).cell (i := 3) (by omega)
        have k4 : ∀ p : Kp (Sb wb), p.W.cell? ⟨w.heap.size, 4, none⟩ = some v4 := fun p => (HR1.out.of_block (Below.block p.h _ HR1.out.lt)).cell (i := 4) (by omega)
        have k5 : ∀ p : Kp (Sb wb), p.W.cell? ⟨w.heap.size + 1, 1, none⟩ = some (.int .i64 (m : Int)) := fun p => (HR2.out.of_block (Below.block p.h _ HR2.out.lt)).cell (i := 1) (by omega)
        have k6 : ∀ p : Kp (Sb wb), p.W.cell? ⟨bf, m, none⟩ = some (.int .u64 (fm.toNat : Int)) := fun p => by have := (HF.out.next p.h).cell hk; rw [hfm] at this; exact this
        have HC : Hid (∀ p : Kp (Sb wb), Calls Try.prog 19 #[.agg #[(.slice (some ⟨be, 0, none⟩) n n), (.slice (some ⟨bf, 0, none⟩) n n), v2, v3, v4], dv, .int .u64 (x.toNat : Int)] p.W fun e w'' => e = .returned (.int .u64 (z.toNat : Int)) ∧ ∃ q : Kp (Sb wb), w'' = q.W) := fun p => by
          have := HIH.out dv p.W (HDS.out.below p.h) (HE.out.next p.h) (HF.out.next p.h) HOK.out
          rw [HZ.out] at this
          exact Kp.calls p Sb.next this
        clear hfm HEM
        go_enter Try.func19, Try.ntmps19
        go_wp2_with fail
        rw [HWB.out]
        refine wp_region_kept mixed (by kernel_rfl) (Sb.drew wb) ?_
        repeat (go_big_quiet_step (fail))
        rw [HDV.out]
        repeat (go_big_quiet_step (first | (go_at_call 19; with_reducible exact HC.out _)))
        refine wpQuiet_nil ?_
        intro W2 hw2
        obtain ⟨p2, rfl⟩ := hw2
        have HX : Hid (Below w.heap.size w p2.W) := HB0.out.trans (Below.mono p2.h HB0.out.size)
        go_wp2_with fail
        go_ret
        exact ⟨by simp, HX.out⟩
set_option maxHeartbeats 6400000 in
set_option maxRecDepth 20000 in
theorem equalu64_any (n a b ca cb : Nat) (hn : n ≤ 1000) (f g : Nat → Wd) (w : World) (ha : ∀ i, i < n → w.cell? ⟨a, i, none⟩ = some (.int .u64 ((f i).toNat : Int))) (hb : ∀ i, i < n → w.cell? ⟨b, i, none⟩ = some (.int .u64 ((g i).toNat : Int))) :
    Calls Try.prog 29 #[.slice (some ⟨a, 0, none⟩) n ca, .slice (some ⟨b, 0, none⟩) n cb] w fun e w' => ∃ r, e = .returned (.bool r) ∧ (r = true ↔ ∀ i, i < n → f i = g i) ∧ Below w.heap.size w w' := by
  have HA : Hid (∀ i, i < n → w.cell? ⟨a, i, none⟩ = some (.int .u64 ((f i).toNat : Int))) := ha
  have HB : Hid (∀ i, i < n → w.cell? ⟨b, i, none⟩ = some (.int .u64 ((g i).toNat : Int))) := hb
  clear ha hb
  go_enter Try.func29, Try.ntmps29
  go_wp2_with fail
  go_loopw [13] (fun i wr => ∃ q : Nat, q ≤ n ∧ i = .int .i64 (q : Int) ∧ Hid (∀ i, i < q → f i = g i) ∧ Sm w wr) (fun i _ => n - (intOf i).toNat)
  case atStart => exact ⟨0, by omega, rfl, fun i hi => absurd hi (Nat.not_lt_zero _), rfl, rfl, rfl, rfl⟩
  case round =>
    obtain ⟨q, hq, rfl, HQ, hsm⟩ := hrel
    by_cases hlt : q < n
    · have c0 := (hsm.cell ⟨a, q, none⟩).trans (HA.out q hlt)
      have c1 := (hsm.cell ⟨b, q, none⟩).trans (HB.out q hlt)
      have hk1 : (q : Int) < (n : Int) := by omega
      have hk0 : (0 : Int) ≤ (q : Int) := by omega
      have b1 : decide ((q : Int) < 0) = false := by simp
      have b2 : decide ((n : Int) ≤ (q : Int)) = false := by simp; omega
      have HSM : Hid (Sm w wr) := hsm
      have HEQ : Hid (f q = g q → ∀ i, i < q + 1 → f i = g i) := fun e i hi => by
        by_cases ei : i = q
        · subst ei; exact e
        · exact HQ.out i (by omega)
      by_cases e : f q = g q
      · have hne : (((f q).toNat : Int) != ((g q).toNat : Int)) = false := by rw [e]; simp
        have HN : Hid (∀ i, i < q + 1 → f i = g i) := HEQ.out e
        clear e hsm
        go_wp2_with (go_quiet (fail))
        have HS2 : Hid (Sm w (wr.drewN nq)) := ⟨HSM.out.heap, HSM.out.os, HSM.out.tape, HSM.out.output⟩
        go_roundw
        case rel => exact ⟨q + 1, by omega, by go_num, HN.out, HS2.out⟩
        case measure => simp [intOf]; omega
      · have hne : (((f q).toNat : Int) != ((g q).toNat : Int)) = true := by exact bne_iff_ne.2 fun h => e (BitVec.eq_of_toNat_eq (Int.ofNat.inj h))
        have HN : Hid (¬ ∀ i, i < n → f i = g i) := fun h => e (h q hlt)
        clear e hsm
        go_wp2_with (go_quiet (fail))
        have HS2 : Hid (Below w.heap.size w (wr.drewN nq)) := (⟨HSM.out.heap, HSM.out.os, HSM.out.tape, HSM.out.output⟩ : Sm w (wr.drewN nq)).below _
        go_ret
        exact ⟨false, by simp, ⟨fun h => (by cases h), fun h => absurd h HN.out⟩, HS2.out⟩
    · have HN : Hid (∀ i, i < n → f i = g i) := fun i hi => HQ.out i (by omega)
      have HS2 : Hid (Below w.heap.size w wr) := hsm.below _
      clear hsm
      go_wp2_with fail
      go_ret
      exact ⟨true, by simp, ⟨fun _ => HN.out, fun _ => rfl⟩, HS2.out⟩
set_option maxHeartbeats 6400000 in
set_option maxRecDepth 20000 in
theorem equalnil_any (n b cb : Nat) (hn : 1 ≤ n) (w : World) :
    Calls Try.prog 29 #[.slice none 0 0, .slice (some ⟨b, 0, none⟩) n cb] w fun e w' => e = .returned (.bool false) ∧ Below w.heap.size w w' := by
  have h1 : ((0 : Int) != (n : Int)) = true := bne_iff_ne.2 (by omega)
  go_enter Try.func29, Try.ntmps29
  go_wp2_with fail
  go_ret
  exact ⟨by simp, Below.refl _ _⟩
end Go.Proofs.Ytdclhkjhbippdaa
