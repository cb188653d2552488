/-
  The contract of (*maker).row.
-/
import Derived.Test.YtpbnnmfjahckmaaMkNum
import Derived.Test.YtpbnnmfjahckmaaGrB
namespace Go.Proofs.Ytpbnnmfjahckmaa
open Go.RowKit
open Cg

/-- A row of numbers that lies above the rows of before grows. -/
theorem Mk.grow3 {w0 : World} {mb : Nat} {T n : Int} {pv v0 v1 v2 v3 v4 kv sv nv : Value} {us vs ws : List Value} {ks ss : List (List It)} {nx : List (List Int)} {W W' : World} (h : Mk w0 mb T n pv v0 v1 v2 v3 v4 kv sv nv us vs ws ks ss nx W) {B m : Nat} {xv : Value} {xs : List Value} (hx : W.ownsRow B 3 1 xv m xs) (hg : W.grownBy W' xv.ownBlock) (hB : w0.heap.size ≤ B) (up : ∀ (i : Nat) u q, ws[i]? = some u → u.ownBlock = some q → q < B) :
    Mk w0 mb T n pv v0 v1 v2 v3 v4 kv sv nv us vs ws ks ss nx W' := by
  have eT : ∀ (q : Nat) cur t, t ≠ 3 → W.heap[q]? = some (Obj.cells cur t (0, 0)) → W'.heap[q]? = W.heap[q]? := fun q cur t ht hq => hg.block q (mheap_lt hq) (fun e => by
    obtain ⟨c1, p1⟩ := mown_blk hx e.symm
    rw [hq] at p1; cases p1; exact ht rfl)
  refine ⟨Below.grown h.bw hg h.bw.size (fun q hq => Nat.le_trans hB (hx.lt q hq).1), h.ge, (eT mb _ 141 (by decide) h.bx).trans h.bx, ?_, ?_, ?_, h.ne, ?_, ?_, fun i l hl => ?_⟩
  · exact row_keep h.kr fun q hq => by obtain ⟨cur, hc⟩ := mown_blk h.kr hq; exact eT q cur 103 (by decide) hc
  · exact row_keep h.sr fun q hq => by obtain ⟨cur, hc⟩ := mown_blk h.sr hq; exact eT q cur 103 (by decide) hc
  · exact row_keep h.nr fun q hq => by obtain ⟨cur, hc⟩ := mown_blk h.nr hq; exact eT q cur 29 (by decide) hc
  · exact h.ki.keep fun q cur hq => eT q cur 145 (by decide) hq
  · exact h.si.keep fun q cur hq => eT q cur 145 (by decide) hq
  · obtain ⟨u, h1, h2⟩ := h.ni i l hl
    refine ⟨u, h1, row_keep h2 fun q hq => hg.block q (h2.lt q hq).2 (fun e => ?_)⟩
    have a1 := up i u q h1 hq
    have a2 := (hx.lt q e.symm).1
    omega
theorem Mk.up {w0 : World} {mb : Nat} {T n : Int} {pv v0 v1 v2 v3 v4 kv sv nv : Value} {us vs ws : List Value} {ks ss : List (List It)} {nx : List (List Int)} {W : World} (h : Mk w0 mb T n pv v0 v1 v2 v3 v4 kv sv nv us vs ws ks ss nx W) : ∀ (i : Nat) u q, ws[i]? = some u → u.ownBlock = some q → q < W.heap.size := fun i u q hi hq => by
  have h1 := (List.getElem?_eq_some_iff.1 hi).1
  have h2 : i < nx.length := by have := h.nr.1; omega
  obtain ⟨u', a1, a2⟩ := h.ni i _ (List.getElem?_eq_getElem h2)
  rw [hi] at a1
  cases a1
  exact (a2.lt q hq).2
/-- What row holds while it goes on. -/
structure Rst (w0 : World) (mb T n : Nat) (pv : Value) (be bf bw br bm : Nat) (E : Nat → Bool) (F : Nat → Wd) (kv0 sv0 nv : Value) (ws : List Value) (ks0 ss0 : List (List It)) (nx : List (List Int)) (ps : List Pd) (s : List It) (uv : Value) (w : World) (vv : Value) (r : List Int) (W : World) : Prop where
  mm : ∃ kv sv us vs ks ss, Mk w0 mb (T : Int) (n : Int) pv (.slice (some ⟨be, 0, none⟩) n n) (.slice (some ⟨bf, 0, none⟩) n n) (.slice (some ⟨bw, 0, none⟩) n n) (.slice (some ⟨br, 0, none⟩) n n) (.slice (some ⟨bm, 0, none⟩) n n) kv sv nv us vs ws ks ss nx W ∧ Rwy T ps E F ks0 ss0 s ks ss r ∧
    (∀ q, kv.ownBlock = some q → kv0.ownBlock = some q ∨ w.heap.size ≤ q) ∧ (∀ q, sv.ownBlock = some q → sv0.ownBlock = some q ∨ w.heap.size ≤ q)
  own : W.ownsRow w.heap.size 3 1 vv r.length (r.map (Value.int .i64))
  st : W.ownsRow w0.heap.size 145 3 uv s.length (ics s)
  fm : Fm (Mx mb kv0 sv0) w W
section
variable {w0 : World} {mb T n : Nat} {pv : Value} {be bf bw br bm : Nat} {E : Nat → Bool} {F : Nat → Wd} {kv0 sv0 nv : Value} {ws : List Value} {ks0 ss0 : List (List It)} {nx : List (List Int)} {ps : List Pd} {s : List It} {uv : Value} {w : World} {vv : Value} {r : List Int} {W W' : World}
theorem Rst.next (h : Rst w0 mb T n pv be bf bw br bm E F kv0 sv0 nv ws ks0 ss0 nx ps s uv w vv r W) (hb : Below W.heap.size W W') : Rst w0 mb T n pv be bf bw br bm E F kv0 sv0 nv ws ks0 ss0 nx ps s uv w vv r W' := by
  obtain ⟨kv, sv, us, vs, ks, ss, h1, h2, h3, h4⟩ := h.mm
  exact ⟨⟨kv, sv, us, vs, ks, ss, h1.next hb, h2, h3, h4⟩, own_below h.own hb, own_below h.st hb, h.fm.trans (Fm.of hb) (fun q _ hq => hq)⟩
theorem Rst.num (h : Rst w0 mb T n pv be bf bw br bm E F kv0 sv0 nv ws ks0 ss0 nx ps s uv w vv r W) {kv sv : Value} {us vs : List Value} {ks ss : List (List It)} (hm : Mk w0 mb (T : Int) (n : Int) pv (.slice (some ⟨be, 0, none⟩) n n) (.slice (some ⟨bf, 0, none⟩) n n) (.slice (some ⟨bw, 0, none⟩) n n) (.slice (some ⟨br, 0, none⟩) n n) (.slice (some ⟨bm, 0, none⟩) n n) kv sv nv us vs ws ks ss nx W)
    (o1 : ∀ q, kv.ownBlock = some q → kv0.ownBlock = some q ∨ w.heap.size ≤ q) (o2 : ∀ q, sv.ownBlock = some q → sv0.ownBlock = some q ∨ w.heap.size ≤ q) (hf : Fm (Mx mb kv sv) W W') :
    W'.ownsRow w.heap.size 3 1 vv r.length (r.map (Value.int .i64)) ∧ Fm (Mx mb kv0 sv0) w W' ∧ W'.ownsRow w0.heap.size 145 3 uv s.length (ics s) := by
  refine ⟨row_keep h.own fun q hq => hf.block q (h.own.lt q hq).2 (fun e => ?_), h.fm.trans hf (fun q hq hx => ?_), row_keep h.st fun q hq => hf.block q (h.st.lt q hq).2 (fun e => ?_)⟩
  · rcases e with e | e | e
    · subst e; exact mown_box h.own hm.bx (by decide) hq
    · exact mown_ne h.own hm.kr (by decide) hq e
    · exact mown_ne h.own hm.sr (by decide) hq e
  · rcases hx with e | e | e
    · exact Or.inl e
    · rcases o1 q e with e | e
      · exact Or.inr (Or.inl e)
      · omega
    · rcases o2 q e with e | e
      · exact Or.inr (Or.inr e)
      · omega
  · rcases e with e | e | e
    · subst e; exact mown_box h.st hm.bx (by decide) hq
    · exact mown_ne h.st hm.kr (by decide) hq e
    · exact mown_ne h.st hm.sr (by decide) hq e
theorem Rst.grow {kv sv : Value} {us vs : List Value} {ks ss : List (List It)} {z : Int} {g cp : Nat} (hm : Mk w0 mb (T : Int) (n : Int) pv (.slice (some ⟨be, 0, none⟩) n n) (.slice (some ⟨bf, 0, none⟩) n n) (.slice (some ⟨bw, 0, none⟩) n n) (.slice (some ⟨br, 0, none⟩) n n) (.slice (some ⟨bm, 0, none⟩) n n) kv sv nv us vs ws ks ss nx W)
    (hr : Rwy T ps E F ks0 ss0 s ks ss (r ++ [z])) (o1 : ∀ q, kv.ownBlock = some q → kv0.ownBlock = some q ∨ w.heap.size ≤ q) (o2 : ∀ q, sv.ownBlock = some q → sv0.ownBlock = some q ∨ w.heap.size ≤ q)
    (h4 : W.ownsRow w.heap.size 3 1 vv r.length (r.map (Value.int .i64)) ∧ Fm (Mx mb kv0 sv0) w W ∧ W.ownsRow w0.heap.size 145 3 uv s.length (ics s)) (hg : W.grownBy W' vv.ownBlock) (ho : W'.ownsRow w.heap.size 3 1 (.slice (some ⟨g, 0, none⟩) (r.length + 1) cp) (r.length + 1) (r.map (Value.int .i64) ++ [.int .i64 z])) (up : ∀ (i : Nat) u q, ws[i]? = some u → u.ownBlock = some q → q < w.heap.size) (hw : w0.heap.size ≤ w.heap.size) :
    Rst w0 mb T n pv be bf bw br bm E F kv0 sv0 nv ws ks0 ss0 nx ps s uv w (.slice (some ⟨g, 0, none⟩) (r.length + 1) cp) (r ++ [z]) W' := by
  refine ⟨⟨kv, sv, us, vs, ks, ss, hm.grow3 h4.1 hg hw up, hr, o1, o2⟩, by rw [List.length_append, List.map_append]; exact ho, h4.2.2.kept hg ?_, h4.2.1.trans (Fm.grownO hg) (fun q hq hx => ?_)⟩
  · cases e : uv.ownBlock with
    | none => exact Or.inl rfl
    | some q => exact Or.inr (fun e2 => mown_ne h4.2.2 h4.1 (by decide) e e2.symm)
  · have := (h4.1.lt q hx).1; omega
end
/-- What row leaves. -/
def RwQ (w0 : World) (mb T n : Nat) (pv : Value) (be bf bw br bm : Nat) (E : Nat → Bool) (F : Nat → Wd) (nv : Value) (ws : List Value) (ks0 ss0 : List (List It)) (nx : List (List Int)) (ps : List Pd) (s : List It) (w : World) (e : Ending) (w' : World) : Prop :=
  ∃ vv r kv sv us vs ks ss, e = .returned vv ∧ r.length = T + n ∧ w'.ownsRow w.heap.size 3 1 vv r.length (r.map (Value.int .i64)) ∧ Mk w0 mb (T : Int) (n : Int) pv (.slice (some ⟨be, 0, none⟩) n n) (.slice (some ⟨bf, 0, none⟩) n n) (.slice (some ⟨bw, 0, none⟩) n n) (.slice (some ⟨br, 0, none⟩) n n) (.slice (some ⟨bm, 0, none⟩) n n) kv sv nv us vs ws ks ss nx w' ∧ Rwy T ps E F ks0 ss0 s ks ss r
set_option maxHeartbeats 16000000 in
set_option maxRecDepth 20000 in
theorem row_any (w0 : World) (mb T n : Nat) (pv : Value) (ps : List Pd) (be bf bw br bm : Nat) (E : Nat → Bool) (F V : Nat → Wd) (R M : Nat → Bool) (kv0 sv0 nv : Value) (us0 vs0 ws : List Value) (ks0 ss0 : List (List It)) (nx : List (List Int)) (w : World) (h : Mk w0 mb (T : Int) (n : Int) pv (.slice (some ⟨be, 0, none⟩) n n) (.slice (some ⟨bf, 0, none⟩) n n) (.slice (some ⟨bw, 0, none⟩) n n) (.slice (some ⟨br, 0, none⟩) n n) (.slice (some ⟨bm, 0, none⟩) n n) kv0 sv0 nv us0 vs0 ws ks0 ss0 nx w)
    (hp : Pds w0 pv ps) (hk : chk (T : Int) (n : Int) ps = 0) (hx : Fx n be bf bw br bm E F V R M w0) (hst : Sts T ps E F ks0 ss0) (uv : Value) (s : List It) (hs : s ∈ ss0) (hu : w.ownsRow w0.heap.size 145 3 uv s.length (ics s)) (hfew : ks0.length ≤ 300) :
    Calls Try.prog 73 #[.pointer (some ⟨mb, 0, none⟩), uv] w fun e w' => RwQ w0 mb T n pv be bf bw br bm E F nv ws ks0 ss0 nx ps s w e w' := by
  obtain ⟨i3, hi3, hz0, hz1, hz2⟩ := minfo_parts info3
  have HTN : Hid (T ≤ 30 ∧ n ≤ 20 ∧ ks0.length ≤ 300) := by have := okTN_le (chk_zero hk).1; exact ⟨by omega, by omega, hfew⟩
  have HPD : Hid (Pds w0 pv ps) := hp
  have HK : Hid (chk (T : Int) (n : Int) ps = 0) := hk
  have HFX : Hid (Fx n be bf bw br bm E F V R M w0) := hx
  have HUP : Hid (∀ (i : Nat) u q, ws[i]? = some u → u.ownBlock = some q → q < w.heap.size) := h.up
  have HW0 : Hid (w0.heap.size ≤ w.heap.size) := h.bw.size
  have HOK : Hid (∀ x ∈ s, OkIt T ps x) := by
    obtain ⟨i, hi, e⟩ := List.getElem_of_mem hs
    exact hst.sok (i := i) (by rw [List.getElem?_eq_getElem hi, e])
  have HSL : Hid (s.length ≤ 11439) := by
    obtain ⟨i, hi, e⟩ := List.getElem_of_mem hs
    have h1 : i < ks0.length := by rw [← hst.len]; exact hi
    exact count_le hk (rise_nodup (hst.cl i _ s (List.getElem?_eq_getElem h1) (by rw [List.getElem?_eq_getElem hi, e])).1) HOK.out
  have HST0 : Hid (Rst w0 mb T n pv be bf bw br bm E F kv0 sv0 nv ws ks0 ss0 nx ps s uv w (.slice none 0 0) [] w) :=
    ⟨⟨kv0, sv0, us0, vs0, ks0, ss0, h, ⟨hst, hs, ⟨[], by simp⟩, ⟨[], by simp⟩, by simp, fun j z hz => by simp at hz⟩, fun q hq => Or.inl hq, fun q hq => Or.inl hq⟩, World.ownsRow_nil _ _ _ _, hu, Fm.refl _ _⟩
  have hmk : ∀ W : World, (Instr.makeSlice 29 (.int .i64 0) (.int .i64 ((T : Int) + (n : Int)))).run Try.prog W = .ok (.slice (some ⟨W.heap.size, 0, none⟩) 0 (T + n)) (W.alloc (.cells (madeCells #[.int .i64 0] (T + n)) 3)) := fun W => by
    have hr := run_make (P := Try.prog) W 29 3 i3 _ Try.underlying29 hi3 hz0 .i64 .i64 0 ((T : Int) + (n : Int)) (by omega) (by omega) (by rw [hz2]; have := HTN.out; omega) (by have := HTN.out; omega)
    rw [show ((T : Int) + (n : Int)).toNat = T + n by omega, show (0 : Int).toNat = 0 from rfl, hz1, Nat.mul_one] at hr
    exact hr
  have b0 := mcell_blk h.bx 0
  have b1 := mcell_blk h.bx 1
  simp only [List.getElem?_toArray, List.getElem?_cons_zero, List.getElem?_cons_succ] at b0 b1
  have hlt := mheap_lt h.bx
  have c0 : ∀ p : Kp (Sb w), p.W.cell? ⟨mb, 0, none⟩ = some (.int .i64 (T : Int)) := fun p => (Below.cell (w := w) p.h (p := ⟨mb, 0, none⟩) hlt).trans b0
  have c1 : ∀ p : Kp (Sb w), p.W.cell? ⟨mb, 1, none⟩ = some (.int .i64 (n : Int)) := fun p => (Below.cell (w := w) p.h (p := ⟨mb, 1, none⟩) hlt).trans b1
  have hne : Nonempty (Kp (Sb w)) := ⟨⟨_, Sb.drew w⟩⟩
  obtain ⟨uo, un, uc, rfl⟩ := own_form hu
  have htn1 := HTN.out
  have hw1 : IntKind.i64.wrap ((T : Int) + (n : Int)) = (T : Int) + (n : Int) := by rw [IntKind.wrap_i64]; omega
  clear h hp hk hx hst hs hu hfew hlt b0 b1
  go_enter Try.func73, Try.ntmps73
  go_upto_region 1 with fail
  refine wp_region_chain (S := Sb w) [_, _, _, _, _, _, _, _, _, _, _] [_, _] mixed (by kernel_rfl) (Sb.drew w) ?_
  simp only [List.cons_append, List.nil_append]
  repeat (go_big_quiet_step (fail))
  refine wpQuiet_nil ?_
  intro p
  have HB1 : Hid (Below w.heap.size w p.W) := p.h
  generalize p.W = w1 at HB1 ⊢
  clear p c0 c1 hne
  have HST1 : Hid _ := HST0.out.next HB1.out
  have HST : Hid (Rst w0 mb T n pv be bf bw br bm E F kv0 sv0 nv ws ks0 ss0 nx ps s (.slice uo un uc) w (.slice (some ⟨w1.heap.size, 0, none⟩) 0 (T + n)) [] (w1.alloc (.cells (madeCells #[.int .i64 0] (T + n)) 3))) := by
    have h1 := HST1.out.next (below_alloc w1 (.cells (madeCells #[.int .i64 0] (T + n)) 3))
    exact ⟨h1.mm, World.ownsRow_made (base := w.heap.size) (e := 3) (size := 1) w1 _ (T + n) HB1.out.size (by unfold maxLen; omega) (by rw [size_madeCells]; simp), h1.st, h1.fm⟩
  have bx2 : ∃ bs, (w1.alloc (.cells (madeCells #[.int .i64 0] (T + n)) 3)).heap[mb]? = some (.cells bs 141) ∧ bs[0]? = some (.int .i64 (T : Int)) := by
    obtain ⟨kv, sv, us, vs, ks, ss, a1, -⟩ := HST.out.mm
    exact ⟨_, a1.bx, rfl⟩
  obtain ⟨bs, bx3, bx4⟩ := bx2
  have c0 := (mcell_blk bx3 0).trans bx4
  clear HST0 HST1 HB1 bx3 bx4
  go_upto_region 3 with fail
  generalize w1.alloc (.cells (madeCells #[.int .i64 0] (T + n)) 3) = w2 at HST c0 ⊢
  clear hmk hw1 c0
  go_loopw [5, 25] (fun rv y wr => ∃ (i : Nat) (ra : Option Addr) (rn rc : Nat), i ≤ T ∧ rv = .slice ra rn rc ∧ y = .int .i64 (i : Int) ∧ Hid (∃ r, r.length = i ∧ Rst w0 mb T n pv be bf bw br bm E F kv0 sv0 nv ws ks0 ss0 nx ps s (.slice uo un uc) w (.slice ra rn rc) r wr)) (fun _ y _ => T - (intOf y).toNat)
  case atStart => exact ⟨0, _, _, _, by omega, rfl, rfl, [], rfl, HST.out⟩
  case round =>
    obtain ⟨i, ra, rn, rc, hi, rfl, rfl, HI⟩ := hrel
    clear HST
    by_cases hlt : i < T
    · have hk1 : (i : Int) < (T : Int) := by omega
      obtain ⟨r, HRL, hst⟩ := HI.out
      have HS1 : Hid _ := hst
      obtain ⟨kv, sv, us, vs, ks, ss, hmk, hrw, ho1, ho2⟩ := hst.mm
      have HMK : Hid _ := hmk
      have HRW : Hid (Rwy T ps E F ks0 ss0 s ks ss r) := hrw
      have HOO : Hid ((∀ q, kv.ownBlock = some q → kv0.ownBlock = some q ∨ w.heap.size ≤ q) ∧ (∀ q, sv.ownBlock = some q → sv0.ownBlock = some q ∨ w.heap.size ≤ q)) := ⟨ho1, ho2⟩
      have HRLN : Hid (r.length = i) := HRL
      have c0 := mcell_blk hmk.bx 0
      have c1 := mcell_blk hmk.bx 1
      have c2 := mcell_blk hmk.bx 2
      simp only [List.getElem?_toArray, List.getElem?_cons_zero, List.getElem?_cons_succ] at c0 c1 c2
      have hsok := HOK.out
      have hcall := moved_any T n pv ps (.slice uo un uc) s (1, (i : Int)) wr (HPD.out.below hmk.bw) HK.out (its_of_own hst.st (mown_le hst.st)) hsok (by have := HSL.out; omega)
      have HSY : Hid (symAt T i = (1, (i : Int))) := by show _ = _; unfold symAt; rw [if_pos hlt]
      clear hst hmk hrw ho1 ho2 HI HRL hsok
      go_wp2_with fail
      refine hcall.mono ?_
      rintro _ w3 ⟨mv, rfl, hmo, hb3⟩
      have HS3 : Hid _ := HS1.out.next hb3
      have HMK3 : Hid _ := HMK.out.next hb3
      have HMO : Hid (w3.ownsRow w0.heap.size 145 3 mv (mvd ps (1, (i : Int)) s).length (ics (mvd ps (1, (i : Int)) s))) := mv_lower hmo HMK.out.bw.size
      have hfewb := HRW.out.few
      have hcall2 := number_any w0 mb T n pv ps be bf bw br bm E F V R M kv sv nv us vs ws ks ss nx w3 HMK3.out HPD.out HK.out HFX.out mv (mvd ps (1, (i : Int)) s) HMO.out (mvd_ok HOK.out) (by have h1 := HRLN.out; have h2 := HTN.out; have h3 := HRW.out.st.len; constructor <;> omega) HRW.out.st.len
      obtain ⟨ma, mn, mc, rfl⟩ := own_form hmo
      clear hcall c0 c1 c2 hmo hb3 hfewb HS1 HMK HMO
      go_wp2_with fail
      refine hcall2.mono ?_
      rintro _ w4 ⟨z, kv', sv', us', vs', ks', ss', rfl, hnm, hmk4, hfm4, ho3, ho4⟩
      have HNM : Hid (Rwy T ps E F ks0 ss0 s ks' ss' (r ++ [z])) := HRW.out.put (by rw [HRLN.out, HSY.out]; exact hnm)
      have HMK4 : Hid _ := hmk4
      have HFM4 : Hid (Fm (Mx mb kv sv) w3 w4) := hfm4
      have HO4 : Hid ((∀ q, kv'.ownBlock = some q → kv.ownBlock = some q ∨ w3.heap.size ≤ q) ∧ (∀ q, sv'.ownBlock = some q → sv.ownBlock = some q ∨ w3.heap.size ≤ q)) := ⟨ho3, ho4⟩
      have HS4 : Hid _ := HS3.out.num HMK3.out HOO.out.1 HOO.out.2 HFM4.out
      have HW34 : Hid (w.heap.size ≤ w3.heap.size ∧ w3.heap.size ≤ w4.heap.size ∧ w0.heap.size ≤ w.heap.size) := ⟨HS3.out.fm.size, HFM4.out.size, HW0.out⟩
      clear hcall2 hnm hmk4 hfm4 ho3 ho4 HS3 HMK3 HFM4
      have hsz := HS4.out.2.1.size
      have hrlen := HRLN.out
      have HA : Hid (_) := HS4.out.1.alloc (Obj.cells #[.int .i64 z] 3)
      have htn := HTN.out
      go_wp2_with (at_builtin; refine wpList_append_lies _ rfl _ _ 29 rfl w.heap.size 3 i3 (.int .i64 0) 1 8 Try.underlying29 hi3 hz0 hz1 hz2 rfl (by decide) _ _ _ rfl HA.out ⟨w4.heap.size, 0, none⟩ 1 1 [.int .i64 z] rfl rfl (World.news_of_block (t := 3) (fr := (0, 0)) (heap_alloc_new w4 _)) (by simp [Value.oneCell']) (by omega) (by unfold maxLen; omega) (by omega) (by simp; omega) _ rfl ?_)
      intro g9 cp9 w5 hown5 hgrow5 hwhere hlt5
      have HG5 : Hid (w4.grownBy w5 (Value.slice ra rn rc).ownBlock) := mgb_then (mgb_alloc (mgb_refl _ _) _) hgrow5
      have HST5 : Hid (Rst w0 mb T n pv be bf bw br bm E F kv0 sv0 nv ws ks0 ss0 nx ps s (.slice uo un uc) w (.slice (some ⟨g9, 0, none⟩) (i + 1) cp9) (r ++ [z]) w5) := by
        have h5 := HS4.out
        have hown6 : w5.ownsRow w.heap.size 3 1 (.slice (some ⟨g9, 0, none⟩) (r.length + 1) cp9) (r.length + 1) (r.map (Value.int .i64) ++ [.int .i64 z]) := by rw [HRLN.out]; exact hown5
        show Rst _ _ _ _ _ _ _ _ _ _ _ _ _ _ _ _ _ _ _ _ _ _ _ _ _ _
        rw [← HRLN.out]
        refine Rst.grow HMK4.out HNM.out (fun q hq => ?_) (fun q hq => ?_) h5 HG5.out hown6 HUP.out HW34.out.2.2
        · rcases HO4.out.1 q hq with h | h
          · exact HOO.out.1 q h
          · exact Or.inr (Nat.le_trans HW34.out.1 h)
        · rcases HO4.out.2 q hq with h | h
          · exact HOO.out.2 q h
          · exact Or.inr (Nat.le_trans HW34.out.1 h)
      have HRL5 : Hid ((r ++ [z]).length = i + 1) := by show _ = _; rw [List.length_append, HRLN.out]; rfl
      clear hown5 hgrow5 hwhere hlt5 HG5 HA HS4 HMK4 HNM HO4 HOO HRW hsz htn
      go_wp2_with fail
      go_roundw
      case rel => exact ⟨i + 1, _, _, _, by omega, rfl, by go_num, r ++ [z], HRL5.out, HST5.out⟩
      case measure => simp [intOf]; omega
    · obtain rfl : T = i := by omega
      obtain ⟨kv, sv, us, vs, ks, ss, a1, -⟩ := HI.out.choose_spec.2.mm
      have c1 := mcell_blk a1.bx 1
      simp only [List.getElem?_toArray, List.getElem?_cons_zero, List.getElem?_cons_succ] at c1
      have HMID : Hid (∃ r, r.length = T + 0 ∧ Rst w0 mb T n pv be bf bw br bm E F kv0 sv0 nv ws ks0 ss0 nx ps s (.slice uo un uc) w (.slice ra rn rc) r wr) := HI.out
      clear HI a1
      go_upto_region 8 with fail
      clear c1
      go_loopw [5, 47] (fun rv y wr => ∃ (i : Nat) (ra : Option Addr) (rn rc : Nat), i ≤ n ∧ rv = .slice ra rn rc ∧ y = .int .i64 (i : Int) ∧ Hid (∃ r, r.length = T + i ∧ Rst w0 mb T n pv be bf bw br bm E F kv0 sv0 nv ws ks0 ss0 nx ps s (.slice uo un uc) w (.slice ra rn rc) r wr)) (fun _ y _ => n - (intOf y).toNat)
      case atStart => exact ⟨0, _, _, _, by omega, rfl, rfl, HMID.out⟩
      case round =>
        obtain ⟨i, ra, rn, rc, hi, rfl, rfl, HI⟩ := hrel
        clear HMID
        by_cases hlt : i < n
        · have hk1 : (i : Int) < (n : Int) := by omega
          obtain ⟨r, HRL, hst⟩ := HI.out
          have HS1 : Hid _ := hst
          obtain ⟨kv, sv, us, vs, ks, ss, hmk, hrw, ho1, ho2⟩ := hst.mm
          have HMK : Hid _ := hmk
          have HRW : Hid (Rwy T ps E F ks0 ss0 s ks ss r) := hrw
          have HOO : Hid ((∀ q, kv.ownBlock = some q → kv0.ownBlock = some q ∨ w.heap.size ≤ q) ∧ (∀ q, sv.ownBlock = some q → sv0.ownBlock = some q ∨ w.heap.size ≤ q)) := ⟨ho1, ho2⟩
          have HRLN : Hid (r.length = T + i) := HRL
          have c0 := mcell_blk hmk.bx 0
          have c1 := mcell_blk hmk.bx 1
          have c2 := mcell_blk hmk.bx 2
          simp only [List.getElem?_toArray, List.getElem?_cons_zero, List.getElem?_cons_succ] at c0 c1 c2
          have hsok := HOK.out
          have hcall := moved_any T n pv ps (.slice uo un uc) s (2, (i : Int)) wr (HPD.out.below hmk.bw) HK.out (its_of_own hst.st (mown_le hst.st)) hsok (by have := HSL.out; omega)
          have HSY : Hid (symAt T (T + i) = (2, (i : Int))) := by show _ = _; unfold symAt; rw [if_neg (by omega)]; congr 2; omega
          clear hst hmk hrw ho1 ho2 HI HRL hsok
          go_wp2_with fail
          refine hcall.mono ?_
          rintro _ w3 ⟨mv, rfl, hmo, hb3⟩
          have HS3 : Hid _ := HS1.out.next hb3
          have HMK3 : Hid _ := HMK.out.next hb3
          have HMO : Hid (w3.ownsRow w0.heap.size 145 3 mv (mvd ps (2, (i : Int)) s).length (ics (mvd ps (2, (i : Int)) s))) := mv_lower hmo HMK.out.bw.size
          have hfewb := HRW.out.few
          have hcall2 := number_any w0 mb T n pv ps be bf bw br bm E F V R M kv sv nv us vs ws ks ss nx w3 HMK3.out HPD.out HK.out HFX.out mv (mvd ps (2, (i : Int)) s) HMO.out (mvd_ok HOK.out) (by have h1 := HRLN.out; have h2 := HTN.out; have h3 := HRW.out.st.len; constructor <;> omega) HRW.out.st.len
          obtain ⟨ma, mn, mc, rfl⟩ := own_form hmo
          clear hcall c0 c1 c2 hmo hb3 hfewb HS1 HMK HMO
          go_wp2_with fail
          refine hcall2.mono ?_
          rintro _ w4 ⟨z, kv', sv', us', vs', ks', ss', rfl, hnm, hmk4, hfm4, ho3, ho4⟩
          have HNM : Hid (Rwy T ps E F ks0 ss0 s ks' ss' (r ++ [z])) := HRW.out.put (by rw [HRLN.out, HSY.out]; exact hnm)
          have HMK4 : Hid _ := hmk4
          have HFM4 : Hid (Fm (Mx mb kv sv) w3 w4) := hfm4
          have HO4 : Hid ((∀ q, kv'.ownBlock = some q → kv.ownBlock = some q ∨ w3.heap.size ≤ q) ∧ (∀ q, sv'.ownBlock = some q → sv.ownBlock = some q ∨ w3.heap.size ≤ q)) := ⟨ho3, ho4⟩
          have HS4 : Hid _ := HS3.out.num HMK3.out HOO.out.1 HOO.out.2 HFM4.out
          have HW34 : Hid (w.heap.size ≤ w3.heap.size ∧ w3.heap.size ≤ w4.heap.size ∧ w0.heap.size ≤ w.heap.size) := ⟨HS3.out.fm.size, HFM4.out.size, HW0.out⟩
          clear hcall2 hnm hmk4 hfm4 ho3 ho4 HS3 HMK3 HFM4
          have hsz := HS4.out.2.1.size
          have hrlen := HRLN.out
          have HA : Hid (_) := HS4.out.1.alloc (Obj.cells #[.int .i64 z] 3)
          have htn := HTN.out
          go_wp2_with (at_builtin; refine wpList_append_lies _ rfl _ _ 29 rfl w.heap.size 3 i3 (.int .i64 0) 1 8 Try.underlying29 hi3 hz0 hz1 hz2 rfl (by decide) _ _ _ rfl HA.out ⟨w4.heap.size, 0, none⟩ 1 1 [.int .i64 z] rfl rfl (World.news_of_block (t := 3) (fr := (0, 0)) (heap_alloc_new w4 _)) (by simp [Value.oneCell']) (by omega) (by unfold maxLen; omega) (by omega) (by simp; omega) _ rfl ?_)
          intro g9 cp9 w5 hown5 hgrow5 hwhere hlt5
          have HG5 : Hid (w4.grownBy w5 (Value.slice ra rn rc).ownBlock) := mgb_then (mgb_alloc (mgb_refl _ _) _) hgrow5
          have HST5 : Hid (Rst w0 mb T n pv be bf bw br bm E F kv0 sv0 nv ws ks0 ss0 nx ps s (.slice uo un uc) w (.slice (some ⟨g9, 0, none⟩) (T + i + 1) cp9) (r ++ [z]) w5) := by
            have h5 := HS4.out
            have hown6 : w5.ownsRow w.heap.size 3 1 (.slice (some ⟨g9, 0, none⟩) (r.length + 1) cp9) (r.length + 1) (r.map (Value.int .i64) ++ [.int .i64 z]) := by rw [HRLN.out]; exact hown5
            show Rst _ _ _ _ _ _ _ _ _ _ _ _ _ _ _ _ _ _ _ _ _ _ _ _ _ _
            rw [← HRLN.out]
            refine Rst.grow HMK4.out HNM.out (fun q hq => ?_) (fun q hq => ?_) h5 HG5.out hown6 HUP.out HW34.out.2.2
            · rcases HO4.out.1 q hq with h | h
              · exact HOO.out.1 q h
              · exact Or.inr (Nat.le_trans HW34.out.1 h)
            · rcases HO4.out.2 q hq with h | h
              · exact HOO.out.2 q h
              · exact Or.inr (Nat.le_trans HW34.out.1 h)
          have HRL5 : Hid ((r ++ [z]).length = T + i + 1) := by show _ = _; rw [List.length_append, HRLN.out]; rfl
          clear hown5 hgrow5 hwhere hlt5 HG5 HA HS4 HMK4 HNM HO4 HOO HRW hsz htn
          go_wp2_with fail
          go_roundw
          case rel => exact ⟨i + 1, _, _, _, by omega, rfl, by go_num, r ++ [z], HRL5.out, HST5.out⟩
          case measure => simp [intOf]; omega
        · obtain rfl : i = n := by omega
          have HFIN : Hid (RwQ w0 mb T i pv be bf bw br bm E F nv ws ks0 ss0 nx ps s w (.returned (.slice ra rn rc)) wr) := by
            obtain ⟨r, h1, h2⟩ := HI.out
            obtain ⟨kv, sv, us, vs, ks, ss, a1, a2, -⟩ := h2.mm
            exact ⟨_, r, kv, sv, us, vs, ks, ss, rfl, h1, h2.own, a1, a2⟩
          clear HI
          go_wp2_with fail
          go_ret
          exact HFIN.out
end Go.Proofs.Ytpbnnmfjahckmaa
