/-
  The contract of trees.OfDown, its answer's room too.
-/
import Derived.Test.YtldfiofgknmcgabTrOfUp
import Derived.Test.YtldfiofgknmcgabTzBuilt
import Derived.Test.YtldfiofgknmcgabTrEq
namespace Go.Proofs.Ytldfiofgknmcgab
open Go.RowKit
open Cg

def BzW (P : Nat → Prop) (r : Option T) (v : Value) (b : Bool) (W : World) : Prop := match r with
  | some t => b = true ∧ Tz W P v t
  | none => b = false ∧ v = .agg #[.int .i64 0, .int .i64 0, .slice none 0 0]
theorem BzW.mono {P Q : Nat → Prop} {r : Option T} {v : Value} {b : Bool} {W : World} (h : BzW P r v b W) (k : ∀ b, b < W.heap.size → P b → Q b) : BzW Q r v b W := by
  cases r with
  | none => exact h
  | some t => exact ⟨h.1, h.2.mono k⟩
theorem BzW.next {P : Nat → Prop} {r : Option T} {v : Value} {b : Bool} {W w' : World} (h : BzW P r v b W) (hb : ∀ b, b < W.heap.size → P b → w'.heap[b]? = W.heap[b]?) (hs : W.heap.size ≤ w'.heap.size) : BzW P r v b w' := by
  cases r with
  | none => exact h
  | some t => exact ⟨h.1, h.2.next hb hs⟩
theorem BzW.bel {P : Nat → Prop} {r : Option T} {v : Value} {b : Bool} {W w' : World} (h : BzW P r v b W) (hb : Below W.heap.size W w') : BzW P r v b w' := h.next (fun b hl _ => hb.block b hl) hb.size
theorem BzW.lt {P : Nat → Prop} {r : Option T} {v : Value} {b : Bool} {W : World} (h : BzW P r v b W) : BzW (fun b => P b ∧ b < W.heap.size) r v b W := h.mono fun _ hb hp => ⟨hp, hb⟩
/-- What OfUp and OfDown leave. -/
def OzQ (w : World) (er : Int) (r : Option T) (e : Ending) (w' : World) : Prop := ∃ p k a m c, e = .returned (.tuple #[.agg #[.int .i64 p, .int .i64 k, .slice a m c], .int .i64 er]) ∧ Below w.heap.size w w' ∧ if er = 0 then ∃ x, r = some x ∧ Tz w' (fun b => w.heap.size ≤ b) (.agg #[.int .i64 p, .int .i64 k, .slice a m c]) x else Value.agg #[.int .i64 p, .int .i64 k, .slice a m c] = .agg #[.int .i64 0, .int .i64 0, .slice none 0 0]
theorem OzQ.zero {w w' : World} {er : Int} {r : Option T} (h : er ≠ 0) (hb : Below w.heap.size w w') : OzQ w er r (.returned (.tuple #[.agg #[.int .i64 0, .int .i64 0, .slice none 0 0], .int .i64 er])) w' := ⟨_, _, _, _, _, rfl, hb, by rw [if_neg h]⟩

structure ROz (w1 : World) (bx : Nat) (tt n : Int) (ga : Option Addr) (gm gc : Nat) (la : Option Addr) (ln lc : Nat) (le : List Ev) (r : Option T) (ra : Option Addr) (rn : Nat) (rc : Nat) (tp : Int) (tk0 : Int) (ta : Option Addr) (tm : Nat) (tc : Nat) (bb : Bool) (nb : Nat) (d : Nat → Bool) (x7 x8 x16 x17 x18 x19 x20 x21 x22 : Value) (W : World) : Prop where
  f0 : d 0 = true → x17 = (.agg #[.int .i64 tt, .int .i64 n, .slice ga gm gc])
  f1 : d 1 = true → x18 = (.slice la ln lc)
  f2 : d 2 = true → x19 = (.slice ra rn rc)
  f3 : d 3 = true → x20 = (.tuple #[(.agg #[.int .i64 tp, .int .i64 tk0, .slice ta tm tc]), .bool bb])
  f4 : d 4 = true → x16 = (.tuple #[(.agg #[.int .i64 tp, .int .i64 tk0, .slice ta tm tc]), .bool bb])
  f5 : d 5 = true → x21 = (.agg #[.int .i64 tp, .int .i64 tk0, .slice ta tm tc])
  f6 : d 6 = true → x22 = (.bool bb)
  f7 : d 7 = true → x7 = (.pointer (some ⟨nb, 0, none⟩))
  f8 : d 8 = true → True
  f9 : d 9 = true → x8 = (.bool bb)
  o3_2 : d 3 = true → d 2 = true
  o4_3 : d 4 = true → d 3 = true
  o5_4 : d 5 = true → d 4 = true
  o6_4 : d 6 = true → d 4 = true
  o8_5 : d 8 = true → d 5 = true
  o8_7 : d 8 = true → d 7 = true
  o9_6 : d 9 = true → d 6 = true
  bw : Below w1.heap.size w1 W
  n7 : d 7 = true → w1.heap.size ≤ nb ∧ nb < W.heap.size
  r2 : d 2 = true → d 3 = false → Evs W (.slice ra rn rc) le
  r3 : d 3 = true → BzW (fun b => w1.heap.size ≤ b ∧ (d 7 = true → b ≠ nb)) r (.agg #[.int .i64 tp, .int .i64 tk0, .slice ta tm tc]) bb W
  c7 : d 7 = true → d 8 = false → W.heap[nb]? = some (.cells #[.int .i64 0, .int .i64 0, .slice none 0 0] 27)
  c8 : d 8 = true → W.heap[nb]? = some (.cells #[.int .i64 tp, .int .i64 tk0, .slice ta tm tc] 27)

set_option maxHeartbeats 16000000 in
set_option maxRecDepth 20000 in
theorem OfDownz_any (tt n : Int) (pv : Value) (ps : List Pd) (lv : Value) (l : List Ev) (w : World) (hp : Pds w pv ps) (h : Evs w lv l) :
    Calls Try.prog 16 #[.agg #[.int .i64 tt, .int .i64 n, pv], lv] w fun e w' => OzQ w (errO tt n ps l (ofD ps l)) (ofD ps l) e w' := by
  have HP : Hid (Pds w pv ps) := hp
  have HL : Hid (Evs w lv l) := h
  obtain ⟨ga, gc, rfl, -, -⟩ := hp
  obtain ⟨la, lc, rfl, hlm, -⟩ := h
  obtain ⟨gm, HGM⟩ : ∃ gm, Hid (ps.length = gm) := ⟨_, (rfl : ps.length = ps.length)⟩
  obtain ⟨ln, HLN⟩ : ∃ ln, Hid (l.length = ln) := ⟨_, (rfl : l.length = _)⟩
  rw [HGM.out] at HP ⊢
  rw [HLN.out] at HL hlm ⊢
  obtain ⟨ee, HEE⟩ : ∃ ee, Hid (errE tt n ps l = ee) := ⟨_, (rfl : errE tt n ps l = _)⟩
  have HERO : Hid (∀ r, errO tt n ps l r = if ee = 0 then (match r with | none => 4 | some x => errT tt n ps x) else ee) := fun r => by unfold errO; rw [HEE.out]; try (cases r <;> rfl)
  have HB1 : Hid (Below w.heap.size w ((w.alloc (Obj.cells #[.int .i64 tt, .int .i64 n, .slice ga gm gc] 24)).alloc (Obj.cells #[.int .i64 0, .int .i64 0, .slice none 0 0] 27))) := below_alloc2 _ _ _
  have HG1 : Hid (((w.alloc (Obj.cells #[.int .i64 tt, .int .i64 n, .slice ga gm gc] 24)).alloc (Obj.cells #[.int .i64 0, .int .i64 0, .slice none 0 0] 27)).heap[w.heap.size]? = some (.cells #[.int .i64 tt, .int .i64 n, .slice ga gm gc] 24) ∧ ((w.alloc (Obj.cells #[.int .i64 tt, .int .i64 n, .slice ga gm gc] 24)).alloc (Obj.cells #[.int .i64 0, .int .i64 0, .slice none 0 0] 27)).heap[w.heap.size + 1]? = some (.cells #[.int .i64 0, .int .i64 0, .slice none 0 0] 27)) := by
    have g1 := heap_alloc_new (w.alloc (Obj.cells #[.int .i64 tt, .int .i64 n, .slice ga gm gc] 24)) (Obj.cells #[.int .i64 0, .int .i64 0, .slice none 0 0] 27)
    rw [show (w.alloc (Obj.cells #[.int .i64 tt, .int .i64 n, .slice ga gm gc] 24)).heap.size = w.heap.size + 1 by simp] at g1
    exact ⟨tbox_next (heap_alloc_new _ _) (below_alloc _ _), g1⟩
  go_enter Try.func16, Try.ntmps16
  go_upto_region 1 with fail
  generalize ((w.alloc (Obj.cells #[.int .i64 tt, .int .i64 n, .slice ga gm gc] 24)).alloc (Obj.cells #[.int .i64 0, .int .i64 0, .slice none 0 0] 27)) = w1 at HB1 HG1 ⊢
  have hc := checkEvents_any tt n _ ps _ l w1 (HP.out.below HB1.out) (HL.out.below HB1.out)
  rw [HEE.out] at hc
  have k0 := tcell_blk HG1.out.1 0
  have k1 := tcell_blk HG1.out.1 1
  have k2 := tcell_blk HG1.out.1 2
  simp only [List.getElem?_toArray, List.getElem?_cons_zero, List.getElem?_cons_succ] at k0 k1 k2
  go_wp2_with fail
  refine hc.mono ?_
  rintro _ w2 ⟨rfl, hb2⟩
  have HB2 : Hid (Below w.heap.size w w2) := HB1.out.trans (hb2.mono HB1.out.size)
  have HG2 : Hid (w2.heap[w.heap.size]? = some (.cells #[.int .i64 tt, .int .i64 n, .slice ga gm gc] 24) ∧ w2.heap[w.heap.size + 1]? = some (.cells #[.int .i64 0, .int .i64 0, .slice none 0 0] 27)) := ⟨tbox_next HG1.out.1 hb2, tbox_next HG1.out.2 hb2⟩
  clear hc hb2 HG1 HB1 k0 k1 k2
  by_cases hz : ee = 0
  · subst hz
    have HLE : Hid (l.length ≤ 2000) := by
      have := HEE.out
      unfold errE at this
      by_cases h1 : chk tt n ps = 0
      · rw [if_pos h1] at this
        by_cases h2 : 2000 < l.length
        · rw [if_pos h2] at this; omega
        · show _ ≤ _; omega
      · rw [if_neg h1] at this; exact absurd this h1
    have HERO2 : Hid (∀ r, errO tt n ps l r = (match r with | none => 4 | some x => errT tt n ps x)) := fun r => by rw [HERO.out, if_pos rfl]
    clear HERO
    obtain ⟨rr, HRR0⟩ : ∃ rr, Hid (built ps (ends l) = rr) := ⟨_, (rfl : built ps (ends l) = _)⟩
    have HC39 : Hid (∀ W, Below w2.heap.size w2 W → Calls Try.prog 33 #[(.slice la ln lc)] W fun e w' => ∃ ra rn rc, e = .returned (.slice ra rn rc) ∧ Dn W (.slice ra rn rc) (ends l) w') := fun W hb => ends_any _ l W (HL.out.below (HB2.out.trans (hb.mono HB2.out.size))) (by have := HLE.out; omega)
    have HC38 : Hid (∀ W v, Below w2.heap.size w2 W → Evs W v (ends l) → Calls Try.prog 32 #[(.agg #[.int .i64 tt, .int .i64 n, .slice ga gm gc]), v] W fun e w' => BzQ W rr e w') := fun W v hb he => by
      have := builtz_any tt n _ ps v (ends l) W (HP.out.below (HB2.out.trans (hb.mono HB2.out.size))) he (by have := HLE.out; have := ends_len l; omega)
      rw [HRR0.out] at this
      exact this
    have HLE0 : Hid (l.length ≤ 2000) := HLE.out
    clear HLE
    have HLE : Hid ((ends l).length ≤ 2000) := by have := HLE0.out; have := ends_len l; show _ ≤ _; omega
    go_upto_region 4 with fail
    refine wp_region_free mixed (fun a0 d a W => ∃ (ra : Option Addr) (rn : Nat) (rc : Nat) (tp : Int) (tk0 : Int) (ta : Option Addr) (tm : Nat) (tc : Nat) (bb : Bool) (nb : Nat) (x7 x8 x16 x17 x18 x19 x20 x21 x22 : Value), a = (((((((((a0.put (some 7) x7).put (some 8) x8).put (some 16) x16).put (some 17) x17).put (some 18) x18).put (some 19) x19).put (some 20) x20).put (some 21) x21).put (some 22) x22) ∧ Hid (ROz w2 w.heap.size tt n ga gm gc la ln lc (ends l) rr ra rn rc tp tk0 ta tm tc bb nb d x7 x8 x16 x17 x18 x19 x20 x21 x22 W)) (by kernel_rfl) ⟨none, 0, 0, 0, 0, none, 0, 0, false, 0, undef, undef, undef, undef, undef, undef, undef, undef, undef, by simp only [Act.put, List.setIfInBounds_toArray, List.set_cons_zero, List.set_cons_succ], ?_⟩ ?_ ?_
    · exact ⟨fun h => no_way h, fun h => no_way h, fun h => no_way h, fun h => no_way h, fun h => no_way h, fun h => no_way h, fun h => no_way h, fun h => no_way h, fun _ => trivial, fun h => no_way h, fun h => no_way h, fun h => no_way h, fun h => no_way h, fun h => no_way h, fun h => no_way h, fun h => no_way h, fun h => no_way h, (Below.refl _ _).drew, fun h => no_way h, fun h => no_way h, fun h => no_way h, fun h => no_way h, fun h => no_way h⟩
    · simp only [StepAll, and_true]
      refine ⟨?_, ?_, ?_, ?_, ?_, ?_, ?_, ?_, ?_, ?_⟩
      · intro d a W hI hd hdep
        obtain ⟨ra, rn, rc, tp, tk0, ta, tm, tc, bb, nb, x7, x8, x16, x17, x18, x19, x20, x21, x22, rfl, hF⟩ := hI
        have y0 := tcell_blk (tbox_next HG2.out.1 hF.out.bw) 0
        have y1 := tcell_blk (tbox_next HG2.out.1 hF.out.bw) 1
        have y2 := tcell_blk (tbox_next HG2.out.1 hF.out.bw) 2
        simp only [List.getElem?_toArray, List.getElem?_cons_zero, List.getElem?_cons_succ] at y0 y1 y2
        clear hdep hd
        intro K hK
        simp only [Act.put, List.setIfInBounds_toArray, List.set_cons_zero, List.set_cons_succ]
        go_simp
        refine hK.out _ _ ⟨ra, rn, rc, tp, tk0, ta, tm, tc, bb, nb, x7, x8, x16, (.agg #[.int .i64 tt, .int .i64 n, .slice ga gm gc]), x18, x19, x20, x21, x22, by simp only [Act.put, List.setIfInBounds_toArray, List.set_cons_zero, List.set_cons_succ], ?_⟩
        exact ⟨fun _ => rfl, fun h => hF.out.f1 (by simpa using h), fun h => hF.out.f2 (by simpa using h), fun h => hF.out.f3 (by simpa using h), fun h => hF.out.f4 (by simpa using h), fun h => hF.out.f5 (by simpa using h), fun h => hF.out.f6 (by simpa using h), fun h => hF.out.f7 (by simpa using h), fun h => hF.out.f8 (by simpa using h), fun h => hF.out.f9 (by simpa using h), fun h => by have := hF.out.o3_2 (by simpa using h); simpa using this, fun h => by have := hF.out.o4_3 (by simpa using h); simpa using this, fun h => by have := hF.out.o5_4 (by simpa using h); simpa using this, fun h => by have := hF.out.o6_4 (by simpa using h); simpa using this, fun h => by have := hF.out.o8_5 (by simpa using h); simpa using this, fun h => by have := hF.out.o8_7 (by simpa using h); simpa using this, fun h => by have := hF.out.o9_6 (by simpa using h); simpa using this, hF.out.bw, fun h => hF.out.n7 (by simpa using h), fun h h2 => hF.out.r2 (by simpa using h) (by simpa using h2), fun h => by have := hF.out.r3 (by simpa using h); simpa using this, fun h h2 => hF.out.c7 (by simpa using h) (by simpa using h2), fun h => hF.out.c8 (by simpa using h)⟩
      · intro d a W hI hd hdep
        obtain ⟨ra, rn, rc, tp, tk0, ta, tm, tc, bb, nb, x7, x8, x16, x17, x18, x19, x20, x21, x22, rfl, hF⟩ := hI
        clear hdep hd
        intro K hK
        simp only [Act.put, List.setIfInBounds_toArray, List.set_cons_zero, List.set_cons_succ]
        go_simp
        refine hK.out _ _ ⟨ra, rn, rc, tp, tk0, ta, tm, tc, bb, nb, x7, x8, x16, x17, (.slice la ln lc), x19, x20, x21, x22, by simp only [Act.put, List.setIfInBounds_toArray, List.set_cons_zero, List.set_cons_succ], ?_⟩
        exact ⟨fun h => hF.out.f0 (by simpa using h), fun _ => rfl, fun h => hF.out.f2 (by simpa using h), fun h => hF.out.f3 (by simpa using h), fun h => hF.out.f4 (by simpa using h), fun h => hF.out.f5 (by simpa using h), fun h => hF.out.f6 (by simpa using h), fun h => hF.out.f7 (by simpa using h), fun h => hF.out.f8 (by simpa using h), fun h => hF.out.f9 (by simpa using h), fun h => by have := hF.out.o3_2 (by simpa using h); simpa using this, fun h => by have := hF.out.o4_3 (by simpa using h); simpa using this, fun h => by have := hF.out.o5_4 (by simpa using h); simpa using this, fun h => by have := hF.out.o6_4 (by simpa using h); simpa using this, fun h => by have := hF.out.o8_5 (by simpa using h); simpa using this, fun h => by have := hF.out.o8_7 (by simpa using h); simpa using this, fun h => by have := hF.out.o9_6 (by simpa using h); simpa using this, hF.out.bw, fun h => hF.out.n7 (by simpa using h), fun h h2 => hF.out.r2 (by simpa using h) (by simpa using h2), fun h => by have := hF.out.r3 (by simpa using h); simpa using this, fun h h2 => hF.out.c7 (by simpa using h) (by simpa using h2), fun h => hF.out.c8 (by simpa using h)⟩
      · intro d a W hI hd hdep
        obtain ⟨ra, rn, rc, tp, tk0, ta, tm, tc, bb, nb, x7, x8, x16, x17, x18, x19, x20, x21, x22, rfl, hF⟩ := hI
        have hd1 : d 1 = true := dep_of hdep 1 (by kernel_rfl)
        obtain rfl := hF.out.f1 hd1
        have HD3 : Hid (d 3 = false) := no_later hF.out.o3_2 hd
        have HD8 : Hid (d 8 = false) := no_later (fun h => hF.out.o3_2 (hF.out.o4_3 (hF.out.o5_4 (hF.out.o8_5 h)))) hd
        clear hdep hd hd1
        intro K hK
        simp only [Act.put, List.setIfInBounds_toArray, List.set_cons_zero, List.set_cons_succ]
        go_simp
        refine (HC39.out W hF.out.bw).mono ?_
        rintro _ W2 ⟨ra2, rn2, rc2, rfl, hd5⟩
        have hB := hd5.bel
        have hev : Evs W2 (.slice ra2 rn2 rc2) (ends l) := evs_of_own hd5.own (by have := HLE.out; omega)
        clear hd5
        go_simp
        refine hK.out _ _ ⟨ra2, rn2, rc2, tp, tk0, ta, tm, tc, bb, nb, x7, x8, x16, x17, (.slice la ln lc), (.slice ra2 rn2 rc2), x20, x21, x22, by simp only [Act.put, List.setIfInBounds_toArray, List.set_cons_zero, List.set_cons_succ], ?_⟩
        exact ⟨fun h => hF.out.f0 (by simpa using h), fun h => hF.out.f1 (by simpa using h), fun _ => rfl, fun h => hF.out.f3 (by simpa using h), fun h => hF.out.f4 (by simpa using h), fun h => hF.out.f5 (by simpa using h), fun h => hF.out.f6 (by simpa using h), fun h => hF.out.f7 (by simpa using h), fun h => hF.out.f8 (by simpa using h), fun h => hF.out.f9 (by simpa using h), fun _ => by simp, fun h => by have := hF.out.o4_3 (by simpa using h); simpa using this, fun h => by have := hF.out.o5_4 (by simpa using h); simpa using this, fun h => by have := hF.out.o6_4 (by simpa using h); simpa using this, fun h => by have := hF.out.o8_5 (by simpa using h); simpa using this, fun h => by have := hF.out.o8_7 (by simpa using h); simpa using this, fun h => by have := hF.out.o9_6 (by simpa using h); simpa using this, hF.out.bw.trans (hB.mono hF.out.bw.size), fun h => ⟨(hF.out.n7 (by simpa using h)).1, Nat.lt_of_lt_of_le (hF.out.n7 (by simpa using h)).2 hB.size⟩, fun _ _ => hev, fun h => by have := HD3.out; simp [this] at h, fun h h2 => tbox_next (hF.out.c7 (by simpa using h) (by simpa using h2)) hB, fun h => by have := HD8.out; simp [this] at h⟩
      · intro d a W hI hd hdep
        obtain ⟨ra, rn, rc, tp, tk0, ta, tm, tc, bb, nb, x7, x8, x16, x17, x18, x19, x20, x21, x22, rfl, hF⟩ := hI
        have hd0 : d 0 = true := dep_of hdep 0 (by kernel_rfl)
        have hd2 : d 2 = true := dep_of hdep 2 (by kernel_rfl)
        obtain rfl := hF.out.f0 hd0
        obtain rfl := hF.out.f2 hd2
        have e3_2 := hd2
        have HD4 : Hid (d 4 = false) := no_later hF.out.o4_3 hd
        have HD5 : Hid (d 5 = false) := no_later (fun h => hF.out.o4_3 (hF.out.o5_4 h)) hd
        have HD6 : Hid (d 6 = false) := no_later (fun h => hF.out.o4_3 (hF.out.o6_4 h)) hd
        have HD8 : Hid (d 8 = false) := no_later (fun h => hF.out.o4_3 (hF.out.o5_4 (hF.out.o8_5 h))) hd
        have HD9 : Hid (d 9 = false) := no_later (fun h => hF.out.o4_3 (hF.out.o6_4 (hF.out.o9_6 h))) hd
        have hr2 := hF.out.r2 hd2 hd
        clear hdep hd hd0 hd2
        intro K hK
        simp only [Act.put, List.setIfInBounds_toArray, List.set_cons_zero, List.set_cons_succ]
        go_simp
        refine (HC38.out W _ hF.out.bw hr2).mono ?_
        rintro _ W2 ⟨tp2, tk2, ta2, tm2, tc2, bb2, rfl, hB, hbt⟩
        have hbw : BzW (fun b => w2.heap.size ≤ b ∧ (d 7 = true → b ≠ nb)) rr (.agg #[.int .i64 tp2, .int .i64 tk2, .slice ta2 tm2 tc2]) bb2 W2 := BzW.mono hbt fun b _ hp => ⟨by have := hF.out.bw.size; omega, fun h7 => by have := hF.out.n7 h7; omega⟩
        clear hbt
        go_simp
        refine hK.out _ _ ⟨ra, rn, rc, tp2, tk2, ta2, tm2, tc2, bb2, nb, x7, x8, x16, (.agg #[.int .i64 tt, .int .i64 n, .slice ga gm gc]), x18, (.slice ra rn rc), (.tuple #[.agg #[.int .i64 tp2, .int .i64 tk2, .slice ta2 tm2 tc2], .bool bb2]), x21, x22, by simp only [Act.put, List.setIfInBounds_toArray, List.set_cons_zero, List.set_cons_succ], ?_⟩
        exact ⟨fun h => hF.out.f0 (by simpa using h), fun h => hF.out.f1 (by simpa using h), fun h => hF.out.f2 (by simpa using h), fun _ => rfl, fun h => by have := HD4.out; simp [this] at h, fun h => by have := HD5.out; simp [this] at h, fun h => by have := HD6.out; simp [this] at h, fun h => hF.out.f7 (by simpa using h), fun h => hF.out.f8 (by simpa using h), fun h => by have := HD9.out; simp [this] at h, fun _ => by simpa using e3_2, fun _ => by simp, fun h => by have := hF.out.o5_4 (by simpa using h); simpa using this, fun h => by have := hF.out.o6_4 (by simpa using h); simpa using this, fun h => by have := hF.out.o8_5 (by simpa using h); simpa using this, fun h => by have := hF.out.o8_7 (by simpa using h); simpa using this, fun h => by have := hF.out.o9_6 (by simpa using h); simpa using this, hF.out.bw.trans (hB.mono hF.out.bw.size), fun h => ⟨(hF.out.n7 (by simpa using h)).1, Nat.lt_of_lt_of_le (hF.out.n7 (by simpa using h)).2 hB.size⟩, fun _ h => by simp at h, fun _ => by simpa using hbw, fun h h2 => tbox_next (hF.out.c7 (by simpa using h) (by simpa using h2)) hB, fun h => by have := HD8.out; simp [this] at h⟩
      · intro d a W hI hd hdep
        obtain ⟨ra, rn, rc, tp, tk0, ta, tm, tc, bb, nb, x7, x8, x16, x17, x18, x19, x20, x21, x22, rfl, hF⟩ := hI
        have hd3 : d 3 = true := dep_of hdep 3 (by kernel_rfl)
        obtain rfl := hF.out.f3 hd3
        have e4_3 := hd3
        clear hdep hd hd3
        intro K hK
        simp only [Act.put, List.setIfInBounds_toArray, List.set_cons_zero, List.set_cons_succ]
        go_simp
        refine hK.out _ _ ⟨ra, rn, rc, tp, tk0, ta, tm, tc, bb, nb, x7, x8, (.tuple #[(.agg #[.int .i64 tp, .int .i64 tk0, .slice ta tm tc]), .bool bb]), x17, x18, x19, (.tuple #[(.agg #[.int .i64 tp, .int .i64 tk0, .slice ta tm tc]), .bool bb]), x21, x22, by simp only [Act.put, List.setIfInBounds_toArray, List.set_cons_zero, List.set_cons_succ], ?_⟩
        exact ⟨fun h => hF.out.f0 (by simpa using h), fun h => hF.out.f1 (by simpa using h), fun h => hF.out.f2 (by simpa using h), fun h => hF.out.f3 (by simpa using h), fun _ => rfl, fun h => hF.out.f5 (by simpa using h), fun h => hF.out.f6 (by simpa using h), fun h => hF.out.f7 (by simpa using h), fun h => hF.out.f8 (by simpa using h), fun h => hF.out.f9 (by simpa using h), fun h => by have := hF.out.o3_2 (by simpa using h); simpa using this, fun _ => by simpa using e4_3, fun _ => by simp, fun _ => by simp, fun h => by have := hF.out.o8_5 (by simpa using h); simpa using this, fun h => by have := hF.out.o8_7 (by simpa using h); simpa using this, fun h => by have := hF.out.o9_6 (by simpa using h); simpa using this, hF.out.bw, fun h => hF.out.n7 (by simpa using h), fun h h2 => hF.out.r2 (by simpa using h) (by simpa using h2), fun h => by have := hF.out.r3 (by simpa using h); simpa using this, fun h h2 => hF.out.c7 (by simpa using h) (by simpa using h2), fun h => hF.out.c8 (by simpa using h)⟩
      · intro d a W hI hd hdep
        obtain ⟨ra, rn, rc, tp, tk0, ta, tm, tc, bb, nb, x7, x8, x16, x17, x18, x19, x20, x21, x22, rfl, hF⟩ := hI
        have hd4 : d 4 = true := dep_of hdep 4 (by kernel_rfl)
        obtain rfl := hF.out.f4 hd4
        have e5_4 := hd4
        clear hdep hd hd4
        intro K hK
        simp only [Act.put, List.setIfInBounds_toArray, List.set_cons_zero, List.set_cons_succ]
        go_simp
        refine hK.out _ _ ⟨ra, rn, rc, tp, tk0, ta, tm, tc, bb, nb, x7, x8, (.tuple #[(.agg #[.int .i64 tp, .int .i64 tk0, .slice ta tm tc]), .bool bb]), x17, x18, x19, x20, (.agg #[.int .i64 tp, .int .i64 tk0, .slice ta tm tc]), x22, by simp only [Act.put, List.setIfInBounds_toArray, List.set_cons_zero, List.set_cons_succ], ?_⟩
        exact ⟨fun h => hF.out.f0 (by simpa using h), fun h => hF.out.f1 (by simpa using h), fun h => hF.out.f2 (by simpa using h), fun h => hF.out.f3 (by simpa using h), fun h => hF.out.f4 (by simpa using h), fun _ => rfl, fun h => hF.out.f6 (by simpa using h), fun h => hF.out.f7 (by simpa using h), fun h => hF.out.f8 (by simpa using h), fun h => hF.out.f9 (by simpa using h), fun h => by have := hF.out.o3_2 (by simpa using h); simpa using this, fun h => by have := hF.out.o4_3 (by simpa using h); simpa using this, fun _ => by simpa using e5_4, fun h => by have := hF.out.o6_4 (by simpa using h); simpa using this, fun _ => by simp, fun h => by have := hF.out.o8_7 (by simpa using h); simpa using this, fun h => by have := hF.out.o9_6 (by simpa using h); simpa using this, hF.out.bw, fun h => hF.out.n7 (by simpa using h), fun h h2 => hF.out.r2 (by simpa using h) (by simpa using h2), fun h => by have := hF.out.r3 (by simpa using h); simpa using this, fun h h2 => hF.out.c7 (by simpa using h) (by simpa using h2), fun h => hF.out.c8 (by simpa using h)⟩
      · intro d a W hI hd hdep
        obtain ⟨ra, rn, rc, tp, tk0, ta, tm, tc, bb, nb, x7, x8, x16, x17, x18, x19, x20, x21, x22, rfl, hF⟩ := hI
        have hd4 : d 4 = true := dep_of hdep 4 (by kernel_rfl)
        obtain rfl := hF.out.f4 hd4
        have e6_4 := hd4
        clear hdep hd hd4
        intro K hK
        simp only [Act.put, List.setIfInBounds_toArray, List.set_cons_zero, List.set_cons_succ]
        go_simp
        refine hK.out _ _ ⟨ra, rn, rc, tp, tk0, ta, tm, tc, bb, nb, x7, x8, (.tuple #[(.agg #[.int .i64 tp, .int .i64 tk0, .slice ta tm tc]), .bool bb]), x17, x18, x19, x20, x21, (.bool bb), by simp only [Act.put, List.setIfInBounds_toArray, List.set_cons_zero, List.set_cons_succ], ?_⟩
        exact ⟨fun h => hF.out.f0 (by simpa using h), fun h => hF.out.f1 (by simpa using h), fun h => hF.out.f2 (by simpa using h), fun h => hF.out.f3 (by simpa using h), fun h => hF.out.f4 (by simpa using h), fun h => hF.out.f5 (by simpa using h), fun _ => rfl, fun h => hF.out.f7 (by simpa using h), fun h => hF.out.f8 (by simpa using h), fun h => hF.out.f9 (by simpa using h), fun h => by have := hF.out.o3_2 (by simpa using h); simpa using this, fun h => by have := hF.out.o4_3 (by simpa using h); simpa using this, fun h => by have := hF.out.o5_4 (by simpa using h); simpa using this, fun _ => by simpa using e6_4, fun h => by have := hF.out.o8_5 (by simpa using h); simpa using this, fun h => by have := hF.out.o8_7 (by simpa using h); simpa using this, fun _ => by simp, hF.out.bw, fun h => hF.out.n7 (by simpa using h), fun h h2 => hF.out.r2 (by simpa using h) (by simpa using h2), fun h => by have := hF.out.r3 (by simpa using h); simpa using this, fun h h2 => hF.out.c7 (by simpa using h) (by simpa using h2), fun h => hF.out.c8 (by simpa using h)⟩
      · intro d a W hI hd hdep
        obtain ⟨ra, rn, rc, tp, tk0, ta, tm, tc, bb, nb, x7, x8, x16, x17, x18, x19, x20, x21, x22, rfl, hF⟩ := hI
        have HD8 : Hid (d 8 = false) := no_later hF.out.o8_7 hd
        have HD7 : Hid (d 7 = false) := hd
        clear hdep hd
        intro K hK
        simp only [Act.put, List.setIfInBounds_toArray, List.set_cons_zero, List.set_cons_succ]
        go_simp
        refine hK.out _ _ ⟨ra, rn, rc, tp, tk0, ta, tm, tc, bb, W.heap.size, (.pointer (some ⟨W.heap.size, 0, none⟩)), x8, x16, x17, x18, x19, x20, x21, x22, by simp only [Act.put, List.setIfInBounds_toArray, List.set_cons_zero, List.set_cons_succ], ?_⟩
        have hB := below_alloc W (Obj.cells #[.int .i64 0, .int .i64 0, .slice none 0 0] 27)
        exact ⟨fun h => hF.out.f0 (by simpa using h), fun h => hF.out.f1 (by simpa using h), fun h => hF.out.f2 (by simpa using h), fun h => hF.out.f3 (by simpa using h), fun h => hF.out.f4 (by simpa using h), fun h => hF.out.f5 (by simpa using h), fun h => hF.out.f6 (by simpa using h), fun _ => rfl, fun h => hF.out.f8 (by simpa using h), fun h => hF.out.f9 (by simpa using h), fun h => by have := hF.out.o3_2 (by simpa using h); simpa using this, fun h => by have := hF.out.o4_3 (by simpa using h); simpa using this, fun h => by have := hF.out.o5_4 (by simpa using h); simpa using this, fun h => by have := hF.out.o6_4 (by simpa using h); simpa using this, fun h => by have := hF.out.o8_5 (by simpa using h); simpa using this, fun _ => by simp, fun h => by have := hF.out.o9_6 (by simpa using h); simpa using this, hF.out.bw.trans (hB.mono hF.out.bw.size), fun _ => ⟨hF.out.bw.size, by simp⟩, fun h h2 => (hF.out.r2 (by simpa using h) (by simpa using h2)).below hB, fun h => by
            have h3 := hF.out.r3 (by simpa using h)
            exact BzW.mono (BzW.bel (BzW.lt h3) hB) fun b _ hp => ⟨hp.1.1, fun _ e => by have := hp.2; omega⟩, fun _ _ => heap_alloc_new _ _, fun h => by have := HD8.out; simp [this] at h⟩
      · intro d a W hI hd hdep
        obtain ⟨ra, rn, rc, tp, tk0, ta, tm, tc, bb, nb, x7, x8, x16, x17, x18, x19, x20, x21, x22, rfl, hF⟩ := hI
        have hd5 : d 5 = true := dep_of hdep 5 (by kernel_rfl)
        have hd7 : d 7 = true := dep_of hdep 7 (by kernel_rfl)
        obtain rfl := hF.out.f5 hd5
        obtain rfl := hF.out.f7 hd7
        have e8_5 := hd5
        have e8_7 := hd7
        have hd7x := hd7
        have h3 : d 3 = true := hF.out.o4_3 (hF.out.o5_4 hd5)
        have hc7 := hF.out.c7 hd7 hd
        have hn7 := hF.out.n7 hd7
        have z0 := tcell_blk hc7 0
        have z1 := tcell_blk hc7 1
        have z2 := tcell_blk hc7 2
        have f0 := tfrozen_blk hc7 0
        have f1 := tfrozen_blk hc7 1
        have f2 := tfrozen_blk hc7 2
        simp only [List.getElem?_toArray, List.getElem?_cons_zero, List.getElem?_cons_succ] at z0 z1 z2
        have hr3 := hF.out.r3 h3
        clear hdep hd hd5 hd7
        intro K hK
        simp only [Act.put, List.setIfInBounds_toArray, List.set_cons_zero, List.set_cons_succ]
        go_simp
        refine hK.out _ _ ⟨ra, rn, rc, tp, tk0, ta, tm, tc, bb, nb, (.pointer (some ⟨nb, 0, none⟩)), x8, x16, x17, x18, x19, x20, (.agg #[.int .i64 tp, .int .i64 tk0, .slice ta tm tc]), x22, by simp only [Act.put, List.setIfInBounds_toArray, List.set_cons_zero, List.set_cons_succ], ?_⟩
        rw [← set3_eq]
        exact ⟨fun h => hF.out.f0 (by simpa using h), fun h => hF.out.f1 (by simpa using h), fun h => hF.out.f2 (by simpa using h), fun h => hF.out.f3 (by simpa using h), fun h => hF.out.f4 (by simpa using h), fun h => hF.out.f5 (by simpa using h), fun h => hF.out.f6 (by simpa using h), fun h => hF.out.f7 (by simpa using h), fun _ => trivial, fun h => hF.out.f9 (by simpa using h), fun h => by have := hF.out.o3_2 (by simpa using h); simpa using this, fun h => by have := hF.out.o4_3 (by simpa using h); simpa using this, fun h => by have := hF.out.o5_4 (by simpa using h); simpa using this, fun h => by have := hF.out.o6_4 (by simpa using h); simpa using this, fun _ => by simpa using e8_5, fun _ => by simpa using e8_7, fun h => by have := hF.out.o9_6 (by simpa using h); simpa using this, set3_bel hF.out.bw hn7.1, fun _ => ⟨hn7.1, by simpa [set3, World.setCell] using hn7.2⟩, fun _ h => by simp [h3] at h, fun _ => by
            refine BzW.mono (BzW.next hr3 (w' := set3 W nb (.int .i64 tp) (.int .i64 tk0) (.slice ta tm tc)) (fun b _ hp => set3_apart (hp.2 hd7x)) (by simp [set3, World.setCell])) fun b _ hp => ⟨hp.1, fun _ => hp.2 hd7x⟩, fun _ h => by simp at h, fun _ => set3_blk hc7 _ _ _⟩
      · intro d a W hI hd hdep
        obtain ⟨ra, rn, rc, tp, tk0, ta, tm, tc, bb, nb, x7, x8, x16, x17, x18, x19, x20, x21, x22, rfl, hF⟩ := hI
        have hd6 : d 6 = true := dep_of hdep 6 (by kernel_rfl)
        obtain rfl := hF.out.f6 hd6
        have e9_6 := hd6
        clear hdep hd hd6
        intro K hK
        simp only [Act.put, List.setIfInBounds_toArray, List.set_cons_zero, List.set_cons_succ]
        go_simp
        refine hK.out _ _ ⟨ra, rn, rc, tp, tk0, ta, tm, tc, bb, nb, x7, (.bool bb), x16, x17, x18, x19, x20, x21, (.bool bb), by simp only [Act.put, List.setIfInBounds_toArray, List.set_cons_zero, List.set_cons_succ], ?_⟩
        exact ⟨fun h => hF.out.f0 (by simpa using h), fun h => hF.out.f1 (by simpa using h), fun h => hF.out.f2 (by simpa using h), fun h => hF.out.f3 (by simpa using h), fun h => hF.out.f4 (by simpa using h), fun h => hF.out.f5 (by simpa using h), fun h => hF.out.f6 (by simpa using h), fun h => hF.out.f7 (by simpa using h), fun h => hF.out.f8 (by simpa using h), fun _ => rfl, fun h => by have := hF.out.o3_2 (by simpa using h); simpa using this, fun h => by have := hF.out.o4_3 (by simpa using h); simpa using this, fun h => by have := hF.out.o5_4 (by simpa using h); simpa using this, fun h => by have := hF.out.o6_4 (by simpa using h); simpa using this, fun h => by have := hF.out.o8_5 (by simpa using h); simpa using this, fun h => by have := hF.out.o8_7 (by simpa using h); simpa using this, fun _ => by simpa using e9_6, hF.out.bw, fun h => hF.out.n7 (by simpa using h), fun h h2 => hF.out.r2 (by simpa using h) (by simpa using h2), fun h => by have := hF.out.r3 (by simpa using h); simpa using this, fun h h2 => hF.out.c7 (by simpa using h) (by simpa using h2), fun h => hF.out.c8 (by simpa using h)⟩
    · intro d a W hI hall
      obtain ⟨ra, rn, rc, tp, tk0, ta, tm, tc, bb, nb, x7, x8, x16, x17, x18, x19, x20, x21, x22, rfl, hF⟩ := hI
      simp only [List.length_cons, List.length_nil] at hall
      obtain rfl := hF.out.f0 (hall 0 (by omega))
      obtain rfl := hF.out.f1 (hall 1 (by omega))
      obtain rfl := hF.out.f2 (hall 2 (by omega))
      obtain rfl := hF.out.f3 (hall 3 (by omega))
      obtain rfl := hF.out.f4 (hall 4 (by omega))
      obtain rfl := hF.out.f5 (hall 5 (by omega))
      obtain rfl := hF.out.f6 (hall 6 (by omega))
      obtain rfl := hF.out.f7 (hall 7 (by omega))
      obtain rfl := hF.out.f9 (hall 9 (by omega))
      have HB4 : Hid (Below w.heap.size w W) := HB2.out.trans (hF.out.bw.mono HB2.out.size)
      have HG4 : Hid (W.heap[w.heap.size]? = some (.cells #[.int .i64 tt, .int .i64 n, .slice ga gm gc] 24) ∧ W.heap[w.heap.size + 1]? = some (.cells #[.int .i64 0, .int .i64 0, .slice none 0 0] 27)) := ⟨tbox_next HG2.out.1 hF.out.bw, tbox_next HG2.out.2 hF.out.bw⟩
      have HNB : Hid (W.heap[nb]? = some (.cells #[.int .i64 tp, .int .i64 tk0, .slice ta tm tc] 27)) := hF.out.c8 (hall 8 (by omega))
      have HBT : Hid (BzW (fun b => w2.heap.size ≤ b) rr (.agg #[.int .i64 tp, .int .i64 tk0, .slice ta tm tc]) bb W) := BzW.mono (hF.out.r3 (hall 3 (by omega))) fun b _ hp => hp.1
      have HSG : Hid (w.heap.size + 1 < w2.heap.size) := heap_lt3 HG2.out.2
      clear hF hall
      simp only [Act.put, List.setIfInBounds_toArray, List.set_cons_zero, List.set_cons_succ]
      cases rr with
      | none =>
        obtain ⟨rfl, -⟩ := HBT.out
        have HEO : Hid (errO tt n ps l (ofD ps l) = 4) := by
          show _ = _
          have : ofD ps l = none := by unfold ofD; rw [HRR0.out]
          rw [this, HERO2.out]
        have HGR := HG4.out.2
        have HV := set3_blk HGR (.int .i64 0) (.int .i64 0) (.slice none 0 0)
        have HBV : Hid (Below w.heap.size w (set3 W (w.heap.size + 1) (.int .i64 0) (.int .i64 0) (.slice none 0 0))) := set3_bel HB4.out (by omega)
        have r0 := tcell_blk HGR 0
        have r1 := tcell_blk HGR 1
        have r2 := tcell_blk HGR 2
        have f0 := tfrozen_blk HGR 0
        have f1 := tfrozen_blk HGR 1
        have f2 := tfrozen_blk HGR 2
        simp only [List.getElem?_toArray, List.getElem?_cons_zero, List.getElem?_cons_succ] at r0 r1 r2
        go_wp2_with fail
        rw [← set3_eq]
        generalize set3 W (w.heap.size + 1) (.int .i64 0) (.int .i64 0) (.slice none 0 0) = w9 at *
        have z0 := tcell_blk HV 0
        have z1 := tcell_blk HV 1
        have z2 := tcell_blk HV 2
        simp only [List.getElem?_toArray, List.getElem?_cons_zero, List.getElem?_cons_succ] at z0 z1 z2
        exact bodyPost_ret (v := .tuple #[.agg #[.int .i64 0, .int .i64 0, .slice none 0 0], .int .i64 4]) (by simp [results, Try.results16, go_sem, z0, z1, z2]) rfl (by rw [HEO.out]; exact OzQ.zero (by decide) HBV.out)
      | some x =>
        obtain ⟨hbb, hxt⟩ := HBT.out
        subst hbb
        have HXT0 : Hid (Tz W (fun b => w2.heap.size ≤ b) (.agg #[.int .i64 tp, .int .i64 tk0, .slice ta tm tc]) x) := hxt
        have HEL : Hid ((evD x).length ≤ 100000) := by
          have h1 := (built_iff.1 HRR0.out).2
          have h2 := ev_len x
          rw [h1] at h2
          have := HLE.out
          show _ ≤ _
          omega
        clear hxt HBT
        have l0 := tcell_blk HNB.out 0
        have l1 := tcell_blk HNB.out 1
        have l2 := tcell_blk HNB.out 2
        simp only [List.getElem?_toArray, List.getElem?_cons_zero, List.getElem?_cons_succ] at l0 l1 l2
        have hc := down_all W (fun b => w2.heap.size ≤ b) x.sz x (Nat.le_refl _) (.agg #[.int .i64 tp, .int .i64 tk0, .slice ta tm tc]) (.slice none 0 0) [] W HXT0.out.tx (by have := HEL.out; simp; omega) (Dn.nil W (Below.refl _ _))
        go_wp2_with fail
        refine hc.mono ?_
        rintro _ w5 ⟨ra, rn, rc, rfl, hd5, -⟩
        rw [List.nil_append] at hd5
        have hb5 := hd5.bel
        have HB5 : Hid (Below w.heap.size w w5) := HB4.out.trans (hb5.mono HB4.out.size)
        have HG5 : Hid (w5.heap[w.heap.size]? = some (.cells #[.int .i64 tt, .int .i64 n, .slice ga gm gc] 24) ∧ w5.heap[w.heap.size + 1]? = some (.cells #[.int .i64 0, .int .i64 0, .slice none 0 0] 27)) := ⟨tbox_next HG4.out.1 hb5, tbox_next HG4.out.2 hb5⟩
        have HNB5 : Hid (w5.heap[nb]? = some (.cells #[.int .i64 tp, .int .i64 tk0, .slice ta tm tc] 27)) := tbox_next HNB.out hb5
        have HXT5 : Hid (Tz w5 (fun b => w2.heap.size ≤ b) (.agg #[.int .i64 tp, .int .i64 tk0, .slice ta tm tc]) x) := HXT0.out.bel hb5
        have HE5 : Hid (Evs w5 (.slice ra rn rc) (evD x)) := evs_of_own hd5.own (by have := HEL.out; omega)
        clear hc hd5 hb5 HB4 HG4 HNB HXT0 l0 l1 l2
        have hc := equalE_any _ _ (evD x) l w5 HE5.out (HL.out.below HB5.out)
        obtain ⟨q, HQ⟩ : ∃ q, Hid (decide (evD x = l) = q) := ⟨_, (rfl : decide (evD x = l) = _)⟩
        rw [HQ.out] at hc
        go_wp2_with fail
        refine hc.mono ?_
        rintro _ w6 ⟨rfl, hb6⟩
        have HB6 : Hid (Below w.heap.size w w6) := HB5.out.trans (hb6.mono HB5.out.size)
        have HG6 : Hid (w6.heap[w.heap.size]? = some (.cells #[.int .i64 tt, .int .i64 n, .slice ga gm gc] 24) ∧ w6.heap[w.heap.size + 1]? = some (.cells #[.int .i64 0, .int .i64 0, .slice none 0 0] 27)) := ⟨tbox_next HG5.out.1 hb6, tbox_next HG5.out.2 hb6⟩
        have HNB : Hid (w6.heap[nb]? = some (.cells #[.int .i64 tp, .int .i64 tk0, .slice ta tm tc] 27)) := tbox_next HNB5.out hb6
        have HXT : Hid (Tz w6 (fun b => w2.heap.size ≤ b) (.agg #[.int .i64 tp, .int .i64 tk0, .slice ta tm tc]) x) := HXT5.out.bel hb6
        clear hc hb6 HB5 HG5 HNB5 HXT5 HE5
        cases q with
        | true =>
          have HRR : Hid (ofD ps l = some x) := by
            show _ = _
            unfold ofD
            rw [HRR0.out]
            exact if_pos (of_decide_eq_true HQ.out)
          obtain ⟨er, HER⟩ : ∃ er, Hid (errT tt n ps x = er) := ⟨_, (rfl : errT tt n ps x = _)⟩
          have HEO : Hid (errO tt n ps l (ofD ps l) = er) := by show _ = _; rw [HRR.out, HERO2.out]; exact HER.out
          have hc := checked_any tt n _ ps tp tk0 ta tm tc x _ w6 (HP.out.below HB6.out) HXT.out.tx
          rw [HER.out] at hc
          have k0 := tcell_blk HG6.out.1 0
          have k1 := tcell_blk HG6.out.1 1
          have k2 := tcell_blk HG6.out.1 2
          have l0 := tcell_blk HNB.out 0
          have l1 := tcell_blk HNB.out 1
          have l2 := tcell_blk HNB.out 2
          simp only [List.getElem?_toArray, List.getElem?_cons_zero, List.getElem?_cons_succ] at k0 k1 k2 l0 l1 l2
          by_cases hr : er = 0
          · subst hr
            rw [if_pos rfl] at hc
            go_wp2_with fail
            refine hc.mono ?_
            rintro _ w8 ⟨rfl, hb8⟩
            have HB8 : Hid (Below w.heap.size w w8) := HB6.out.trans (hb8.mono HB6.out.size)
            have HG8 : Hid (w8.heap[w.heap.size + 1]? = some (.cells #[.int .i64 0, .int .i64 0, .slice none 0 0] 27)) := tbox_next HG6.out.2 hb8
            have HX8 : Hid (Tz (set3 w8 (w.heap.size + 1) (.int .i64 tp) (.int .i64 tk0) (.slice ta tm tc)) (fun b => w.heap.size ≤ b) (.agg #[.int .i64 tp, .int .i64 tk0, .slice ta tm tc]) x) := by
              refine ((HXT.out.bel hb8).next (w' := set3 w8 (w.heap.size + 1) (.int .i64 tp) (.int .i64 tk0) (.slice ta tm tc)) (fun b _ hp => set3_apart (by have := HSG.out; omega)) (by simp [set3, World.setCell])).mono fun b _ hp => by have := HSG.out; omega
            clear hc hb8 k0 k1 k2 l0 l1 l2
            have HGR := HG8.out
            have HV := set3_blk HGR (.int .i64 tp) (.int .i64 tk0) (.slice ta tm tc)
            have HBV : Hid (Below w.heap.size w (set3 w8 (w.heap.size + 1) (.int .i64 tp) (.int .i64 tk0) (.slice ta tm tc))) := set3_bel HB8.out (by omega)
            have r0 := tcell_blk HGR 0
            have r1 := tcell_blk HGR 1
            have r2 := tcell_blk HGR 2
            have f0 := tfrozen_blk HGR 0
            have f1 := tfrozen_blk HGR 1
            have f2 := tfrozen_blk HGR 2
            simp only [List.getElem?_toArray, List.getElem?_cons_zero, List.getElem?_cons_succ] at r0 r1 r2
            go_wp2_with fail
            rw [← set3_eq]
            generalize set3 w8 (w.heap.size + 1) (.int .i64 tp) (.int .i64 tk0) (.slice ta tm tc) = w9 at *
            have z0 := tcell_blk HV 0
            have z1 := tcell_blk HV 1
            have z2 := tcell_blk HV 2
            simp only [List.getElem?_toArray, List.getElem?_cons_zero, List.getElem?_cons_succ] at z0 z1 z2
            exact bodyPost_ret (v := .tuple #[.agg #[.int .i64 tp, .int .i64 tk0, .slice ta tm tc], .int .i64 0]) (by simp [results, Try.results16, go_sem, z0, z1, z2]) rfl (by rw [HEO.out]; exact ⟨_, _, _, _, _, rfl, HBV.out, by rw [if_pos rfl]; exact ⟨x, HRR.out, HX8.out⟩⟩)
          · have HNZ : Hid (er ≠ 0) := hr
            rw [if_neg hr] at hc
            clear hr
            go_wp2_with fail
            refine hc.mono ?_
            rintro _ w8 ⟨rfl, hb8⟩
            have HB8 : Hid (Below w.heap.size w w8) := HB6.out.trans (hb8.mono HB6.out.size)
            have HG8 : Hid (w8.heap[w.heap.size + 1]? = some (.cells #[.int .i64 0, .int .i64 0, .slice none 0 0] 27)) := tbox_next HG6.out.2 hb8
            clear hc hb8 k0 k1 k2 l0 l1 l2
            have HGR := HG8.out
            have HV := set3_blk HGR (.int .i64 0) (.int .i64 0) (.slice none 0 0)
            have HBV : Hid (Below w.heap.size w (set3 w8 (w.heap.size + 1) (.int .i64 0) (.int .i64 0) (.slice none 0 0))) := set3_bel HB8.out (by omega)
            have r0 := tcell_blk HGR 0
            have r1 := tcell_blk HGR 1
            have r2 := tcell_blk HGR 2
            have f0 := tfrozen_blk HGR 0
            have f1 := tfrozen_blk HGR 1
            have f2 := tfrozen_blk HGR 2
            simp only [List.getElem?_toArray, List.getElem?_cons_zero, List.getElem?_cons_succ] at r0 r1 r2
            go_wp2_with fail
            rw [← set3_eq]
            generalize set3 w8 (w.heap.size + 1) (.int .i64 0) (.int .i64 0) (.slice none 0 0) = w9 at *
            have z0 := tcell_blk HV 0
            have z1 := tcell_blk HV 1
            have z2 := tcell_blk HV 2
            simp only [List.getElem?_toArray, List.getElem?_cons_zero, List.getElem?_cons_succ] at z0 z1 z2
            exact bodyPost_ret (v := .tuple #[.agg #[.int .i64 0, .int .i64 0, .slice none 0 0], .int .i64 er]) (by simp [results, Try.results16, go_sem, z0, z1, z2]) rfl (by rw [HEO.out]; exact OzQ.zero HNZ.out HBV.out)
        | false =>
          have HEO : Hid (errO tt n ps l (ofD ps l) = 4) := by
            show _ = _
            have : ofD ps l = none := by
              unfold ofD
              rw [HRR0.out]
              exact if_neg (of_decide_eq_false HQ.out)
            rw [this, HERO2.out]
          have HGR := HG6.out.2
          have HV := set3_blk HGR (.int .i64 0) (.int .i64 0) (.slice none 0 0)
          have HBV : Hid (Below w.heap.size w (set3 w6 (w.heap.size + 1) (.int .i64 0) (.int .i64 0) (.slice none 0 0))) := set3_bel HB6.out (by omega)
          have r0 := tcell_blk HGR 0
          have r1 := tcell_blk HGR 1
          have r2 := tcell_blk HGR 2
          have f0 := tfrozen_blk HGR 0
          have f1 := tfrozen_blk HGR 1
          have f2 := tfrozen_blk HGR 2
          simp only [List.getElem?_toArray, List.getElem?_cons_zero, List.getElem?_cons_succ] at r0 r1 r2
          go_wp2_with fail
          rw [← set3_eq]
          generalize set3 w6 (w.heap.size + 1) (.int .i64 0) (.int .i64 0) (.slice none 0 0) = w9 at *
          have z0 := tcell_blk HV 0
          have z1 := tcell_blk HV 1
          have z2 := tcell_blk HV 2
          simp only [List.getElem?_toArray, List.getElem?_cons_zero, List.getElem?_cons_succ] at z0 z1 z2
          exact bodyPost_ret (v := .tuple #[.agg #[.int .i64 0, .int .i64 0, .slice none 0 0], .int .i64 4]) (by simp [results, Try.results16, go_sem, z0, z1, z2]) rfl (by rw [HEO.out]; exact OzQ.zero (by decide) HBV.out)
  · have hb : (ee != 0) = true := by simp; exact hz
    have HEZ : Hid (ee ≠ 0 ∧ errO tt n ps l (ofD ps l) = ee) := ⟨hz, by rw [HERO.out, if_neg hz]⟩
    clear hz
    have HGR := HG2.out.2
    have HV := set3_blk HGR (.int .i64 0) (.int .i64 0) (.slice none 0 0)
    have HBV : Hid (Below w.heap.size w (set3 w2 (w.heap.size + 1) (.int .i64 0) (.int .i64 0) (.slice none 0 0))) := set3_bel HB2.out (by omega)
    have r0 := tcell_blk HGR 0
    have r1 := tcell_blk HGR 1
    have r2 := tcell_blk HGR 2
    have f0 := tfrozen_blk HGR 0
    have f1 := tfrozen_blk HGR 1
    have f2 := tfrozen_blk HGR 2
    simp only [List.getElem?_toArray, List.getElem?_cons_zero, List.getElem?_cons_succ] at r0 r1 r2
    go_wp2_with fail
    rw [← set3_eq]
    generalize set3 w2 (w.heap.size + 1) (.int .i64 0) (.int .i64 0) (.slice none 0 0) = w9 at *
    have z0 := tcell_blk HV 0
    have z1 := tcell_blk HV 1
    have z2 := tcell_blk HV 2
    simp only [List.getElem?_toArray, List.getElem?_cons_zero, List.getElem?_cons_succ] at z0 z1 z2
    exact bodyPost_ret (v := .tuple #[.agg #[.int .i64 0, .int .i64 0, .slice none 0 0], .int .i64 ee]) (by simp [results, Try.results16, go_sem, z0, z1, z2]) rfl (by rw [HEZ.out.2]; exact OzQ.zero HEZ.out.1 HBV.out)
end Go.Proofs.Ytldfiofgknmcgab
