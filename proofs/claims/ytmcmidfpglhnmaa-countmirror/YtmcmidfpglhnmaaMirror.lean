/-
  The contract of cfg.Mirror.
-/
import Derived.Test.YtmcmidfpglhnmaaTurned
namespace Go.Proofs.Ytmcmidfpglhnmaa
open Go.RowKit
open Cg

theorem Syms.same {w w' : World} {v : Value} {l : List Sy} (h : Syms w v l) (hs : ∀ q, v.ownBlock = some q → w'.heap[q]? = w.heap[q]?) (hz : w.heap.size ≤ w'.heap.size) : Syms w' v l := by
  obtain ⟨ao, cap, rfl, hm, h | ⟨b, o, rfl, h2, h3⟩⟩ := h
  · exact ⟨ao, cap, rfl, hm, Or.inl h⟩
  · refine ⟨_, cap, rfl, hm, Or.inr ⟨b, o, rfl, by omega, fun i hi => ?_⟩⟩
    have e : ∀ k, w'.cell? ⟨b, k, none⟩ = w.cell? ⟨b, k, none⟩ := fun k => World.cell?_of_block (w := w) (hs b rfl)
    exact ⟨(e _).trans (h3 i hi).1, (e _).trans (h3 i hi).2⟩
/-- Cell j of the row of productions in the making: q are there, their Bodies in the blocks U. -/
def mc (ps : List Pd) (U : Nat → Nat) (q j : Nat) : Value :=
  if j / 2 < q then (if j % 2 = 0 then .int .i64 (ps.getD (j / 2) (0, [])).1 else .slice (some ⟨U (j / 2), 0, none⟩) (ps.getD (j / 2) (0, [])).2.length (ps.getD (j / 2) (0, [])).2.length) else (if j % 2 = 0 then .int .i64 0 else .slice none 0 0)
/-- What is held in memory when q productions are there. -/
structure MR (w1 : World) (g np : Nat) (ps : List Pd) (q : Nat) (w : World) : Prop where
  below : Below w1.heap.size w1 w
  ge : w1.heap.size ≤ g
  row : ∃ U : Nat → Nat, w.rowIs g 77 (np * 2) (mc ps U q) ∧ ∀ i (hi : i < ps.length), i < q → g < U i ∧ Syms w (.slice (some ⟨U i, 0, none⟩) ps[i].2.length ps[i].2.length) ps[i].2.reverse
theorem MR.step {w1 : World} {g np : Nat} {ps : List Pd} {q : Nat} {wr : World} (h : MR w1 g np ps q wr) (hq : q < ps.length) (x : Int) (l : List Sy) (hx : ps[q].1 = x) (hl : ps[q].2 = l) (wa : World) (ha : Below wr.heap.size wr wa) (gu : Nat) (V : World) (hV : Below wa.heap.size wa V)
    (hsy : Syms V (.slice (some ⟨gu, 0, none⟩) l.length l.length) l.reverse) (hgu : wa.heap.size ≤ gu) : MR w1 g np ps (q + 1) ((V.setCell ⟨g, q * 2, none⟩ (.int .i64 x)).setCell ⟨g, q * 2 + 1, none⟩ (.slice (some ⟨gu, 0, none⟩) l.length l.length)) := by
  subst hx hl
  obtain ⟨hb, hg, U, hrow, hU⟩ := h
  have hrv := (hrow.of_block (ha.block _ hrow.lt)).of_block (hV.block _ (Nat.lt_of_lt_of_le hrow.lt ha.size))
  have hgl : g < gu := Nat.lt_of_lt_of_le hrow.lt (Nat.le_trans ha.size hgu)
  have hbV : Below w1.heap.size w1 V := (hb.trans (ha.mono hb.size)).trans (hV.mono (Nat.le_trans hb.size ha.size))
  have hsm : ∀ k, k ≠ g → ((V.setCell ⟨g, q * 2, none⟩ (.int .i64 ps[q].1)).setCell ⟨g, q * 2 + 1, none⟩ (.slice (some ⟨gu, 0, none⟩) ps[q].2.length ps[q].2.length)).heap[k]? = V.heap[k]? := fun k hk => by
    rw [Below.heap_setCell _ _ _ _ (by simpa using hk), Below.heap_setCell _ _ _ _ (by simpa using hk)]
  have hsz : ((V.setCell ⟨g, q * 2, none⟩ (.int .i64 ps[q].1)).setCell ⟨g, q * 2 + 1, none⟩ (.slice (some ⟨gu, 0, none⟩) ps[q].2.length ps[q].2.length)).heap.size = V.heap.size := by simp [World.setCell]
  refine ⟨(hbV.setCell hg _).setCell hg _, hg, fun i => if i = q then gu else U i, ?_, fun i hi hlt => ?_⟩
  · refine ((hrv.set (q * 2) _).set (q * 2 + 1) _).congr fun j hj => ?_
    have eq : ps.getD q (0, []) = ps[q] := by rw [List.getD_eq_getElem?_getD, List.getElem?_eq_getElem hq]; rfl
    by_cases h1 : j = q * 2 + 1
    · rw [if_pos h1]
      have e1 : j / 2 = q := by omega
      unfold mc
      rw [e1, if_pos (Nat.lt_succ_self q), if_neg (by omega), eq]; simp only [if_true]
    · rw [if_neg h1]
      by_cases h2 : j = q * 2
      · rw [if_pos h2]
        have e1 : j / 2 = q := by omega
        unfold mc
        rw [e1, if_pos (Nat.lt_succ_self q), if_pos (by omega), eq]
      · rw [if_neg h2]
        have e1 : j / 2 ≠ q := by omega
        unfold mc
        by_cases h3 : j / 2 < q
        · rw [if_pos h3, if_pos (show j / 2 < q + 1 by omega)]; simp only [if_neg e1]
        · rw [if_neg h3, if_neg (show ¬ j / 2 < q + 1 by omega)]
  · by_cases e : i = q
    · subst e
      simp only [if_true]
      exact ⟨hgl, hsy.same (fun k hk => hsm k (by simp [Value.ownBlock] at hk; omega)) (by rw [hsz]; exact Nat.le_refl _)⟩
    · simp only [if_neg e]
      obtain ⟨k1, k2⟩ := hU i hi (by omega)
      exact ⟨k1, ((k2.below ha).below hV).same (fun k hk => hsm k (by simp [Value.ownBlock] at hk; omega)) (by rw [hsz]; exact Nat.le_refl _)⟩
theorem pds_row {g : Nat} {ps : List Pd} {w : World} {U : Nat → Nat} (hrow : w.rowIs g 77 (ps.length * 2) (mc ps U ps.length)) (hU : ∀ i (hi : i < ps.length), Syms w (.slice (some ⟨U i, 0, none⟩) ps[i].2.length ps[i].2.length) ps[i].2.reverse) (hm : ps.length ≤ 40) : Pds w (.slice (some ⟨g, 0, none⟩) ps.length ps.length) (turn ps) := by
  refine ⟨some ⟨g, 0, none⟩, ps.length, by rw [turn_length], by rw [turn_length]; omega, Or.inr ⟨g, 0, rfl, hrow.lt, fun i hi => ?_⟩⟩
  have hi' : i < ps.length := by rw [turn_length] at hi; exact hi
  have e0 := hrow.cell (i := i * 2) (by omega)
  have e1 := hrow.cell (i := i * 2 + 1) (by omega)
  have d0 : i * 2 / 2 = i := by omega
  have d1 : (i * 2 + 1) / 2 = i := by omega
  have m1 : (i * 2 + 1) % 2 = 1 := by omega
  have g0 : ps.getD i (0, []) = ps[i] := by rw [List.getD_eq_getElem?_getD, List.getElem?_eq_getElem hi']; rfl
  simp only [mc, d0, d1, m1, g0, Nat.mul_mod_left, if_true, if_pos hi'] at e0 e1
  rw [if_neg (by omega)] at e1
  have et : (turn ps)[i] = turnP ps[i] := by simp [turn]
  rw [et]
  exact ⟨by rw [Nat.zero_add]; exact e0, _, by rw [Nat.zero_add]; exact e1, hU i hi'⟩
/-- Stores into an elder block are nothing to it. -/
theorem MR.pds_three {w1 : World} {g k : Nat} {ps : List Pd} {w : World} (h : MR w1 g ps.length ps ps.length w) (hm : ps.length ≤ 40) (hk : k < w1.heap.size) (x y z : Value) : Pds (((w.setCell ⟨k, 0, none⟩ x).setCell ⟨k, 1, none⟩ y).setCell ⟨k, 2, none⟩ z) (.slice (some ⟨g, 0, none⟩) ps.length ps.length) (turn ps) := by
  have hsm : ∀ i, i ≠ k → (((w.setCell ⟨k, 0, none⟩ x).setCell ⟨k, 1, none⟩ y).setCell ⟨k, 2, none⟩ z).heap[i]? = w.heap[i]? := fun i hi => by
    rw [Below.heap_setCell _ _ _ _ (by simpa using hi), Below.heap_setCell _ _ _ _ (by simpa using hi), Below.heap_setCell _ _ _ _ (by simpa using hi)]
  have hsz : (((w.setCell ⟨k, 0, none⟩ x).setCell ⟨k, 1, none⟩ y).setCell ⟨k, 2, none⟩ z).heap.size = w.heap.size := by simp [World.setCell]
  obtain ⟨hb, hg, U, hrow, hU⟩ := h
  refine pds_row (hrow.of_block (hsm _ (by omega))) (fun i hi => (hU i hi hi).2.same (fun q hq => hsm _ ?_) (by rw [hsz]; exact Nat.le_refl _)) hm
  have := (hU i hi hi).1
  simp [Value.ownBlock] at hq
  omega
theorem cell_blk {w : World} {g : Nat} {cs : Array Value} {t : TypeId} (h : w.heap[g]? = some (.cells cs t)) (i : Nat) : w.cell? ⟨g, i, none⟩ = cs[i]? := by
  unfold World.cell?
  simp only [h]
  rfl
theorem frozen_blk {w : World} {g : Nat} {cs : Array Value} {t : TypeId} (h : w.heap[g]? = some (.cells cs t)) (i : Nat) : w.frozen? ⟨g, i, none⟩ = false := by
  simp [World.frozen?, h]
theorem run_make36 (n : Nat) (h : n ≤ 40) (w : World) : (Instr.makeSlice 22 (.int .i64 (n : Int)) (.int .i64 (n : Int))).run Try.prog w = .ok (.slice (some ⟨w.heap.size, 0, none⟩) n n) (w.alloc (.cells (madeCells #[.int .i64 0, .slice none 0 0] (n * 2)) 77)) := by
  obtain ⟨i, hi, hz, hs, hb⟩ := info_parts info77
  have hr := run_make (P := Try.prog) w 22 77 i _ Try.underlying22 hi hz .i64 .i64 n n (by omega) (Int.le_refl _) (by rw [hb]; omega) (by omega)
  simp only [Int.toNat_natCast, hs] at hr
  exact hr
theorem MR.start (w1 : World) (ps : List Pd) : MR w1 w1.heap.size ps.length ps 0 (w1.alloc (.cells (madeCells #[.int .i64 0, .slice none 0 0] (ps.length * 2)) 77)) :=
  ⟨below_alloc _ _, Nat.le_refl _, fun _ => 0, (row_made44 w1 ps.length _ _ 77).congr fun j _ => by unfold mc; simp, fun i _ hi => absurd hi (Nat.not_lt_zero _)⟩
structure RMi (wa : World) (g np q p : Nat) (x : Int) (uo : Option Addr) (uc : Nat) (l : List Sy) (gu : Nat) (d : Nat → Bool) (x26 x27 x28 x29 x30 x31 x32 x33 x34 : Value) (W : World) : Prop where
  f0 : d 0 = true → x26 = (.slice (some ⟨g, 0, none⟩) np np)
  f1 : d 1 = true → x27 = (.int .i64 (q : Int))
  f2 : d 2 = true → x28 = (.pointer (some ⟨p, 0, none⟩))
  f3 : d 3 = true → x29 = (.int .i64 x)
  f4 : d 4 = true → x30 = (.pointer (some ⟨p, 1, none⟩))
  f5 : d 5 = true → x31 = (.slice uo l.length uc)
  f6 : d 6 = true → x32 = (.slice (some ⟨gu, 0, none⟩) l.length l.length)
  f7 : d 7 = true → x33 = (.agg #[.int .i64 x, (.slice (some ⟨gu, 0, none⟩) l.length l.length)])
  f8 : d 8 = true → x34 = (.pointer (some ⟨g, q * 2, none⟩))
  f9 : d 9 = true → True
  o9 : ∀ i, i < 9 → d 9 = true → d i = true
  o7 : d 7 = true → d 6 = true
  kp : d 9 = false → Below wa.heap.size wa W
  sy : d 6 = true → d 9 = false → Syms W (.slice (some ⟨gu, 0, none⟩) l.length l.length) l.reverse ∧ wa.heap.size ≤ gu
  fin : d 9 = true → ∃ V, Below wa.heap.size wa V ∧ Syms V (.slice (some ⟨gu, 0, none⟩) l.length l.length) l.reverse ∧ wa.heap.size ≤ gu ∧ W = (V.setCell ⟨g, q * 2, none⟩ (.int .i64 x)).setCell ⟨g, q * 2 + 1, none⟩ (.slice (some ⟨gu, 0, none⟩) l.length l.length)

theorem box_next {w w' : World} {k : Nat} {o : Obj} (h : w.heap[k]? = some o) (hb : Below w.heap.size w w') : w'.heap[k]? = some o := by
  have hlt : k < w.heap.size := by
    rcases Nat.lt_or_ge k w.heap.size with h' | h'
    · exact h'
    · rw [Array.getElem?_eq_none h'] at h; cases h
  rw [hb.block k hlt]; exact h
theorem block_store {w : World} {g i : Nat} {cs : Array Value} {t : TypeId} {fr : Nat × Nat} (h : w.heap[g]? = some (.cells cs t fr)) (v : Value) : (w.setCell ⟨g, i, none⟩ v).heap[g]? = some (.cells (cs.setIfInBounds i v) t fr) := by
  simp [World.setCell, Array.getElem?_modify, h]
set_option maxHeartbeats 8000000 in
set_option maxRecDepth 20000 in
theorem Mirror_ok (t n : Int) (pv : Value) (ps : List Pd) (w : World) (h : Pds w pv ps) (hok : chk t n ps = 0) :
    Calls Try.prog 23 #[.agg #[.int .i64 t, .int .i64 n, pv]] w fun e w' => ∃ g, e = .returned (.tuple #[.agg #[.int .i64 t, .int .i64 n, .slice (some ⟨g, 0, none⟩) ps.length ps.length], .int .i64 0]) ∧ Pds w' (.slice (some ⟨g, 0, none⟩) ps.length ps.length) (turn ps) ∧ Below w.heap.size w w' := by
  have HOK : Hid (chk t n ps = 0) := hok
  have hpl := (chk_zero hok).2.1
  have hmk := run_make36 ps.length hpl
  have HCP : Hid (∀ q (hq : q < ps.length), ps[q].2.length ≤ 8) := fun q hq => (chkP_zero ((chk_zero hok).2.2 ps[q] (List.getElem_mem hq))).1
  obtain ⟨ao, c, rfl, hm, hcs⟩ := h
  have h' : Pds w (.slice ao ps.length c) ps := ⟨ao, c, rfl, hm, hcs⟩
  have HG0 : Hid (Gb w w.heap.size t n (.slice ao ps.length c) ps ((w.alloc (Obj.cells #[.int .i64 t, .int .i64 n, .slice ao ps.length c] 24)).alloc (Obj.cells #[.int .i64 0, .int .i64 0, .slice none 0 0] 24))) := (Gb.box h' t n).next (below_alloc _ _)
  have HB0 : Hid (((w.alloc (Obj.cells #[.int .i64 t, .int .i64 n, .slice ao ps.length c] 24)).alloc (Obj.cells #[.int .i64 0, .int .i64 0, .slice none 0 0] 24)).heap[w.heap.size + 1]? = some (Obj.cells #[.int .i64 0, .int .i64 0, .slice none 0 0] 24)) := by
    have := heap_alloc_new (w.alloc (Obj.cells #[.int .i64 t, .int .i64 n, .slice ao ps.length c] 24)) (Obj.cells #[.int .i64 0, .int .i64 0, .slice none 0 0] 24)
    rw [show (w.alloc (Obj.cells #[.int .i64 t, .int .i64 n, .slice ao ps.length c] 24)).heap.size = w.heap.size + 1 by simp] at this
    exact this
  clear hok h'
  go_enter Try.func23, Try.ntmps23
  go_wp2_with fail
  have hc := Check_any t n _ ps _ HG0.out.pds
  rw [HOK.out] at hc
  refine hc.mono ?_
  rintro _ w1 ⟨rfl, hb⟩
  have HG1 : Hid (Gb w w.heap.size t n (.slice ao ps.length c) ps w1) := HG0.out.next hb
  have HB1 : Hid (w1.heap[w.heap.size + 1]? = some (Obj.cells #[.int .i64 0, .int .i64 0, .slice none 0 0] 24)) := box_next HB0.out hb
  clear hc hb HG0 HB0
  have z2 := HG1.out.c2
  have zz2 : (w1.alloc (.cells (madeCells #[.int .i64 0, .slice none 0 0] (ps.length * 2)) 77)).cell? ⟨w.heap.size, 2, none⟩ = some (.slice ao ps.length c) := ((below_alloc _ _).cell (p := ⟨w.heap.size, 2, none⟩) HG1.out.lt).trans z2
  have HM0 : Hid (MR w1 w1.heap.size ps.length ps 0 (w1.alloc (.cells (madeCells #[.int .i64 0, .slice none 0 0] (ps.length * 2)) 77))) := MR.start w1 ps
  go_wp2_with fail
  clear z2 zz2 hmk
  generalize w1.alloc (.cells (madeCells #[.int .i64 0, .slice none 0 0] (ps.length * 2)) 77) = wb at HM0 ⊢
  generalize w1.heap.size = g at HM0 ⊢
  go_loopw [21] (fun i wr => ∃ q : Nat, q ≤ ps.length ∧ i = .int .i64 (q : Int) ∧ Hid (MR w1 g ps.length ps q wr)) (fun i _ => ps.length - (intOf i).toNat)
  case atStart => exact ⟨0, by omega, rfl, HM0⟩
  case round =>
    obtain ⟨q, hq, rfl, HM⟩ := hrel
    clear HM0
    by_cases hlt : q < ps.length
    · obtain ⟨b, o, rfl, hb, hc⟩ := hcs.resolve_left (by intro e; subst e; simp at hlt)
      have hbw : Below w.heap.size w wr := (HG1.out.next HM.out.below).below
      obtain ⟨d0, u, d1, hsy⟩ := hc q hlt
      have HL8 : Hid (ps[q].2.length ≤ 8) := HCP.out q hlt
      have HX : Hid (ps[q].1 = ps[q].1 ∧ ps[q].2 = ps[q].2) := ⟨rfl, rfl⟩
      have HSY : Hid (Syms wr u ps[q].2) := hsy.below hbw
      obtain ⟨x, hx⟩ : ∃ x, ps[q].1 = x := ⟨_, rfl⟩
      obtain ⟨l, hl⟩ : ∃ l, ps[q].2 = l := ⟨_, rfl⟩
      have HST : Hid (∀ wa, Below wr.heap.size wr wa → ∀ gu V, Below wa.heap.size wa V → Syms V (.slice (some ⟨gu, 0, none⟩) l.length l.length) l.reverse → wa.heap.size ≤ gu → MR w1 g ps.length ps (q + 1) ((V.setCell ⟨g, q * 2, none⟩ (.int .i64 x)).setCell ⟨g, q * 2 + 1, none⟩ (.slice (some ⟨gu, 0, none⟩) l.length l.length))) := fun wa ha gu V hV hs hg => HM.out.step hlt x l hx hl wa ha gu V hV hs hg
      rw [hl] at HSY HL8
      rw [hx] at d0
      clear hx hl HX
      replace d0 : wr.cell? ⟨b, o + q * 2, none⟩ = _ := (hbw.cell (p := ⟨b, o + q * 2, none⟩) hb).trans d0
      replace d1 : wr.cell? ⟨b, o + q * 2 + 1, none⟩ = _ := (hbw.cell (p := ⟨b, o + q * 2 + 1, none⟩) hb).trans d1
      have HPB : Hid (Pb wr.heap.size x u l (wr.alloc (Obj.cells #[.int .i64 x, u] 77))) := Pb.box HSY.out x
      have HROW : Hid (∃ f, (wr.alloc (Obj.cells #[.int .i64 x, u] 77)).rowIs g 77 (ps.length * 2) f) := by
        obtain ⟨-, -, U, hr, -⟩ := HM.out
        exact ⟨_, hr.alloc _⟩
      replace HST := HST.out _ (below_alloc wr (Obj.cells #[.int .i64 x, u] 77))
      obtain ⟨uo, uc, rfl, hum, -⟩ := HSY.out
      have hk1 : (q : Int) < (ps.length : Int) := by omega
      have HK1 : Hid (q < ps.length) := hlt
      clear hsy hc hcs hbw HSY HM HCP
      go_upto_region 8 with (fail)
      clear d0 d1 hk1
      generalize wr.alloc (Obj.cells #[.int .i64 x, .slice uo l.length uc] 77) = wa at HPB HROW HST ⊢
      generalize wr.heap.size = p at HPB ⊢
      replace HST : Hid (∀ gu V, Below wa.heap.size wa V → Syms V (.slice (some ⟨gu, 0, none⟩) l.length l.length) l.reverse → wa.heap.size ≤ gu → MR w1 g ps.length ps (q + 1) ((V.setCell ⟨g, q * 2, none⟩ (.int .i64 x)).setCell ⟨g, q * 2 + 1, none⟩ (.slice (some ⟨gu, 0, none⟩) l.length l.length))) := HST
      obtain ⟨fr, HROW⟩ := HROW.out
      replace HROW : Hid (wa.rowIs g 77 (ps.length * 2) fr) := HROW
      refine wp_region_free mixed (fun a0 d a W => ∃ (gu : Nat) (x26 x27 x28 x29 x30 x31 x32 x33 x34 : Value), a = (((((((((a0.put (some 26) x26).put (some 27) x27).put (some 28) x28).put (some 29) x29).put (some 30) x30).put (some 31) x31).put (some 32) x32).put (some 33) x33).put (some 34) x34) ∧ Hid (RMi wa g ps.length q p x uo uc l gu d x26 x27 x28 x29 x30 x31 x32 x33 x34 W)) (by kernel_rfl) ⟨0, u26, u27, u28, u29, u30, u31, u32, u33, u34, by simp only [Act.put, List.setIfInBounds_toArray, List.set_cons_zero, List.set_cons_succ], ?_⟩ ?_ ?_
      · exact ⟨fun h => no_way h, fun h => no_way h, fun h => no_way h, fun h => no_way h, fun h => no_way h, fun h => no_way h, fun h => no_way h, fun h => no_way h, fun h => no_way h, fun _ => trivial, fun _ _ h => no_way h, fun h => no_way h, fun _ => Below.drew (Below.refl _ _), fun h => no_way h, fun h => no_way h⟩
      · simp only [StepAll, and_true]
        refine ⟨?_, ?_, ?_, ?_, ?_, ?_, ?_, ?_, ?_, ?_⟩
        · intro d a W hI hd hdep
          obtain ⟨gu, x26, x27, x28, x29, x30, x31, x32, x33, x34, rfl, hF⟩ := hI
          clear hdep hd
          intro K hK
          simp only [Act.put, List.setIfInBounds_toArray, List.set_cons_zero, List.set_cons_succ]
          go_simp
          refine hK.out _ _ ⟨gu, (.slice (some ⟨g, 0, none⟩) ps.length ps.length), x27, x28, x29, x30, x31, x32, x33, x34, by simp only [Act.put, List.setIfInBounds_toArray, List.set_cons_zero, List.set_cons_succ], ?_⟩
          exact ⟨fun _ => rfl, fun h => hF.out.f1 (by simpa using h), fun h => hF.out.f2 (by simpa using h), fun h => hF.out.f3 (by simpa using h), fun h => hF.out.f4 (by simpa using h), fun h => hF.out.f5 (by simpa using h), fun h => hF.out.f6 (by simpa using h), fun h => hF.out.f7 (by simpa using h), fun h => hF.out.f8 (by simpa using h), fun h => hF.out.f9 (by simpa using h), fun i hi h => by have := hF.out.o9 i hi (by simpa using h); simp [this], fun h => by have := hF.out.o7 (by simpa using h); simpa using this, fun h => hF.out.kp (by simpa using h), fun h h2 => hF.out.sy (by simpa using h) (by simpa using h2), fun h => hF.out.fin (by simpa using h)⟩
        · intro d a W hI hd hdep
          obtain ⟨gu, x26, x27, x28, x29, x30, x31, x32, x33, x34, rfl, hF⟩ := hI
          clear hdep hd
          intro K hK
          simp only [Act.put, List.setIfInBounds_toArray, List.set_cons_zero, List.set_cons_succ]
          go_simp
          refine hK.out _ _ ⟨gu, x26, (.int .i64 (q : Int)), x28, x29, x30, x31, x32, x33, x34, by simp only [Act.put, List.setIfInBounds_toArray, List.set_cons_zero, List.set_cons_succ], ?_⟩
          exact ⟨fun h => hF.out.f0 (by simpa using h), fun _ => rfl, fun h => hF.out.f2 (by simpa using h), fun h => hF.out.f3 (by simpa using h), fun h => hF.out.f4 (by simpa using h), fun h => hF.out.f5 (by simpa using h), fun h => hF.out.f6 (by simpa using h), fun h => hF.out.f7 (by simpa using h), fun h => hF.out.f8 (by simpa using h), fun h => hF.out.f9 (by simpa using h), fun i hi h => by have := hF.out.o9 i hi (by simpa using h); simp [this], fun h => by have := hF.out.o7 (by simpa using h); simpa using this, fun h => hF.out.kp (by simpa using h), fun h h2 => hF.out.sy (by simpa using h) (by simpa using h2), fun h => hF.out.fin (by simpa using h)⟩
        · intro d a W hI hd hdep
          obtain ⟨gu, x26, x27, x28, x29, x30, x31, x32, x33, x34, rfl, hF⟩ := hI
          clear hdep hd
          intro K hK
          simp only [Act.put, List.setIfInBounds_toArray, List.set_cons_zero, List.set_cons_succ]
          go_simp
          refine hK.out _ _ ⟨gu, x26, x27, (.pointer (some ⟨p, 0, none⟩)), x29, x30, x31, x32, x33, x34, by simp only [Act.put, List.setIfInBounds_toArray, List.set_cons_zero, List.set_cons_succ], ?_⟩
          exact ⟨fun h => hF.out.f0 (by simpa using h), fun h => hF.out.f1 (by simpa using h), fun _ => rfl, fun h => hF.out.f3 (by simpa using h), fun h => hF.out.f4 (by simpa using h), fun h => hF.out.f5 (by simpa using h), fun h => hF.out.f6 (by simpa using h), fun h => hF.out.f7 (by simpa using h), fun h => hF.out.f8 (by simpa using h), fun h => hF.out.f9 (by simpa using h), fun i hi h => by have := hF.out.o9 i hi (by simpa using h); simp [this], fun h => by have := hF.out.o7 (by simpa using h); simpa using this, fun h => hF.out.kp (by simpa using h), fun h h2 => hF.out.sy (by simpa using h) (by simpa using h2), fun h => hF.out.fin (by simpa using h)⟩
        · intro d a W hI hd hdep
          obtain ⟨gu, x26, x27, x28, x29, x30, x31, x32, x33, x34, rfl, hF⟩ := hI
          have hd2 : d 2 = true := dep_of hdep 2 (by kernel_rfl)
          obtain rfl := hF.out.f2 hd2
          have HN9 : Hid (d 9 = false) := no_later (hF.out.o9 3 (by omega)) hd
          have ya : W.cell? ⟨p, 0, none⟩ = some (.int .i64 x) := ((hF.out.kp HN9.out).cell (p := ⟨p, 0, none⟩) HPB.out.lt).trans HPB.out.c0
          clear hdep hd hd2
          intro K hK
          simp only [Act.put, List.setIfInBounds_toArray, List.set_cons_zero, List.set_cons_succ]
          go_simp
          refine hK.out _ _ ⟨gu, x26, x27, (.pointer (some ⟨p, 0, none⟩)), (.int .i64 x), x30, x31, x32, x33, x34, by simp only [Act.put, List.setIfInBounds_toArray, List.set_cons_zero, List.set_cons_succ], ?_⟩
          exact ⟨fun h => hF.out.f0 (by simpa using h), fun h => hF.out.f1 (by simpa using h), fun h => hF.out.f2 (by simpa using h), fun _ => rfl, fun h => hF.out.f4 (by simpa using h), fun h => hF.out.f5 (by simpa using h), fun h => hF.out.f6 (by simpa using h), fun h => hF.out.f7 (by simpa using h), fun h => hF.out.f8 (by simpa using h), fun h => hF.out.f9 (by simpa using h), fun i hi h => by have := hF.out.o9 i hi (by simpa using h); simp [this], fun h => by have := hF.out.o7 (by simpa using h); simpa using this, fun h => hF.out.kp (by simpa using h), fun h h2 => hF.out.sy (by simpa using h) (by simpa using h2), fun h => hF.out.fin (by simpa using h)⟩
        · intro d a W hI hd hdep
          obtain ⟨gu, x26, x27, x28, x29, x30, x31, x32, x33, x34, rfl, hF⟩ := hI
          clear hdep hd
          intro K hK
          simp only [Act.put, List.setIfInBounds_toArray, List.set_cons_zero, List.set_cons_succ]
          go_simp
          refine hK.out _ _ ⟨gu, x26, x27, x28, x29, (.pointer (some ⟨p, 1, none⟩)), x31, x32, x33, x34, by simp only [Act.put, List.setIfInBounds_toArray, List.set_cons_zero, List.set_cons_succ], ?_⟩
          exact ⟨fun h => hF.out.f0 (by simpa using h), fun h => hF.out.f1 (by simpa using h), fun h => hF.out.f2 (by simpa using h), fun h => hF.out.f3 (by simpa using h), fun _ => rfl, fun h => hF.out.f5 (by simpa using h), fun h => hF.out.f6 (by simpa using h), fun h => hF.out.f7 (by simpa using h), fun h => hF.out.f8 (by simpa using h), fun h => hF.out.f9 (by simpa using h), fun i hi h => by have := hF.out.o9 i hi (by simpa using h); simp [this], fun h => by have := hF.out.o7 (by simpa using h); simpa using this, fun h => hF.out.kp (by simpa using h), fun h h2 => hF.out.sy (by simpa using h) (by simpa using h2), fun h => hF.out.fin (by simpa using h)⟩
        · intro d a W hI hd hdep
          obtain ⟨gu, x26, x27, x28, x29, x30, x31, x32, x33, x34, rfl, hF⟩ := hI
          have hd4 : d 4 = true := dep_of hdep 4 (by kernel_rfl)
          obtain rfl := hF.out.f4 hd4
          have HN9 : Hid (d 9 = false) := no_later (hF.out.o9 5 (by omega)) hd
          have ya : W.cell? ⟨p, 1, none⟩ = some (.slice uo l.length uc) := ((hF.out.kp HN9.out).cell (p := ⟨p, 1, none⟩) HPB.out.lt).trans HPB.out.c1
          clear hdep hd hd4
          intro K hK
          simp only [Act.put, List.setIfInBounds_toArray, List.set_cons_zero, List.set_cons_succ]
          go_simp
          refine hK.out _ _ ⟨gu, x26, x27, x28, x29, (.pointer (some ⟨p, 1, none⟩)), (.slice uo l.length uc), x32, x33, x34, by simp only [Act.put, List.setIfInBounds_toArray, List.set_cons_zero, List.set_cons_succ], ?_⟩
          exact ⟨fun h => hF.out.f0 (by simpa using h), fun h => hF.out.f1 (by simpa using h), fun h => hF.out.f2 (by simpa using h), fun h => hF.out.f3 (by simpa using h), fun h => hF.out.f4 (by simpa using h), fun _ => rfl, fun h => hF.out.f6 (by simpa using h), fun h => hF.out.f7 (by simpa using h), fun h => hF.out.f8 (by simpa using h), fun h => hF.out.f9 (by simpa using h), fun i hi h => by have := hF.out.o9 i hi (by simpa using h); simp [this], fun h => by have := hF.out.o7 (by simpa using h); simpa using this, fun h => hF.out.kp (by simpa using h), fun h h2 => hF.out.sy (by simpa using h) (by simpa using h2), fun h => hF.out.fin (by simpa using h)⟩
        · intro d a W hI hd hdep
          obtain ⟨gu, x26, x27, x28, x29, x30, x31, x32, x33, x34, rfl, hF⟩ := hI
          have hd5 : d 5 = true := dep_of hdep 5 (by kernel_rfl)
          obtain rfl := hF.out.f5 hd5
          have HN9 : Hid (d 9 = false) := no_later (hF.out.o9 6 (by omega)) hd
          have HN7 : Hid (d 7 = false) := no_later hF.out.o7 hd
          have HKP : Hid (Below wa.heap.size wa W) := hF.out.kp HN9.out
          have hcl := turned_any (.slice uo l.length uc) l W (HPB.out.sy.below HKP.out) HL8.out
          clear hdep hd hd5
          intro K hK
          simp only [Act.put, List.setIfInBounds_toArray, List.set_cons_zero, List.set_cons_succ]
          go_simp
          refine hcl.mono ?_
          rintro _ W1 ⟨gu1, rfl, hge, hsy1, hb1⟩
          have HSY1 : Hid (Syms W1 (.slice (some ⟨gu1, 0, none⟩) l.length l.length) l.reverse ∧ wa.heap.size ≤ gu1) := ⟨hsy1, Nat.le_trans HKP.out.size hge⟩
          clear hsy1 hge
          go_simp
          refine hK.out _ _ ⟨gu1, x26, x27, x28, x29, x30, (.slice uo l.length uc), (.slice (some ⟨gu1, 0, none⟩) l.length l.length), x33, x34, by simp only [Act.put, List.setIfInBounds_toArray, List.set_cons_zero, List.set_cons_succ], ?_⟩
          exact ⟨fun h => hF.out.f0 (by simpa using h), fun h => hF.out.f1 (by simpa using h), fun h => hF.out.f2 (by simpa using h), fun h => hF.out.f3 (by simpa using h), fun h => hF.out.f4 (by simpa using h), fun h => hF.out.f5 (by simpa using h), fun _ => rfl, fun h => by have := HN7.out; simp [this] at h, fun h => hF.out.f8 (by simpa using h), fun h => hF.out.f9 (by simpa using h), fun i hi h => by have := hF.out.o9 i hi (by simpa using h); simp [this], fun _ => by simp, fun _ => HKP.out.trans (hb1.mono HKP.out.size), fun _ _ => HSY1.out, fun h => by have := HN9.out; simp [this] at h⟩
        · intro d a W hI hd hdep
          obtain ⟨gu, x26, x27, x28, x29, x30, x31, x32, x33, x34, rfl, hF⟩ := hI
          have hd3 : d 3 = true := dep_of hdep 3 (by kernel_rfl)
          have hd6 : d 6 = true := dep_of hdep 6 (by kernel_rfl)
          obtain rfl := hF.out.f3 hd3
          obtain rfl := hF.out.f6 hd6
          have e6 := hd6
          clear hdep hd hd3 hd6
          intro K hK
          simp only [Act.put, List.setIfInBounds_toArray, List.set_cons_zero, List.set_cons_succ]
          go_simp
          refine hK.out _ _ ⟨gu, x26, x27, x28, (.int .i64 x), x30, x31, (.slice (some ⟨gu, 0, none⟩) l.length l.length), (.agg #[.int .i64 x, (.slice (some ⟨gu, 0, none⟩) l.length l.length)]), x34, by simp only [Act.put, List.setIfInBounds_toArray, List.set_cons_zero, List.set_cons_succ], ?_⟩
          exact ⟨fun h => hF.out.f0 (by simpa using h), fun h => hF.out.f1 (by simpa using h), fun h => hF.out.f2 (by simpa using h), fun h => hF.out.f3 (by simpa using h), fun h => hF.out.f4 (by simpa using h), fun h => hF.out.f5 (by simpa using h), fun h => hF.out.f6 (by simpa using h), fun _ => rfl, fun h => hF.out.f8 (by simpa using h), fun h => hF.out.f9 (by simpa using h), fun i hi h => by have := hF.out.o9 i hi (by simpa using h); simp [this], fun _ => by simpa using e6, fun h => hF.out.kp (by simpa using h), fun h h2 => hF.out.sy (by simpa using h) (by simpa using h2), fun h => hF.out.fin (by simpa using h)⟩
        · intro d a W hI hd hdep
          obtain ⟨gu, x26, x27, x28, x29, x30, x31, x32, x33, x34, rfl, hF⟩ := hI
          have hd0 : d 0 = true := dep_of hdep 0 (by kernel_rfl)
          have hd1 : d 1 = true := dep_of hdep 1 (by kernel_rfl)
          obtain rfl := hF.out.f0 hd0
          obtain rfl := hF.out.f1 hd1
          have hk1 := HK1.out
          have hk2 : (q : Int) < (ps.length : Int) := by omega
          clear hdep hd hd0 hd1
          intro K hK
          simp only [Act.put, List.setIfInBounds_toArray, List.set_cons_zero, List.set_cons_succ]
          go_simp
          refine hK.out _ _ ⟨gu, (.slice (some ⟨g, 0, none⟩) ps.length ps.length), (.int .i64 (q : Int)), x28, x29, x30, x31, x32, x33, (.pointer (some ⟨g, q * 2, none⟩)), by simp only [Act.put, List.setIfInBounds_toArray, List.set_cons_zero, List.set_cons_succ], ?_⟩
          exact ⟨fun h => hF.out.f0 (by simpa using h), fun h => hF.out.f1 (by simpa using h), fun h => hF.out.f2 (by simpa using h), fun h => hF.out.f3 (by simpa using h), fun h => hF.out.f4 (by simpa using h), fun h => hF.out.f5 (by simpa using h), fun h => hF.out.f6 (by simpa using h), fun h => hF.out.f7 (by simpa using h), fun _ => rfl, fun h => hF.out.f9 (by simpa using h), fun i hi h => by have := hF.out.o9 i hi (by simpa using h); simp [this], fun h => by have := hF.out.o7 (by simpa using h); simpa using this, fun h => hF.out.kp (by simpa using h), fun h h2 => hF.out.sy (by simpa using h) (by simpa using h2), fun h => hF.out.fin (by simpa using h)⟩
        · intro d a W hI hd hdep
          obtain ⟨gu, x26, x27, x28, x29, x30, x31, x32, x33, x34, rfl, hF⟩ := hI
          have hd0 : d 0 = true := dep_of hdep 0 (by kernel_rfl)
          have hd1 : d 1 = true := dep_of hdep 1 (by kernel_rfl)
          have hd2 : d 2 = true := dep_of hdep 2 (by kernel_rfl)
          have hd3 : d 3 = true := dep_of hdep 3 (by kernel_rfl)
          have hd4 : d 4 = true := dep_of hdep 4 (by kernel_rfl)
          have hd5 : d 5 = true := dep_of hdep 5 (by kernel_rfl)
          have hd6 : d 6 = true := dep_of hdep 6 (by kernel_rfl)
          have hd7 : d 7 = true := dep_of hdep 7 (by kernel_rfl)
          have hd8 : d 8 = true := dep_of hdep 8 (by kernel_rfl)
          obtain rfl := hF.out.f0 hd0
          obtain rfl := hF.out.f1 hd1
          obtain rfl := hF.out.f2 hd2
          obtain rfl := hF.out.f3 hd3
          obtain rfl := hF.out.f4 hd4
          obtain rfl := hF.out.f5 hd5
          obtain rfl := hF.out.f6 hd6
          obtain rfl := hF.out.f7 hd7
          obtain rfl := hF.out.f8 hd8
          have HD : Hid (∀ i, i < 9 → d i = true) := fun i hi => by
            have : i = 0 ∨ i = 1 ∨ i = 2 ∨ i = 3 ∨ i = 4 ∨ i = 5 ∨ i = 6 ∨ i = 7 ∨ i = 8 := by omega
            rcases this with rfl | rfl | rfl | rfl | rfl | rfl | rfl | rfl | rfl <;> assumption
          have HKP : Hid (Below wa.heap.size wa W) := hF.out.kp hd
          have HSY : Hid (Syms W (.slice (some ⟨gu, 0, none⟩) l.length l.length) l.reverse ∧ wa.heap.size ≤ gu) := hF.out.sy hd6 hd
          have hrow := HROW.out.of_block (HKP.out.block _ HROW.out.lt)
          have hk1 := HK1.out
          have ya := hrow.cell (i := q * 2) (by omega)
          have yb := (hrow.set (q * 2) (.int .i64 x)).cell (i := q * 2 + 1) (by omega)
          have yc := hrow.frozen (q * 2)
          have yd := (hrow.set (q * 2) (.int .i64 x)).frozen (q * 2 + 1)
          clear hrow
          clear hdep hd hd0 hd1 hd2 hd3 hd4 hd5 hd6 hd7 hd8
          intro K hK
          simp only [Act.put, List.setIfInBounds_toArray, List.set_cons_zero, List.set_cons_succ]
          go_simp
          refine hK.out _ _ ⟨gu, (.slice (some ⟨g, 0, none⟩) ps.length ps.length), (.int .i64 (q : Int)), (.pointer (some ⟨p, 0, none⟩)), (.int .i64 x), (.pointer (some ⟨p, 1, none⟩)), (.slice uo l.length uc), (.slice (some ⟨gu, 0, none⟩) l.length l.length), (.agg #[.int .i64 x, (.slice (some ⟨gu, 0, none⟩) l.length l.length)]), (.pointer (some ⟨g, q * 2, none⟩)), by simp only [Act.put, List.setIfInBounds_toArray, List.set_cons_zero, List.set_cons_succ], ?_⟩
          exact ⟨fun h => hF.out.f0 (by simpa using h), fun h => hF.out.f1 (by simpa using h), fun h => hF.out.f2 (by simpa using h), fun h => hF.out.f3 (by simpa using h), fun h => hF.out.f4 (by simpa using h), fun h => hF.out.f5 (by simpa using h), fun h => hF.out.f6 (by simpa using h), fun h => hF.out.f7 (by simpa using h), fun h => hF.out.f8 (by simpa using h), fun _ => trivial, fun i hi _ => by have := HD.out i hi; simp [this], fun h => by have := HD.out 6 (by omega); simpa using this, fun h => by simp at h, fun _ h => by simp at h, fun _ => ⟨W, HKP.out, HSY.out.1, HSY.out.2, rfl⟩⟩
      · intro d a W hI hall
        obtain ⟨gu, x26, x27, x28, x29, x30, x31, x32, x33, x34, rfl, hF⟩ := hI
        simp only [List.length_cons, List.length_nil] at hall
        obtain rfl := hF.out.f0 (hall 0 (by omega))
        obtain rfl := hF.out.f1 (hall 1 (by omega))
        obtain rfl := hF.out.f2 (hall 2 (by omega))
        obtain rfl := hF.out.f3 (hall 3 (by omega))
        obtain rfl := hF.out.f4 (hall 4 (by omega))
        obtain rfl := hF.out.f5 (hall 5 (by omega))
        obtain rfl := hF.out.f6 (hall 6 (by omega))
        obtain rfl := hF.out.f7 (hall 7 (by omega))
        obtain rfl := hF.out.f8 (hall 8 (by omega))
        obtain ⟨V, v1, v2, v3, rfl⟩ := hF.out.fin (hall 9 (by omega))
        have HV : Hid (Below wa.heap.size wa V ∧ Syms V (.slice (some ⟨gu, 0, none⟩) l.length l.length) l.reverse ∧ wa.heap.size ≤ gu) := ⟨v1, v2, v3⟩
        clear hF hall v1 v2 v3
        simp only [Act.put, List.setIfInBounds_toArray, List.set_cons_zero, List.set_cons_succ]
        obtain ⟨WN, HWN⟩ : ∃ WN, Hid ((V.setCell ⟨g, q * 2, none⟩ (.int .i64 x)).setCell ⟨g, q * 2 + 1, none⟩ (.slice (some ⟨gu, 0, none⟩) l.length l.length) = WN) := ⟨_, (rfl : _ = _)⟩
        rw [HWN.out]
        have HMR : Hid (MR w1 g ps.length ps (q + 1) WN) := by
          rw [← HWN.out]
          exact HST.out gu V HV.out.1 HV.out.2.1 HV.out.2.2
        clear HST HV HWN
        go_wp2_with fail
        go_roundw
        case rel => exact ⟨q + 1, by omega, by go_num, HMR⟩
        case measure => simp [intOf]; omega
    · have hqe : q = ps.length := by omega
      subst hqe
      have HG2 : Hid (Gb w w.heap.size t n (.slice ao ps.length c) ps wr) := HG1.out.next HM.out.below
      have hrb : wr.heap[w.heap.size + 1]? = some (Obj.cells #[.int .i64 0, .int .i64 0, .slice none 0 0] 24) := box_next HB1.out HM.out.below
      have HGE : Hid (w.heap.size + 1 < w1.heap.size ∧ w1.heap.size ≤ g) := by
        refine ⟨?_, HM.out.ge⟩
        rcases Nat.lt_or_ge (w.heap.size + 1) w1.heap.size with h' | h'
        · exact h'
        · have := HB1.out; rw [Array.getElem?_eq_none h'] at this; cases this
      have z0 := HG2.out.c0
      have z1 := HG2.out.c1
      have z2 := HG2.out.c2
      have r1 := block_store (i := 0) hrb (.int .i64 t)
      have r2 := block_store (i := 1) r1 (.int .i64 n)
      have r3 := block_store (i := 2) r2 (.slice (some ⟨g, 0, none⟩) ps.length ps.length)
      simp only [List.setIfInBounds_toArray, List.set_cons_zero, List.set_cons_succ] at r1 r2 r3
      have y0 : wr.cell? ⟨w.heap.size + 1, 0, none⟩ = some (.int .i64 0) := by simp [World.cell?, hrb]
      have y1 := cell_blk r1 1
      have y2 := cell_blk r2 2
      have v0 := cell_blk r3 0
      have v1 := cell_blk r3 1
      have v2 := cell_blk r3 2
      have f0 := frozen_blk hrb 0
      have f1 := frozen_blk r1 1
      have f2 := frozen_blk r2 2
      simp only [List.getElem?_toArray, List.getElem?_cons_zero, List.getElem?_cons_succ] at y1 y2 v0 v1 v2
      have HFIN : Hid (Pds (((wr.setCell ⟨w.heap.size + 1, 0, none⟩ (.int .i64 t)).setCell ⟨w.heap.size + 1, 1, none⟩ (.int .i64 n)).setCell ⟨w.heap.size + 1, 2, none⟩ (.slice (some ⟨g, 0, none⟩) ps.length ps.length)) (.slice (some ⟨g, 0, none⟩) ps.length ps.length) (turn ps) ∧ Below w.heap.size w (((wr.setCell ⟨w.heap.size + 1, 0, none⟩ (.int .i64 t)).setCell ⟨w.heap.size + 1, 1, none⟩ (.int .i64 n)).setCell ⟨w.heap.size + 1, 2, none⟩ (.slice (some ⟨g, 0, none⟩) ps.length ps.length))) :=
        ⟨MR.pds_three HM.out hpl HGE.out.1 _ _ _, ((HG2.out.below.setCell (by simp) _).setCell (by simp) _).setCell (by simp) _⟩
      clear HM HG2 hrb r1 r2 r3 HG1 hcs
      go_wp2_with fail
      exact bodyPost_ret (v := .tuple #[.agg #[.int .i64 t, .int .i64 n, .slice (some ⟨g, 0, none⟩) ps.length ps.length], .int .i64 0]) (by simp [results, Try.results23, go_sem, v0, v1, v2]) rfl ⟨_, rfl, HFIN.out.1, HFIN.out.2⟩
end Go.Proofs.Ytmcmidfpglhnmaa
