/-
  The contract of the closure of facts.followers.
-/
import Derived.Test.YtmcmidfpglhnmaaFcFol0
namespace Go.Proofs.Ytmcmidfpglhnmaa
open Go.RowKit
open Cg

/-- What is held while followers goes on. -/
structure Iw (E : Nat → Bool) (F : Nat → Wd) (n be bf bw cs cf : Nat) (v2 v3 v4 : Value) (V : Nat → Wd) (W : World) : Prop where
  c : W.rowIs cs 41 1 (fun _ => (.slice (some ⟨bw, 0, none⟩) n n))
  f : W.rowIs cf 43 5 (fv (.slice (some ⟨be, 0, none⟩) n n) (.slice (some ⟨bf, 0, none⟩) n n) v2 v3 v4)
  e : Rb W be n E
  fi : Rw W bf n F
  row : Rw W bw n V
  nb : bf ≠ bw
theorem Iw.next {E : Nat → Bool} {F : Nat → Wd} {n be bf bw cs cf : Nat} {v2 v3 v4 : Value} {V : Nat → Wd} {W W' : World} (h : Iw E F n be bf bw cs cf v2 v3 v4 V W) (hb : Below W.heap.size W W') : Iw E F n be bf bw cs cf v2 v3 v4 V W' :=
  ⟨h.c.of_block (hb.block _ h.c.lt), h.f.of_block (hb.block _ h.f.lt), h.e.next hb, h.fi.next hb, h.row.next hb, h.nb⟩
theorem Iw.put {E : Nat → Bool} {F : Nat → Wd} {n be bf bw cs cf : Nat} {v2 v3 v4 : Value} {V V' : Nat → Wd} {W W' : World} (h : Iw E F n be bf bw cs cf v2 v3 v4 V W) (hf : Fm (fun k => k = bw) W W') (hr : Rw W' bw n V') : Iw E F n be bf bw cs cf v2 v3 v4 V' W' :=
  ⟨h.c.of_block (hf.block _ h.c.lt (row_ne h.c h.row (by decide))), h.f.of_block (hf.block _ h.f.lt (row_ne h.f h.row (by decide))), h.e.of (hf.block _ h.e.lt (row_ne h.e h.row (by decide))), h.fi.of (hf.block _ h.fi.lt h.nb), hr, h.nb⟩
/-- A production's box, as a row. -/
theorem row_two (w : World) (a b : Value) (t : TypeId) : (w.alloc (.cells #[a, b] t)).rowIs w.heap.size t 2 (fun i => if i = 0 then a else b) :=
  World.rowIs_alloc w _ t _ fun i hi => by
    have : i = 0 ∨ i = 1 := by simp at hi; omega
    rcases this with rfl | rfl <;> rfl
set_option maxHeartbeats 6400000 in
set_option maxRecDepth 20000 in
theorem clos39_any (ps : List Pd) (t : Int) (ht : t ≤ 30) (n be bf bw cs cf : Nat) (E : Nat → Bool) (F V : Nat → Wd) (v2 v3 v4 : Value) (h : Nat) (hhn : h < n) (u : Value) (l : List Sy) (hl8 : l.length ≤ 8) (ok : OkL t n l) (W0 W : World) (hs : Syms W0 u l) (hw0 : Below W0.heap.size W0 W) (hb0 : W0.heap.size ≤ bw)
    (hI : Iw E F n be bf bw cs cf v2 v3 v4 V W) :
    Calls Try.prog 68 #[.agg #[.int .i64 (h : Int), u], .pointer (some ⟨cs, 0, none⟩), .pointer (some ⟨cf, 0, none⟩)] W fun e W' => ∃ r, e = .returned (.bool r) ∧ WOut ps E F bw n l h V W r W' := by
  have HSY : Hid (Syms W0 u l) := hs
  obtain ⟨uo, uc, rfl, hul, hcs⟩ := hs
  obtain ⟨wb, HWB⟩ : ∃ wb, Hid (W.alloc (Obj.cells #[.int .i64 (h : Int), .slice uo l.length uc] 77) = wb) := ⟨_, (rfl : _ = _)⟩
  have g0 := row_two W (.int .i64 (h : Int)) (.slice uo l.length uc) 77
  have hbA := below_alloc W (Obj.cells #[.int .i64 (h : Int), .slice uo l.length uc] 77)
  rw [HWB.out] at g0 hbA
  have HPB : Hid (wb.rowIs W.heap.size 77 2 (fun i => if i = 0 then .int .i64 (h : Int) else .slice uo l.length uc)) := g0
  have HI0 : Hid (Iw E F n be bf bw cs cf v2 v3 v4 V wb) := hI.next hbA
  have HW0 : Hid (Below W0.heap.size W0 wb ∧ W0.heap.size ≤ bw) := ⟨hw0.trans (hbA.mono hw0.size), hb0⟩
  have HFA : Hid (∀ w', Fm (fun k => k = bw) wb w' → Fm (fun k => k = bw) W w') := fun w' k => (Fm.of (X := fun k => k = bw) hbA).trans k fun _ _ e => e
  have HOK : Hid (OkL t n l) := ok
  have y1 := g0.cell (i := 1) (by omega)
  have hh2 : (h : Int) < (n : Int) := by omega
  clear g0 hbA hI ok hw0 hb0
  simp only [if_neg (by omega : ¬ (1 : Nat) = 0)] at y1
  have HWE := HWB.out
  subst HWE
  go_enter Try.func68, Try.ntmps68
  go_wp2_with fail
  obtain ⟨g, HG⟩ : ∃ g, Hid (W.heap.size = g) := ⟨_, (rfl : W.heap.size = W.heap.size)⟩
  rw [HG.out] at HPB ⊢
  generalize (W.alloc (Obj.cells #[.int .i64 (h : Int), .slice uo l.length uc] 77)) = wb at HPB HI0 HW0 HFA ⊢
  clear y1 HG HWB
  go_loopw [5, 11] (fun a i wr => ∃ (q : Nat) (r : Bool), q ≤ l.length ∧ i = .int .i64 (q : Int) ∧ a = .bool r ∧ Hid (∃ V', Fm (fun k => k = bw) wb wr ∧ Rw wr bw n V' ∧ FS ps n E F l h V q r V')) (fun _ i _ => l.length - (intOf i).toNat)
  case atStart => exact ⟨0, false, by omega, rfl, rfl, V, Fm.refl _ _, HI0.out.row, FS.start⟩
  case round =>
    obtain ⟨q, r, hq, rfl, rfl, HA⟩ := hrel
    by_cases hlt : q < l.length
    · obtain ⟨b2, o, rfl, hb, hc⟩ := hcs.resolve_left (by intro e; subst e; simp at hlt)
      obtain ⟨c0, c1⟩ := hc q hlt
      obtain ⟨V', hF, hRw, hFS⟩ := HA.out
      have hbw : Below W0.heap.size W0 wr := HW0.out.1.trans (hF.below HW0.out.1.size fun k hk => by have := HW0.out.2; omega)
      obtain ⟨kd, m, e1, e2, e3, hk⟩ := HOK.out.at hlt
      rw [e1] at c0
      rw [e2] at c1
      replace c0 : wr.cell? ⟨b2, o + q * 2, none⟩ = _ := (hbw.cell (p := ⟨b2, o + q * 2, none⟩) hb).trans c0
      replace c1 : wr.cell? ⟨b2, o + q * 2 + 1, none⟩ = _ := (hbw.cell (p := ⟨b2, o + q * 2 + 1, none⟩) hb).trans c1
      obtain ⟨wa, HWA⟩ : ∃ wa, Hid (wr.alloc (Obj.cells #[.int .i64 kd, .int .i64 (m : Int)] 74) = wa) := ⟨_, (rfl : _ = _)⟩
      have hbA := below_alloc wr (Obj.cells #[.int .i64 kd, .int .i64 (m : Int)] 74)
      have hsb := row_two wr (.int .i64 kd) (.int .i64 (m : Int)) 74
      rw [HWA.out] at hbA hsb
      have HF1 : Hid (Fm (fun k => k = bw) wb wa) := hF.trans (Fm.of (X := fun k => k = bw) hbA) fun _ _ e => e
      have HIA : Hid (Iw E F n be bf bw cs cf v2 v3 v4 V' wa) := (HI0.out.put hF hRw).next hbA
      have HPA : Hid (wa.rowIs g 77 2 (fun i => if i = 0 then .int .i64 (h : Int) else .slice (some ⟨b2, o, none⟩) l.length uc)) := HPB.out.of_block (HF1.out.block _ HPB.out.lt (row_ne HPB.out HI0.out.row (by decide)))
      have HSB : Hid (wa.rowIs wr.heap.size 74 2 (fun i => if i = 0 then .int .i64 kd else .int .i64 (m : Int))) := hsb
      have HSA : Hid (Syms wa (.slice (some ⟨b2, o, none⟩) l.length uc) l) := (HSY.out.below hbw).below hbA
      have HKP : Hid (kd ≠ 2 → FS ps n E F l h V (q + 1) r V') := fun hne => hFS.keep hlt (by rw [e1]; exact hne)
      have HSM : Hid (V' m ||| bg E F (l.drop (q + 1)) (V' h) = V' m → FS ps n E F l h V (q + 1) r V') := fun hs => hFS.same hlt (by rw [e3]; exact hs)
      have HPT : Hid (kd = 2 → m < n → V' m ||| bg E F (l.drop (q + 1)) (V' h) ≠ V' m → FS ps n E F l h V (q + 1) true (upd V' m (V' m ||| bg E F (l.drop (q + 1)) (V' h)))) := fun h1 h2 h3 => by
        have := hFS.put hlt (e1.trans h1) (by rw [e3]; exact h2) (by rw [e3]; exact h3)
        rw [e3] at this; exact this
      have hk1 : (q : Int) < (l.length : Int) := by omega
      have hne : Nonempty (Kp (Sb wa)) := ⟨⟨_, Sb.drew wa⟩⟩
      have HFB : Hid (∀ p : Kp (Sb wa), Fm (fun k => k = bw) wb p.W) := fun p => HF1.out.trans (Fm.of (X := fun k => k = bw) p.h) fun _ _ e => e
      have HRB : Hid (∀ p : Kp (Sb wa), Rw p.W bw n V') := fun p => HIA.out.row.next p.h
      have m0 : ∀ p : Kp (Sb wa), p.W.cell? ⟨wr.heap.size, 0, none⟩ = some (.int .i64 kd) := fun p => (HSB.out.of_block (Below.block p.h _ HSB.out.lt)).cell (i := 0) (by omega)
      have m1 : ∀ p : Kp (Sb wa), p.W.cell? ⟨wr.heap.size, 1, none⟩ = some (.int .i64 (m : Int)) := fun p => (HSB.out.of_block (Below.block p.h _ HSB.out.lt)).cell (i := 1) (by omega)
      clear hF hRw hFS hbw hc hcs e1 e2 e3 HA hbA hsb
      rcases hk with ⟨rfl, hk⟩ | ⟨rfl, hk⟩
      · go_wp2_with fail
        rw [HWA.out]
        refine wp_region_kept mixed (by kernel_rfl) (Sb.drew wa) ?_
        repeat (go_big_quiet_step (fail))
        refine wpQuiet_nil ?_
        intro W2 hw2
        obtain ⟨p2, rfl⟩ := hw2
        have HX1 := HFB.out p2
        have HX2 := HRB.out p2
        obtain ⟨W2, HS2⟩ := p2
        have HX : Hid (Fm (fun k => k = bw) wb W2 ∧ Rw W2 bw n V') := ⟨HX1, HX2⟩
        clear HX1 HX2 HFB HRB m0 m1 hne
        go_wp2_with fail
        go_roundw
        case rel => exact ⟨q + 1, r, by omega, by go_num, rfl, V', HX.out.1, HX.out.2, HKP.out (by omega)⟩
        case measure => simp [intOf]; omega
      · have hk2 : (m : Int) < (n : Int) := by omega
        have m2 : ∀ p : Kp (Sb wa), p.W.cell? ⟨cs, 0, none⟩ = some (.slice (some ⟨bw, 0, none⟩) n n) := fun p => (HIA.out.c.of_block (Below.block p.h _ HIA.out.c.lt)).cell (i := 0) (by omega)
        have m3 : ∀ p : Kp (Sb wa), p.W.cell? ⟨g, 0, none⟩ = some (.int .i64 (h : Int)) := fun p => (HPA.out.of_block (Below.block p.h _ HPA.out.lt)).cell (i := 0) (by omega)
        have m4 : ∀ p : Kp (Sb wa), p.W.cell? ⟨g, 1, none⟩ = some (.slice (some ⟨b2, o, none⟩) l.length uc) := fun p => (HPA.out.of_block (Below.block p.h _ HPA.out.lt)).cell (i := 1) (by omega)
        have f0 : ∀ p : Kp (Sb wa), p.W.cell? ⟨cf, 0, none⟩ = some (.slice (some ⟨be, 0, none⟩) n n) := fun p => (HIA.out.f.of_block (Below.block p.h _ HIA.out.f.lt)).cell (i := 0) (by omega)
        have f1 : ∀ p : Kp (Sb wa), p.W.cell? ⟨cf, 1, none⟩ = some (.slice (some ⟨bf, 0, none⟩) n n) := fun p => (HIA.out.f.of_block (Below.block p.h _ HIA.out.f.lt)).cell (i := 1) (by omega)
        have f2 : ∀ p : Kp (Sb wa), p.W.cell? ⟨cf, 2, none⟩ = some v2 := fun p => (HIA.out.f.of_block (Below.block p.h _ HIA.out.f.lt)).cell (i := 2) (by omega)
        have f3 : ∀ p : Kp (Sb wa), p.W.cell? ⟨cf, 3, none⟩ = some v3 := fun p => (HIA.out.f.of_block (Below.block p.h _ HIA.out.f.lt)).cell (i := 3) (by omega)
        have f4 : ∀ p : Kp (Sb wa), p.W.cell? ⟨cf, 4, none⟩ = some v4 := fun p => (HIA.out.f.of_block (Below.block p.h _ HIA.out.f.lt)).cell (i := 4) (by omega)
        have m5 : ∀ p : Kp (Sb wa), p.W.cell? ⟨bw, h, none⟩ = some (.int .u64 ((V' h).toNat : Int)) := fun p => (HRB.out p).cell hhn
        obtain ⟨dv, HDV⟩ : ∃ dv, Hid (Value.slice (if uc = q + 1 then some ⟨b2, o, none⟩ else some ⟨b2, o + (q + 1) * 2, none⟩) (l.length - (q + 1)) (uc - (q + 1)) = dv) := ⟨_, (rfl : _ = _)⟩
        have HDS : Hid (Syms wa dv (l.drop (q + 1))) := by show Syms _ _ _; rw [← HDV.out]; exact syms_drop HSA.out (q + 1)
        obtain ⟨x, HX⟩ : ∃ x, Hid (bg E F (l.drop (q + 1)) (V' h) = x) := ⟨_, (rfl : bg E F (l.drop (q + 1)) (V' h) = bg E F (l.drop (q + 1)) (V' h))⟩
        rw [HX.out] at HSM HPT
        have HC2 : Hid (∀ p : Kp (Sb wa), Calls Try.prog 65 #[.agg #[(.slice (some ⟨be, 0, none⟩) n n), (.slice (some ⟨bf, 0, none⟩) n n), v2, v3, v4], dv, .int .u64 ((V' h).toNat : Int)] p.W fun e w'' => e = .returned (.int .u64 (x.toNat : Int)) ∧ ∃ q : Kp (Sb wa), w'' = q.W) := fun p => by
          have := begin_any t n be bf E F v2 v3 v4 dv (l.drop (q + 1)) (V' h) p.W (HDS.out.below p.h) (HIA.out.e.next p.h) (HIA.out.fi.next p.h) (HOK.out.drop _) ht
          rw [HX.out] at this
          exact Kp.calls p Sb.next this
        have HWD : Hid (∀ p : Kp (Sb wa), Calls Try.prog 64 #[(.slice (some ⟨bw, 0, none⟩) n n), .int .i64 (m : Int), .int .u64 (x.toNat : Int)] p.W fun e w' => e = .returned (.bool (V' m ||| x != V' m)) ∧ w' = p.W.setCell ⟨bw, m, none⟩ (.int .u64 ((V' m ||| x).toNat : Int))) := fun p => widen_any n bw V' m x p.W (HRB.out p) hk
        have HWW : Hid (∀ p : Kp (Sb wa), Fm (fun k => k = bw) wb (p.W.setCell ⟨bw, m, none⟩ (.int .u64 ((V' m ||| x).toNat : Int))) ∧ Rw (p.W.setCell ⟨bw, m, none⟩ (.int .u64 ((V' m ||| x).toNat : Int))) bw n (upd V' m (V' m ||| x))) := fun p =>
          ⟨(HFB.out p).trans (Fm.set (X := fun k => k = bw) (b := bw) (i := m) _ rfl) (fun _ _ e => e), (HRB.out p).set m _⟩
        go_wp2_with fail
        rw [HWA.out]
        refine wp_region_chain (S := Sb wa) [_, _, _, _, _, _, _, _, _, _, _, _, _, _, _, _, _, _, _] [_, _] mixed (by kernel_rfl) (Sb.drew wa) ?_
        simp only [List.cons_append, List.nil_append]
        repeat (go_big_quiet_step (fail))
        rw [HDV.out]
        go_big_quiet_step (first | (go_at_call 65; with_reducible exact HC2.out _))
        refine wpQuiet_nil ?_
        intro p
        go_wp2_with fail
        refine (HWD.out p).mono ?_
        rintro _ w3 ⟨rfl, hw3⟩
        have hww := HWW.out p
        rw [← hw3] at hww
        by_cases hxx : V' m ||| x = V' m
        · have hbf : (V' m ||| x != V' m) = false := by rw [hxx]; simp
          rw [hxx, upd_same] at hww
          have HX3 : Hid (Fm (fun k => k = bw) wb w3 ∧ Rw w3 bw n V' ∧ FS ps n E F l h V (q + 1) r V') := ⟨hww.1, hww.2, HSM.out hxx⟩
          rw [hbf]
          clear hbf hxx hww hw3 HC2 HWD HWW HFB HRB m0 m1 m2 m3 m4 m5 f0 f1 f2 f3 f4 HSM HPT HKP hne
          go_wp2_with fail
          go_roundw
          case rel => exact ⟨q + 1, r, by omega, by go_num, rfl, V', HX3.out.1, HX3.out.2.1, HX3.out.2.2⟩
          case measure => simp [intOf]; omega
        · have hbf : (V' m ||| x != V' m) = true := by simpa using hxx
          have HX3 : Hid (Fm (fun k => k = bw) wb w3 ∧ Rw w3 bw n (upd V' m (V' m ||| x)) ∧ FS ps n E F l h V (q + 1) true (upd V' m (V' m ||| x))) := ⟨hww.1, hww.2, HPT.out (by trivial) hk hxx⟩
          rw [hbf]
          clear hbf hxx hww hw3 HC2 HWD HWW HFB HRB m0 m1 m2 m3 m4 m5 f0 f1 f2 f3 f4 HSM HPT HKP hne
          go_wp2_with fail
          go_roundw
          case rel => exact ⟨q + 1, true, by omega, by go_num, rfl, _, HX3.out.1, HX3.out.2.1, HX3.out.2.2⟩
          case measure => simp [intOf]; omega
    · obtain rfl : q = l.length := by omega
      have HAX : Hid (WOut ps E F bw n l h V W r wr) := by
        obtain ⟨V', k1, k2, k3⟩ := HA.out
        exact ⟨V', HFA.out _ k1, k2, k3⟩
      go_wp2_with fail
      go_ret
      exact ⟨r, by simp, HAX.out⟩
end Go.Proofs.Ytmcmidfpglhnmaa
