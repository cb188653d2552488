/-
  The contract of the closure of facts.followers. The contract of facts.followers. The contract of facts.Of. What items.closed holds while it opens its items. No function is walked here. append of a row of one's own and a slice of items: the row of both. No function is walked here.
-/
import Derived.Test.YtpbnnmfjahckmaaGrC
import Derived.Test.YtpbnnmfjahckmaaIxOpen
import Derived.Test.YtpbnnmfjahckmaaIxOrder
import Derived.Test.YtpbnnmfjahckmaaIxAheadW
import Derived.Laws.BitsAllLaws
import Derived.Maps.AppendAt
import Derived.Laws.AppendOwnNone
namespace Go.Proofs.Ytpbnnmfjahckmaa
open Go.RowKit
open Cg

/-- What is held while followers goes on. -/
structure Iw (E : Nat → Bool) (F : Nat → Wd) (n be bf bw cs cf : Nat) (v2 v3 v4 : Value) (V : Nat → Wd) (W : World) : Prop where
  c : W.rowIs cs 50 1 (fun _ => (.slice (some ⟨bw, 0, none⟩) n n))
  f : W.rowIs cf 52 5 (fv (.slice (some ⟨be, 0, none⟩) n n) (.slice (some ⟨bf, 0, none⟩) n n) v2 v3 v4)
  e : Rb W be n E
  fi : Rw W bf n F
  row : Rw W bw n V
  nb : bf ≠ bw
theorem Iw.next {E : Nat → Bool} {F : Nat → Wd} {n be bf bw cs cf : Nat} {v2 v3 v4 : Value} {V : Nat → Wd} {W W' : World} (h : Iw E F n be bf bw cs cf v2 v3 v4 V W) (hb : Below W.heap.size W W') : Iw E F n be bf bw cs cf v2 v3 v4 V W' :=
  ⟨h.c.of_block (hb.block _ h.c.lt), h.f.of_block (hb.block _ h.f.lt), h.e.next hb, h.fi.next hb, h.row.next hb, h.nb⟩
theorem Iw.put {E : Nat → Bool} {F : Nat → Wd} {n be bf bw cs cf : Nat} {v2 v3 v4 : Value} {V V' : Nat → Wd} {W W' : World} (h : Iw E F n be bf bw cs cf v2 v3 v4 V W) (hf : Fm (fun k => k = bw) W W') (hr : Rw W' bw n V') : Iw E F n be bf bw cs cf v2 v3 v4 V' W' :=
  ⟨h.c.of_block (hf.block _ h.c.lt (row_ne h.c h.row (by decide))), h.f.of_block (hf.block _ h.f.lt (row_ne h.f h.row (by decide))), h.e.of (hf.block _ h.e.lt (row_ne h.e h.row (by decide))), h.fi.of (hf.block _ h.fi.lt h.nb), hr, h.nb⟩
/-- A production's box, as a row. -/
theorem row_two (w : World) (a b : Value) (t : TypeId) : (w.alloc (.cells #[a, b] t)).rowIs w.heap.size t 2 (fun i => if i = 0 then a else b) :=
  World.rowIs_alloc w _ t _ fun i hi => by
    have : i = 0 ∨ i = 1 := by simp at hi; omega
    rcases this with rfl | rfl <;> rfl
set_option maxHeartbeats 6400000 in
set_option maxRecDepth 20000 in
theorem clos39_any (ps : List Pd) (t : Int) (ht : t ≤ 30) (n be bf bw cs cf : Nat) (E : Nat → Bool) (F V : Nat → Wd) (v2 v3 v4 : Value) (h : Nat) (hhn : h < n) (u : Value) (l : List Sy) (hl8 : l.length ≤ 8) (ok : OkL t n l) (W0 W : World) (hs : Syms W0 u l) (hw0 : Below W0.heap.size W0 W) (hb0 : W0.heap.size ≤ bw)
    (hI : Iw E F n be bf bw cs cf v2 v3 v4 V W) :
    Calls Try.prog 68 #[.agg #[.int .i64 (h : Int), u], .pointer (some ⟨cs, 0, none⟩), .pointer (some ⟨cf, 0, none⟩)] W fun e W' => ∃ r, e = .returned (.bool r) ∧ WOut ps E F bw n l h V W r W' := by
  have HSY : Hid (Syms W0 u l) := hs
  obtain ⟨uo, uc, rfl, hul, hcs⟩ := hs
  obtain ⟨wb, HWB⟩ : ∃ wb, Hid (W.alloc (Obj.cells #[.int .i64 (h : Int), .slice uo l.length uc] 79) = wb) := ⟨_, (rfl : _ = _)⟩
  have g0 := row_two W (.int .i64 (h : Int)) (.slice uo l.length uc) 79
  have hbA := below_alloc W (Obj.cells #[.int .i64 (h : Int), .slice uo l.length uc] 79)
  rw [HWB.out] at g0 hbA
  have HPB : Hid (wb.rowIs W.heap.size 79 2 (fun i => if i = 0 then .int .i64 (h : Int) else .slice uo l.length uc)) := g0
  have HI0 : Hid (Iw E F n be bf bw cs cf v2 v3 v4 V wb) := hI.next hbA
  have HW0 : Hid (Below W0.heap.size W0 wb ∧ W0.heap.size ≤ bw) := ⟨hw0.trans (hbA.mono hw0.size), hb0⟩
  have HFA : Hid (∀ w', Fm (fun k => k = bw) wb w' → Fm (fun k => k = bw) W w') := fun w' k => (Fm.of (X := fun k => k = bw) hbA).trans k fun _ _ e => e
  have HOK : Hid (OkL t n l) := ok
  have y1 := g0.cell (i := 1) (by omega)
  have hh2 : (h : Int) < (n : Int) := by omega
  clear g0 hbA hI ok hw0 hb0
  simp only [if_neg (by omega : ¬ (1 : Nat) = 0)] at y1
  have HWE := HWB.out
  subst HWE
  go_enter Try.func68, Try.ntmps68
  go_wp2_with fail
  obtain ⟨g, HG⟩ : ∃ g, Hid (W.heap.size = g) := ⟨_, (rfl : W.heap.size = W.heap.size)⟩
  rw [HG.out] at HPB ⊢
  generalize (W.alloc (Obj.cells #[.int .i64 (h : Int), .slice uo l.length uc] 79)) = wb at HPB HI0 HW0 HFA ⊢
  clear y1 HG HWB
  go_loopw [5, 11] (fun a i wr => ∃ (q : Nat) (r : Bool), q ≤ l.length ∧ i = .int .i64 (q : Int) ∧ a = .bool r ∧ Hid (∃ V', Fm (fun k => k = bw) wb wr ∧ Rw wr bw n V' ∧ FS ps n E F l h V q r V')) (fun _ i _ => l.length - (intOf i).toNat)
  case atStart => exact ⟨0, false, by omega, rfl, rfl, V, Fm.refl _ _, HI0.out.row, FS.start⟩
  case round =>
    obtain ⟨q, r, hq, rfl, rfl, HA⟩ := hrel
    by_cases hlt : q < l.length
    · obtain ⟨b2, o, rfl, hb, hc⟩ := hcs.resolve_left (by intro e; subst e; simp at hlt)
      obtain ⟨c0, c1⟩ := hc q hlt
      obtain ⟨V', hF, hRw, hFS⟩ := HA.out
      have hbw : Below W0.heap.size W0 wr := HW0.out.1.trans (hF.below HW0.out.1.size fun k hk => by have := HW0.out.2; omega)
      obtain ⟨kd, m, e1, e2, e3, hk⟩ := HOK.out.at hlt
      rw [e1] at c0
      rw [e2] at c1
      replace c0 : wr.cell? ⟨b2, o + q * 2, none⟩ = _ := (hbw.cell (p := ⟨b2, o + q * 2, none⟩) hb).trans c0
      replace c1 : wr.cell? ⟨b2, o + q * 2 + 1, none⟩ = _ := (hbw.cell (p := ⟨b2, o + q * 2 + 1, none⟩) hb).trans c1
      obtain ⟨wa, HWA⟩ : ∃ wa, Hid (wr.alloc (Obj.cells #[.int .i64 kd, .int .i64 (m : Int)] 80) = wa) := ⟨_, (rfl : _ = _)⟩
      have hbA := below_alloc wr (Obj.cells #[.int .i64 kd, .int .i64 (m : Int)] 80)
      have hsb := row_two wr (.int .i64 kd) (.int .i64 (m : Int)) 80
      rw [HWA.out] at hbA hsb
      have HF1 : Hid (Fm (fun k => k = bw) wb wa) := hF.trans (Fm.of (X := fun k => k = bw) hbA) fun _ _ e => e
      have HIA : Hid (Iw E F n be bf bw cs cf v2 v3 v4 V' wa) := (HI0.out.put hF hRw).next hbA
      have HPA : Hid (wa.rowIs g 79 2 (fun i => if i = 0 then .int .i64 (h : Int) else .slice (some ⟨b2, o, none⟩) l.length uc)) := HPB.out.of_block (HF1.out.block _ HPB.out.lt (row_ne HPB.out HI0.out.row (by decide)))
      have HSB : Hid (wa.rowIs wr.heap.size 80 2 (fun i => if i = 0 then .int .i64 kd else .int .i64 (m : Int))) := hsb
      have HSA : Hid (Syms wa (.slice (some ⟨b2, o, none⟩) l.length uc) l) := (HSY.out.below hbw).below hbA
      have HKP : Hid (kd ≠ 2 → FS ps n E F l h V (q + 1) r V') := fun hne => hFS.keep hlt (by rw [e1]; exact hne)
      have HSM : Hid (V' m ||| bg E F (l.drop (q + 1)) (V' h) = V' m → FS ps n E F l h V (q + 1) r V') := fun hs => hFS.same hlt (by rw [e3]; exact hs)
      have HPT : Hid (kd = 2 → m < n → V' m ||| bg E F (l.drop (q + 1)) (V' h) ≠ V' m → FS ps n E F l h V (q + 1) true (upd V' m (V' m ||| bg E F (l.drop (q + 1)) (V' h)))) := fun h1 h2 h3 => by
        have := hFS.put hlt (e1.trans h1) (by rw [e3]; exact h2) (by rw [e3]; exact h3)
        rw [e3] at this; exact this
      have hk1 : (q : Int) < (l.length : Int) := by omega
      have hne : Nonempty (Kp (Sb wa)) := ⟨⟨_, Sb.drew wa⟩⟩
      have HFB : Hid (∀ p : Kp (Sb wa), Fm (fun k => k = bw) wb p.W) := fun p => HF1.out.trans (Fm.of (X := fun k => k = bw) p.h) fun _ _ e => e
      have HRB : Hid (∀ p : Kp (Sb wa), Rw p.W bw n V') := fun p => HIA.out.row.next p.h
      have m0 : ∀ p : Kp (Sb wa), p.W.cell? ⟨wr.heap.size, 0, none⟩ = some (.int .i64 kd) := fun p => (HSB.out.of_block (Below.block p.h _ HSB.out.lt)).cell (i := 0) (by omega)
      have m1 : ∀ p : Kp (Sb wa), p.W.cell? ⟨wr.heap.size, 1, none⟩ = some (.int .i64 (m : Int)) := fun p => (HSB.out.of_block (Below.block p.h _ HSB.out.lt)).cell (i := 1) (by omega)
      clear hF hRw hFS hbw hc hcs e1 e2 e3 HA hbA hsb
      rcases hk with ⟨rfl, hk⟩ | ⟨rfl, hk⟩
      · go_wp2_with fail
        rw [HWA.out]
        refine wp_region_kept mixed (by kernel_rfl) (Sb.drew wa) ?_
        repeat (go_big_quiet_step (fail))
        refine wpQuiet_nil ?_
        intro W2 hw2
        obtain ⟨p2, rfl⟩ := hw2
        have HX1 := HFB.out p2
        have HX2 := HRB.out p2
        obtain ⟨W2, HS2⟩ := p2
        have HX : Hid (Fm (fun k => k = bw) wb W2 ∧ Rw W2 bw n V') := ⟨HX1, HX2⟩
        clear HX1 HX2 HFB HRB m0 m1 hne
        go_wp2_with fail
        go_roundw
        case rel => exact ⟨q + 1, r, by omega, by go_num, rfl, V', HX.out.1, HX.out.2, HKP.out (by omega)⟩
        case measure => simp [intOf]; omega
      · have hk2 : (m : Int) < (n : Int) := by omega
        have m2 : ∀ p : Kp (Sb wa), p.W.cell? ⟨cs, 0, none⟩ = some (.slice (some ⟨bw, 0, none⟩) n n) := fun p => (HIA.out.c.of_block (Below.block p.h _ HIA.out.c.lt)).cell (i := 0) (by omega)
        have m3 : ∀ p : Kp (Sb wa), p.W.cell? ⟨g, 0, none⟩ = some (.int .i64 (h : Int)) := fun p => (HPA.out.of_block (Below.block p.h _ HPA.out.lt)).cell (i := 0) (by omega)
        have m4 : ∀ p : Kp (Sb wa), p.W.cell? ⟨g, 1, none⟩ = some (.slice (some ⟨b2, o, none⟩) l.length uc) := fun p => (HPA.out.of_block (Below.block p.h _ HPA.out.lt)).cell (i := 1) (by omega)
        have f0 : ∀ p : Kp (Sb wa), p.W.cell? ⟨cf, 0, none⟩ = some (.slice (some ⟨be, 0, none⟩) n n) := fun p => (HIA.out.f.of_block (Below.block p.h _ HIA.out.f.lt)).cell (i := 0) (by omega)
        have f1 : ∀ p : Kp (Sb wa), p.W.cell? ⟨cf, 1, none⟩ = some (.slice (some ⟨bf, 0, none⟩) n n) := fun p => (HIA.out.f.of_block (Below.block p.h _ HIA.out.f.lt)).cell (i := 1) (by omega)
        have f2 : ∀ p : Kp (Sb wa), p.W.cell? ⟨cf, 2, none⟩ = some v2 := fun p => (HIA.out.f.of_block (Below.block p.h _ HIA.out.f.lt)).cell (i := 2) (by omega)
        have f3 : ∀ p : Kp (Sb wa), p.W.cell? ⟨cf, 3, none⟩ = some v3 := fun p => (HIA.out.f.of_block (Below.block p.h _ HIA.out.f.lt)).cell (i := 3) (by omega)
        have f4 : ∀ p : Kp (Sb wa), p.W.cell? ⟨cf, 4, none⟩ = some v4 := fun p => (HIA.out.f.of_block (Below.block p.h _ HIA.out.f.lt)).cell (i := 4) (by omega)
        have m5 : ∀ p : Kp (Sb wa), p.W.cell? ⟨bw, h, none⟩ = some (.int .u64 ((V' h).toNat : Int)) := fun p => (HRB.out p).cell hhn
        obtain ⟨dv, HDV⟩ : ∃ dv, Hid (Value.slice (if uc = q + 1 then some ⟨b2, o, none⟩ else some ⟨b2, o + (q + 1) * 2, none⟩) (l.length - (q + 1)) (uc - (q + 1)) = dv) := ⟨_, (rfl : _ = _)⟩
        have HDS : Hid (Syms wa dv (l.drop (q + 1))) := by show Syms _ _ _; rw [← HDV.out]; exact syms_drop HSA.out (q + 1)
        obtain ⟨x, HX⟩ : ∃ x, Hid (bg E F (l.drop (q + 1)) (V' h) = x) := ⟨_, (rfl : bg E F (l.drop (q + 1)) (V' h) = bg E F (l.drop (q + 1)) (V' h))⟩
        rw [HX.out] at HSM HPT
        have HC2 : Hid (∀ p : Kp (Sb wa), Calls Try.prog 65 #[.agg #[(.slice (some ⟨be, 0, none⟩) n n), (.slice (some ⟨bf, 0, none⟩) n n), v2, v3, v4], dv, .int .u64 ((V' h).toNat : Int)] p.W fun e w'' => e = .returned (.int .u64 (x.toNat : Int)) ∧ ∃ q : Kp (Sb wa), w'' = q.W) := fun p => by
          have := begin_any t n be bf E F v2 v3 v4 dv (l.drop (q + 1)) (V' h) p.W (HDS.out.below p.h) (HIA.out.e.next p.h) (HIA.out.fi.next p.h) (HOK.out.drop _) ht
          rw [HX.out] at this
          exact Kp.calls p Sb.next this
        have HWD : Hid (∀ p : Kp (Sb wa), Calls Try.prog 64 #[(.slice (some ⟨bw, 0, none⟩) n n), .int .i64 (m : Int), .int .u64 (x.toNat : Int)] p.W fun e w' => e = .returned (.bool (V' m ||| x != V' m)) ∧ w' = p.W.setCell ⟨bw, m, none⟩ (.int .u64 ((V' m ||| x).toNat : Int))) := fun p => widen_any n bw V' m x p.W (HRB.out p) hk
        have HWW : Hid (∀ p : Kp (Sb wa), Fm (fun k => k = bw) wb (p.W.setCell ⟨bw, m, none⟩ (.int .u64 ((V' m ||| x).toNat : Int))) ∧ Rw (p.W.setCell ⟨bw, m, none⟩ (.int .u64 ((V' m ||| x).toNat : Int))) bw n (upd V' m (V' m ||| x))) := fun p =>
          ⟨(HFB.out p).trans (Fm.set (X := fun k => k = bw) (b := bw) (i := m) _ rfl) (fun _ _ e => e), (HRB.out p).set m _⟩
        go_wp2_with fail
        rw [HWA.out]
        refine wp_region_chain (S := Sb wa) [_, _, _, _, _, _, _, _, _, _, _, _, _, _, _, _, _, _, _] [_, _] mixed (by kernel_rfl) (Sb.drew wa) ?_
        simp only [List.cons_append, List.nil_append]
        repeat (go_big_quiet_step (fail))
        rw [HDV.out]
        go_big_quiet_step (first | (go_at_call 65; with_reducible exact HC2.out _))
        refine wpQuiet_nil ?_
        intro p
        go_wp2_with fail
        refine (HWD.out p).mono ?_
        rintro _ w3 ⟨rfl, hw3⟩
        have hww := HWW.out p
        rw [← hw3] at hww
        by_cases hxx : V' m ||| x = V' m
        · have hbf : (V' m ||| x != V' m) = false := by rw [hxx]; simp
          rw [hxx, upd_same] at hww
          have HX3 : Hid (Fm (fun k => k = bw) wb w3 ∧ Rw w3 bw n V' ∧ FS ps n E F l h V (q + 1) r V') := ⟨hww.1, hww.2, HSM.out hxx⟩
          rw [hbf]
          clear hbf hxx hww hw3 HC2 HWD HWW HFB HRB m0 m1 m2 m3 m4 m5 f0 f1 f2 f3 f4 HSM HPT HKP hne
          go_wp2_with fail
          go_roundw
          case rel => exact ⟨q + 1, r, by omega, by go_num, rfl, V', HX3.out.1, HX3.out.2.1, HX3.out.2.2⟩
          case measure => simp [intOf]; omega
        · have hbf : (V' m ||| x != V' m) = true := by simpa using hxx
          have HX3 : Hid (Fm (fun k => k = bw) wb w3 ∧ Rw w3 bw n (upd V' m (V' m ||| x)) ∧ FS ps n E F l h V (q + 1) true (upd V' m (V' m ||| x))) := ⟨hww.1, hww.2, HPT.out (by trivial) hk hxx⟩
          rw [hbf]
          clear hbf hxx hww hw3 HC2 HWD HWW HFB HRB m0 m1 m2 m3 m4 m5 f0 f1 f2 f3 f4 HSM HPT HKP hne
          go_wp2_with fail
          go_roundw
          case rel => exact ⟨q + 1, true, by omega, by go_num, rfl, _, HX3.out.1, HX3.out.2.1, HX3.out.2.2⟩
          case measure => simp [intOf]; omega
    · obtain rfl : q = l.length := by omega
      have HAX : Hid (WOut ps E F bw n l h V W r wr) := by
        obtain ⟨V', k1, k2, k3⟩ := HA.out
        exact ⟨V', HFA.out _ k1, k2, k3⟩
      go_wp2_with fail
      go_ret
      exact ⟨r, by simp, HAX.out⟩
end Go.Proofs.Ytpbnnmfjahckmaa

namespace Go.Proofs.Ytpbnnmfjahckmaa
open Go.RowKit
open Cg

theorem row_vals5 (w : World) (a b c d e : Value) : (w.alloc (.cells #[a, b, c, d, e] 52)).rowIs w.heap.size 52 5 (fv a b c d e) :=
  World.rowIs_alloc w _ 52 _ fun i hi => by
    have : i = 0 ∨ i = 1 ∨ i = 2 ∨ i = 3 ∨ i = 4 := by simp at hi; omega
    rcases this with rfl | rfl | rfl | rfl | rfl <;> rfl
structure Iw2 (ps : List Pd) (E : Nat → Bool) (F : Nat → Wd) (n be bf bw cs cf : Nat) (v2 v3 v4 : Value) (V : Nat → Wd) (W : World) : Prop where
  i : Iw E F n be bf bw cs cf v2 v3 v4 V W
  sn : SnW ps E F V
  z : le endW (V 0)
set_option maxHeartbeats 6400000 in
set_option maxRecDepth 20000 in
theorem followers_any (t : Int) (n be bf : Nat) (E : Nat → Bool) (F : Nat → Wd) (v2 v3 v4 : Value) (pv : Value) (ps : List Pd) (w : World) (hp : Pds w pv ps) (hg : Rg t n ps) (hre : Rb w be n E) (hrf : Rw w bf n F) (f2 : ∃ a m k, v2 = .slice a m k) (f3 : ∃ a m k, v3 = .slice a m k) (f4 : ∃ a m k, v4 = .slice a m k) :
    Calls Try.prog 42 #[.agg #[.int .i64 t, .int .i64 (n : Int), pv], .agg #[(.slice (some ⟨be, 0, none⟩) n n), (.slice (some ⟨bf, 0, none⟩) n n), v2, v3, v4]] w fun e w' => ∃ b, e = .returned (.slice (some ⟨b, 0, none⟩) n n) ∧ w.heap.size ≤ b ∧ Below w.heap.size w w' ∧ ∃ V, Rw w' b n V ∧ Fo ps E F V := by
  have HP : Hid (Pds w pv ps) := hp
  have HG : Hid (Rg t n ps) := hg
  obtain ⟨ao, c, rfl, hm, -⟩ := hp
  obtain ⟨a2, m2, k2, rfl⟩ := f2
  obtain ⟨a3, m3, k3, rfl⟩ := f3
  obtain ⟨a4, m4, k4, rfl⟩ := f4
  have HRE : Hid (Rb w be n E) := hre
  have HRF : Hid (Rw w bf n F) := hrf
  have hn1 := hg.n1
  have hn2 := hg.n2
  have hn3 : (0 : Int) < (n : Int) := by omega
  clear hg hre hrf
  have he := enters_of Try.func68 (by kernel_rfl) rfl
  have hmk := run_make_row' (P := Try.prog) 50 130 (.int .u64 0) 8 Try.underlying50 info130 rfl .i64 .i64 n (by omega) (by omega)
  have e2 : ((w.alloc (Obj.cells #[.int .i64 t, .int .i64 (n : Int), .slice ao ps.length c] 24)).alloc (Obj.cells #[(.slice (some ⟨be, 0, none⟩) n n), (.slice (some ⟨bf, 0, none⟩) n n), .slice a2 m2 k2, .slice a3 m3 k3, .slice a4 m4 k4] 52)).heap.size = w.heap.size + 1 + 1 := by simp
  have hrow := (World.rowIs_made ((w.alloc (Obj.cells #[.int .i64 t, .int .i64 (n : Int), .slice ao ps.length c] 24)).alloc (Obj.cells #[(.slice (some ⟨be, 0, none⟩) n n), (.slice (some ⟨bf, 0, none⟩) n n), .slice a2 m2 k2, .slice a3 m3 k3, .slice a4 m4 k4] 52)) (.int .u64 0) n 130).alloc (.cells #[.slice (some ⟨w.heap.size + 1 + 1, 0, none⟩) n n] 50)
  rw [e2] at hrow
  have y0 := hrow.cell (i := 0) (by omega)
  have y1 := hrow.frozen 0
  clear hrow e2
  go_enter Try.func42, Try.ntmps42
  go_wp2_with fail
  obtain ⟨wc, HWC⟩ : ∃ wc, Hid ((((w.alloc (Obj.cells #[.int .i64 t, .int .i64 (n : Int), .slice ao ps.length c] 24)).alloc (Obj.cells #[(.slice (some ⟨be, 0, none⟩) n n), (.slice (some ⟨bf, 0, none⟩) n n), .slice a2 m2 k2, .slice a3 m3 k3, .slice a4 m4 k4] 52)).alloc (.cells ((madeCells #[.int .u64 0] n).setIfInBounds 0 (.int .u64 9223372036854775808)) 130)).alloc (.cells #[.slice (some ⟨w.heap.size + 1 + 1, 0, none⟩) n n] 50) = wc) := ⟨_, (rfl : _ = _)⟩
  have HBW : Hid (Below w.heap.size w wc) := by
    show Below _ _ _
    rw [← HWC.out]
    exact ((below_alloc2 w _ _).alloc (by simp; omega) _).alloc (by simp; omega) _
  have HI0 : Hid (Iw2 ps E F n be bf (w.heap.size + 1 + 1) (w.heap.size + 1 + 1 + 1) (w.heap.size + 1) (.slice a2 m2 k2) (.slice a3 m3 k3) (.slice a4 m4 k4) (upd (fun _ => 0#64) 0 endW) wc) := by
    have e1 : (w.alloc (Obj.cells #[.int .i64 t, .int .i64 (n : Int), .slice ao ps.length c] 24)).heap.size = w.heap.size + 1 := by simp
    have e2 : ((w.alloc (Obj.cells #[.int .i64 t, .int .i64 (n : Int), .slice ao ps.length c] 24)).alloc (Obj.cells #[(.slice (some ⟨be, 0, none⟩) n n), (.slice (some ⟨bf, 0, none⟩) n n), .slice a2 m2 k2, .slice a3 m3 k3, .slice a4 m4 k4] 52)).heap.size = w.heap.size + 1 + 1 := by simp
    have e3 : (((w.alloc (Obj.cells #[.int .i64 t, .int .i64 (n : Int), .slice ao ps.length c] 24)).alloc (Obj.cells #[(.slice (some ⟨be, 0, none⟩) n n), (.slice (some ⟨bf, 0, none⟩) n n), .slice a2 m2 k2, .slice a3 m3 k3, .slice a4 m4 k4] 52)).alloc (.cells ((madeCells #[.int .u64 0] n).setIfInBounds 0 (.int .u64 9223372036854775808)) 130)).heap.size = w.heap.size + 1 + 1 + 1 := by simp
    have h1 := (row_made0 ((w.alloc (Obj.cells #[.int .i64 t, .int .i64 (n : Int), .slice ao ps.length c] 24)).alloc (Obj.cells #[(.slice (some ⟨be, 0, none⟩) n n), (.slice (some ⟨bf, 0, none⟩) n n), .slice a2 m2 k2, .slice a3 m3 k3, .slice a4 m4 k4] 52)) (.int .u64 0) (.int .u64 9223372036854775808) n 130).alloc (.cells #[.slice (some ⟨w.heap.size + 1 + 1, 0, none⟩) n n] 50)
    have h2 := row_one (((w.alloc (Obj.cells #[.int .i64 t, .int .i64 (n : Int), .slice ao ps.length c] 24)).alloc (Obj.cells #[(.slice (some ⟨be, 0, none⟩) n n), (.slice (some ⟨bf, 0, none⟩) n n), .slice a2 m2 k2, .slice a3 m3 k3, .slice a4 m4 k4] 52)).alloc (.cells ((madeCells #[.int .u64 0] n).setIfInBounds 0 (.int .u64 9223372036854775808)) 130)) (.slice (some ⟨w.heap.size + 1 + 1, 0, none⟩) n n) 50
    have h3 := ((row_vals5 (w.alloc (Obj.cells #[.int .i64 t, .int .i64 (n : Int), .slice ao ps.length c] 24)) (.slice (some ⟨be, 0, none⟩) n n) (.slice (some ⟨bf, 0, none⟩) n n) (.slice a2 m2 k2) (.slice a3 m3 k3) (.slice a4 m4 k4)).alloc (.cells ((madeCells #[.int .u64 0] n).setIfInBounds 0 (.int .u64 9223372036854775808)) 130)).alloc (.cells #[.slice (some ⟨w.heap.size + 1 + 1, 0, none⟩) n n] 50)
    rw [e2, HWC.out] at h1
    rw [e3, HWC.out] at h2
    rw [e1, HWC.out] at h3
    refine ⟨⟨h2, h3, HRE.out.next HBW.out, HRF.out.next HBW.out, h1.congr (fun i _ => ?_), ?_⟩, snW_start ps E F, le_refl _⟩
    · unfold upd; split <;> rfl
    · have := HRF.out.lt; omega
  rw [HWC.out]
  refine (settle_any 68 #[.pointer (some ⟨w.heap.size + 1 + 1 + 1, 0, none⟩), .pointer (some ⟨w.heap.size + 1, 0, none⟩)] he (Iw2 ps E F n be bf (w.heap.size + 1 + 1) (w.heap.size + 1 + 1 + 1) (w.heap.size + 1) (.slice a2 m2 k2) (.slice a3 m3 k3) (.slice a4 m4 k4)) (fun k => k = w.heap.size + 1 + 1) (muW n) (fun p V => ∀ j (hj : j < p.2.length), p.2[j].1 = 2 → le (bg E F (p.2.drop (j + 1)) (V p.1.toNat)) (V p.2[j].2.toNat)) t n _ ps w wc HP.out HBW.out ?_ (fun _ _ _ h hb => ⟨h.i.next hb, h.sn, h.z⟩) ?_ _ HI0.out).mono ?_
  · intro k hk; subst hk; exact ⟨by omega, HI0.out.i.row.lt⟩
  · intro V Z q hq u hI hbV hsy
    obtain ⟨m, e1, e2, hm⟩ := HG.out.hd q hq
    rw [arr2, e1]
    refine (clos39_any ps t HG.out.t2 n be bf _ _ _ E F V _ _ _ m hm u ps[q].2 (HG.out.lb q hq) (HG.out.ok q hq) w Z hsy hbV (by omega) hI.i).mono ?_
    rintro _ W' ⟨r, rfl, V', h2, h3, h4⟩
    refine ⟨r, rfl, V', ⟨hI.i.put h2 h3, h4.sn ps[q] (List.getElem_mem hq) rfl e2 hI.sn, le_trans hI.z (h4.up 0)⟩, h2, h4.yes, fun e => ⟨(h4.no e).1, fun j hj h5 => ?_⟩⟩
    have := (h4.no e).2 j hj hj h5
    exact this
  · rintro _ w1 ⟨rfl, hF, V, hI, hC⟩
    have z1 := hI.i.c.cell (i := 0) (by omega)
    have HFIN : Hid (Below w.heap.size w w1 ∧ ∃ V, Rw w1 (w.heap.size + 1 + 1) n V ∧ Fo ps E F V) :=
      ⟨HBW.out.trans (hF.below HBW.out.size fun k hk => by omega), V, hI.i.row, ⟨hI.z, fun p hp => hC p hp⟩, hI.sn⟩
    clear hI hC hF hmk
    go_wp2_with fail
    go_ret
    exact ⟨_, by simp, by omega, HFIN.out⟩
end Go.Proofs.Ytpbnnmfjahckmaa

namespace Go.Proofs.Ytpbnnmfjahckmaa
open Go.RowKit
open Cg

theorem fv_three (a b c d e x : Value) (j : Nat) (hj : j < 5) : (if j = 3 then x else fv a b c d e j) = fv a b c x e j := by
  have : j = 0 ∨ j = 1 ∨ j = 2 ∨ j = 3 ∨ j = 4 := by omega
  rcases this with rfl | rfl | rfl | rfl | rfl <;> rfl
theorem fv_two (a b c d e x : Value) (j : Nat) (hj : j < 5) : (if j = 2 then x else fv a b c d e j) = fv a b x d e j := by
  have : j = 0 ∨ j = 1 ∨ j = 2 ∨ j = 3 ∨ j = 4 := by omega
  rcases this with rfl | rfl | rfl | rfl | rfl <;> rfl
/-- Facts in memory. -/
structure Fx (n : Nat) (be bf bw br bm : Nat) (E : Nat → Bool) (F V : Nat → Wd) (R M : Nat → Bool) (w : World) : Prop where
  e : Rb w be n E
  f : Rw w bf n F
  v : Rw w bw n V
  r : Rb w br n R
  m : Rb w bm n M
theorem Fx.next {n be bf bw br bm : Nat} {E : Nat → Bool} {F V : Nat → Wd} {R M : Nat → Bool} {w w' : World} (h : Fx n be bf bw br bm E F V R M w) (hb : Below w.heap.size w w') : Fx n be bf bw br bm E F V R M w' :=
  ⟨h.e.next hb, h.f.next hb, h.v.next hb, h.r.next hb, h.m.next hb⟩
/-- What Of leaves. -/
def Fw (w : World) (n : Nat) (ps : List Pd) (be bf bw br bm : Nat) (w' : World) : Prop :=
  Below w.heap.size w w' ∧ ∃ E F V R M, Fx n be bf bw br bm E F V R M w' ∧ Fa ps E F V R M
set_option maxHeartbeats 6400000 in
set_option maxRecDepth 20000 in
theorem Of_bad (t n : Int) (pv : Value) (ps : List Pd) (w : World) (hp : Pds w pv ps) (hk : chk t n ps ≠ 0) :
    Calls Try.prog 17 #[.agg #[.int .i64 t, .int .i64 n, pv]] w fun e w' => e = .returned (.tuple #[.agg #[(.slice none 0 0), (.slice none 0 0), (.slice none 0 0), (.slice none 0 0), (.slice none 0 0)], .int .i64 (chk t n ps)]) ∧ Below w.heap.size w w' := by
  have HP : Hid (Pds w pv ps) := hp
  obtain ⟨ao, c, rfl, hm, -⟩ := hp
  obtain ⟨r, HR⟩ : ∃ r, Hid (chk t n ps = r) := ⟨_, (rfl : chk t n ps = chk t n ps)⟩
  rw [HR.out] at hk ⊢
  have hk2 : (r != 0) = true := by simpa using hk
  have es : (w.alloc (Obj.cells #[.int .i64 t, .int .i64 n, .slice ao ps.length c] 24)).heap.size = w.heap.size + 1 := by simp
  have hrr := row_new5 (w.alloc (Obj.cells #[.int .i64 t, .int .i64 n, .slice ao ps.length c] 24))
  rw [es] at hrr
  have hcall := Check_any t n _ ps ((w.alloc (Obj.cells #[.int .i64 t, .int .i64 n, .slice ao ps.length c] 24)).alloc (Obj.cells #[(.slice none 0 0), (.slice none 0 0), (.slice none 0 0), (.slice none 0 0), (.slice none 0 0)] 52)) (HP.out.below (below_alloc2 w _ _))
  rw [HR.out] at hcall
  have HB0 : Hid (Below w.heap.size w ((w.alloc (Obj.cells #[.int .i64 t, .int .i64 n, .slice ao ps.length c] 24)).alloc (Obj.cells #[(.slice none 0 0), (.slice none 0 0), (.slice none 0 0), (.slice none 0 0), (.slice none 0 0)] 52))) := below_alloc2 w _ _
  have HRR : Hid (World.rowIs ((w.alloc (Obj.cells #[.int .i64 t, .int .i64 n, .slice ao ps.length c] 24)).alloc (Obj.cells #[(.slice none 0 0), (.slice none 0 0), (.slice none 0 0), (.slice none 0 0), (.slice none 0 0)] 52)) (w.heap.size + 1) 52 5 (fun _ => .slice none 0 0)) := hrr
  have HSW : Hid (((w.alloc (Obj.cells #[.int .i64 t, .int .i64 n, .slice ao ps.length c] 24)).alloc (Obj.cells #[(.slice none 0 0), (.slice none 0 0), (.slice none 0 0), (.slice none 0 0), (.slice none 0 0)] 52)).heap.size = w.heap.size + 2) := by show _ = _; simp
  clear es hrr hk
  go_enter Try.func17, Try.ntmps17
  go_wp2_with fail
  refine hcall.mono ?_
  rintro _ w1 ⟨rfl, hb1⟩
  have hrr := HRR.out.of_block (hb1.block _ HRR.out.lt)
  have HR1 : Hid (w1.rowIs (w.heap.size + 1) 52 5 (fun _ => .slice none 0 0)) := hrr
  have HB1 : Hid (Below w.heap.size w w1) := HB0.out.trans (hb1.mono HB0.out.size)
  have a0 := hrr.cell (i := 0) (by omega)
  have z0 := hrr.frozen 0
  have a1 := hrr.cell (i := 1) (by omega)
  have z1 := hrr.frozen 1
  have a2 := hrr.cell (i := 2) (by omega)
  have z2 := hrr.frozen 2
  have a3 := hrr.cell (i := 3) (by omega)
  have z3 := hrr.frozen 3
  have a4 := hrr.cell (i := 4) (by omega)
  have z4 := hrr.frozen 4
  clear hrr hb1 hcall
  go_wp2_with fail
  have HSET := row_five HR1.out (.slice none 0 0) (.slice none 0 0) (.slice none 0 0) (.slice none 0 0) (.slice none 0 0)
  have HBL : Hid (Below w.heap.size w (((((w1.setCell ⟨w.heap.size + 1, 0, none⟩ (.slice none 0 0)).setCell ⟨w.heap.size + 1, 1, none⟩ (.slice none 0 0)).setCell ⟨w.heap.size + 1, 2, none⟩ (.slice none 0 0)).setCell ⟨w.heap.size + 1, 3, none⟩ (.slice none 0 0)).setCell ⟨w.heap.size + 1, 4, none⟩ (.slice none 0 0))) := ((((HB1.out.setCell (by simp) _).setCell (by simp) _).setCell (by simp) _).setCell (by simp) _).setCell (by simp) _
  have v0 := HSET.cell (i := 0) (by omega)
  have v1 := HSET.cell (i := 1) (by omega)
  have v2 := HSET.cell (i := 2) (by omega)
  have v3 := HSET.cell (i := 3) (by omega)
  have v4 := HSET.cell (i := 4) (by omega)
  simp only [fv] at v0 v1 v2 v3 v4
  clear HSET
  exact bodyPost_ret (v := .tuple #[.agg #[(.slice none 0 0), (.slice none 0 0), (.slice none 0 0), (.slice none 0 0), (.slice none 0 0)], .int .i64 r]) (by simp [results, Try.results17, go_sem, v0, v1, v2, v3, v4]) rfl ⟨rfl, HBL.out⟩
set_option maxHeartbeats 6400000 in
set_option maxRecDepth 20000 in
theorem Of_ok (t : Int) (n : Nat) (pv : Value) (ps : List Pd) (w : World) (hp : Pds w pv ps) (hk : chk t n ps = 0) :
    Calls Try.prog 17 #[.agg #[.int .i64 t, .int .i64 (n : Int), pv]] w fun e w' => ∃ be bf bw br bm, e = .returned (.tuple #[.agg #[(.slice (some ⟨be, 0, none⟩) n n), (.slice (some ⟨bf, 0, none⟩) n n), (.slice (some ⟨bw, 0, none⟩) n n), (.slice (some ⟨br, 0, none⟩) n n), (.slice (some ⟨bm, 0, none⟩) n n)], .int .i64 0]) ∧ Fw w n ps be bf bw br bm w' := by
  have HP : Hid (Pds w pv ps) := hp
  have HG : Hid (Rg t n ps) := rg_of hk
  obtain ⟨ao, c, rfl, hm, -⟩ := hp
  have es : (w.alloc (Obj.cells #[.int .i64 t, .int .i64 (n : Int), .slice ao ps.length c] 24)).heap.size = w.heap.size + 1 := by simp
  have hrr := row_new5 (w.alloc (Obj.cells #[.int .i64 t, .int .i64 (n : Int), .slice ao ps.length c] 24))
  rw [es] at hrr
  have hcall := Check_any t n _ ps ((w.alloc (Obj.cells #[.int .i64 t, .int .i64 (n : Int), .slice ao ps.length c] 24)).alloc (Obj.cells #[(.slice none 0 0), (.slice none 0 0), (.slice none 0 0), (.slice none 0 0), (.slice none 0 0)] 52)) (HP.out.below (below_alloc2 w _ _))
  rw [hk] at hcall
  have HB0 : Hid (Below w.heap.size w ((w.alloc (Obj.cells #[.int .i64 t, .int .i64 (n : Int), .slice ao ps.length c] 24)).alloc (Obj.cells #[(.slice none 0 0), (.slice none 0 0), (.slice none 0 0), (.slice none 0 0), (.slice none 0 0)] 52))) := below_alloc2 w _ _
  have HRR : Hid (World.rowIs ((w.alloc (Obj.cells #[.int .i64 t, .int .i64 (n : Int), .slice ao ps.length c] 24)).alloc (Obj.cells #[(.slice none 0 0), (.slice none 0 0), (.slice none 0 0), (.slice none 0 0), (.slice none 0 0)] 52)) (w.heap.size + 1) 52 5 (fun _ => .slice none 0 0)) := hrr
  have HGB : Hid (Gb w w.heap.size t n (.slice ao ps.length c) ps ((w.alloc (Obj.cells #[.int .i64 t, .int .i64 (n : Int), .slice ao ps.length c] 24)).alloc (Obj.cells #[(.slice none 0 0), (.slice none 0 0), (.slice none 0 0), (.slice none 0 0), (.slice none 0 0)] 52))) := (Gb.box HP.out t n).next (below_alloc _ _)
  clear es hrr hk
  go_enter Try.func17, Try.ntmps17
  go_wp2_with fail
  refine hcall.mono ?_
  rintro _ w1 ⟨rfl, hb1⟩
  have HR1 : Hid (w1.rowIs (w.heap.size + 1) 52 5 (fun _ => .slice none 0 0)) := HRR.out.of_block (hb1.block _ HRR.out.lt)
  have HG1 : Hid (Gb w w.heap.size t n (.slice ao ps.length c) ps w1) := HGB.out.next hb1
  have k0 := HG1.out.c0
  have k1 := HG1.out.c1
  have k2 := HG1.out.c2
  clear hb1 hcall HRR HGB HB0
  go_wp2_with fail
  refine (beginnings_any t n _ ps w1 HG1.out.pds HG.out).mono ?_
  rintro _ w2 ⟨be, bf, bm, rfl, hbg⟩
  obtain ⟨he1, hf1, hm1, hb2, E, F, M, hE, hF, hM, hkE, hkM, hkF⟩ := hbg
  obtain ⟨w3, HW3⟩ : ∃ w3, Hid (w2.alloc (Obj.cells #[(.slice (some ⟨be, 0, none⟩) n n), (.slice (some ⟨bf, 0, none⟩) n n), (.slice none 0 0), (.slice none 0 0), (.slice (some ⟨bm, 0, none⟩) n n)] 52) = w3) := ⟨_, (rfl : _ = _)⟩
  have hb3 := below_alloc w2 (Obj.cells #[(.slice (some ⟨be, 0, none⟩) n n), (.slice (some ⟨bf, 0, none⟩) n n), (.slice none 0 0), (.slice none 0 0), (.slice (some ⟨bm, 0, none⟩) n n)] 52)
  have hbx := row_vals5 w2 (.slice (some ⟨be, 0, none⟩) n n) (.slice (some ⟨bf, 0, none⟩) n n) (.slice none 0 0) (.slice none 0 0) (.slice (some ⟨bm, 0, none⟩) n n)
  rw [HW3.out] at hb3 hbx
  have hb13 : Below w1.heap.size w1 w3 := hb2.trans (hb3.mono hb2.size)
  have HR3 : Hid (w3.rowIs (w.heap.size + 1) 52 5 (fun _ => .slice none 0 0)) := HR1.out.of_block (hb13.block _ HR1.out.lt)
  have HG3 : Hid (Gb w w.heap.size t n (.slice ao ps.length c) ps w3) := HG1.out.next hb13
  have HE3 : Hid (Rb w3 be n E) := hE.next hb3
  have HF3 : Hid (Rw w3 bf n F) := hF.next hb3
  have HM3 : Hid (Rb w3 bm n M) := hM.next hb3
  have HBX : Hid (w3.rowIs w2.heap.size 52 5 (fv (.slice (some ⟨be, 0, none⟩) n n) (.slice (some ⟨bf, 0, none⟩) n n) (.slice none 0 0) (.slice none 0 0) (.slice (some ⟨bm, 0, none⟩) n n))) := hbx
  have HKK : Hid (Mk ps false E ∧ Mk ps true M ∧ Fi ps M E F) := ⟨hkE, hkM, hkF⟩
  have HGE : Hid (w.heap.size + 2 ≤ w2.heap.size) := by
    have h1 := HR1.out.lt
    have h2 := hb2.size
    show _ ≤ _
    omega
  clear he1 hf1 hm1 hb2 hE hF hM hkE hkM hkF hb3 hbx hb13 k0 k1 k2 HR1 HG1
  obtain ⟨cf, HCF⟩ : ∃ cf, Hid (w2.heap.size = cf) := ⟨_, (rfl : w2.heap.size = w2.heap.size)⟩
  rw [HCF.out] at HBX HGE
  have k0 := HG3.out.c0
  have k1 := HG3.out.c1
  have k2 := HG3.out.c2
  rw [← HW3.out] at k0 k1 k2
  go_wp2_with fail
  rw [HW3.out, HCF.out]
  clear k0 k1 k2 HW3
  refine (reached_any t n _ ps w3 HG3.out.pds HG.out).mono ?_
  rintro _ w4 ⟨br, rfl, hge4, hb4, R, hR4, hkR⟩
  have hbx4 := HBX.out.of_block (hb4.block _ HBX.out.lt)
  have q3 := hbx4.cell (i := 3) (by omega)
  have z3 := hbx4.frozen 3
  obtain ⟨w5, HW5⟩ : ∃ w5, Hid (w4.setCell ⟨cf, 3, none⟩ (.slice (some ⟨br, 0, none⟩) n n) = w5) := ⟨_, (rfl : _ = _)⟩
  have hoth : ∀ k, k ≠ cf → w5.heap[k]? = w4.heap[k]? := fun k hk => by rw [← HW5.out]; exact Go.Deep.blk_setCell_other _ _ _ _ hk
  have hbx5 := (hbx4.set 3 (.slice (some ⟨br, 0, none⟩) n n)).congr (fv_three (.slice (some ⟨be, 0, none⟩) n n) (.slice (some ⟨bf, 0, none⟩) n n) (.slice none 0 0) (.slice none 0 0) (.slice (some ⟨bm, 0, none⟩) n n) (.slice (some ⟨br, 0, none⟩) n n))
  rw [HW5.out] at hbx5
  have HB35 : Hid (Below w.heap.size w w5) := by
    show Below _ _ _
    rw [← HW5.out]
    exact (HG3.out.below.trans (hb4.mono HG3.out.below.size)).setCell (by have := HGE.out; show _ ≤ cf; omega) _
  have HCG : Hid (w.heap.size ≠ cf ∧ w.heap.size + 1 ≠ cf) := by have := HGE.out; exact ⟨by omega, by omega⟩
  have hrr4 := HR3.out.of_block (hb4.block _ HR3.out.lt)
  have hg4 := HG3.out.next hb4
  have HR5 : Hid (w5.rowIs (w.heap.size + 1) 52 5 (fun _ => .slice none 0 0)) := hrr4.of_block (hoth _ HCG.out.2)
  have hgb5 : w5.heap[w.heap.size]? = w4.heap[w.heap.size]? := hoth _ HCG.out.1
  have HK5 : Hid (w5.cell? ⟨w.heap.size, 0, none⟩ = some (.int .i64 t) ∧ w5.cell? ⟨w.heap.size, 1, none⟩ = some (.int .i64 (n : Int)) ∧ w5.cell? ⟨w.heap.size, 2, none⟩ = some (.slice ao ps.length c)) :=
    ⟨(World.cell?_of_block (w := w4) hgb5).trans hg4.c0, (World.cell?_of_block (w := w4) hgb5).trans hg4.c1, (World.cell?_of_block (w := w4) hgb5).trans hg4.c2⟩
  have HP5 : Hid (Pds w5 (.slice ao ps.length c) ps) := HP.out.below HB35.out
  have HE5 : Hid (Rb w5 be n E) := (HE3.out.next hb4).of (hoth _ (row_ne (HE3.out.next hb4) hbx4 (by decide)))
  have HF5 : Hid (Rw w5 bf n F) := (HF3.out.next hb4).of (hoth _ (row_ne (HF3.out.next hb4) hbx4 (by decide)))
  have HM5 : Hid (Rb w5 bm n M) := (HM3.out.next hb4).of (hoth _ (row_ne (HM3.out.next hb4) hbx4 (by decide)))
  have HRR5 : Hid (Rb w5 br n R) := hR4.of (hoth _ (row_ne hR4 hbx4 (by decide)))
  have HB5 : Hid (w5.rowIs cf 52 5 (fv (.slice (some ⟨be, 0, none⟩) n n) (.slice (some ⟨bf, 0, none⟩) n n) (.slice none 0 0) (.slice (some ⟨br, 0, none⟩) n n) (.slice (some ⟨bm, 0, none⟩) n n))) := hbx5
  have HKR : Hid (Re ps R) := hkR
  have u0 := HK5.out.1
  have u1 := HK5.out.2.1
  have u2 := HK5.out.2.2
  have p0 := hbx5.cell (i := 0) (by omega)
  have p1 := hbx5.cell (i := 1) (by omega)
  have p2 := hbx5.cell (i := 2) (by omega)
  have p3 := hbx5.cell (i := 3) (by omega)
  have p4 := hbx5.cell (i := 4) (by omega)
  simp only [fv] at p0 p1 p2 p3 p4
  rw [← HW5.out] at u0 u1 u2 p0 p1 p2 p3 p4
  clear hge4 hR4 hkR hbx4 hoth hbx5 hrr4 hg4 hgb5 hb4 HG3 HE3 HF3 HM3 HBX HR3
  go_wp2_with fail
  rw [HW5.out]
  clear u0 u1 u2 p0 p1 p2 p3 p4 q3 z3 HW5
  refine (followers_any t n be bf E F _ _ _ _ ps w5 HP5.out HG.out HE5.out HF5.out ⟨_, _, _, rfl⟩ ⟨_, _, _, rfl⟩ ⟨_, _, _, rfl⟩).mono ?_
  rintro _ w6 ⟨bw, rfl, hge6, hb6, V, hV6, hkV⟩
  have hbx6 := HB5.out.of_block (hb6.block _ HB5.out.lt)
  have q2 := hbx6.cell (i := 2) (by omega)
  have z2 := hbx6.frozen 2
  obtain ⟨w7, HW7⟩ : ∃ w7, Hid (w6.setCell ⟨cf, 2, none⟩ (.slice (some ⟨bw, 0, none⟩) n n) = w7) := ⟨_, (rfl : _ = _)⟩
  have hoth : ∀ k, k ≠ cf → w7.heap[k]? = w6.heap[k]? := fun k hk => by rw [← HW7.out]; exact Go.Deep.blk_setCell_other _ _ _ _ hk
  have hbx7 := (hbx6.set 2 (.slice (some ⟨bw, 0, none⟩) n n)).congr (fv_two (.slice (some ⟨be, 0, none⟩) n n) (.slice (some ⟨bf, 0, none⟩) n n) (.slice none 0 0) (.slice (some ⟨br, 0, none⟩) n n) (.slice (some ⟨bm, 0, none⟩) n n) (.slice (some ⟨bw, 0, none⟩) n n))
  rw [HW7.out] at hbx7
  have HB7 : Hid (Below w.heap.size w w7) := by
    show Below _ _ _
    rw [← HW7.out]
    exact (HB35.out.trans (hb6.mono HB35.out.size)).setCell (by have := HGE.out; show _ ≤ cf; omega) _
  have hrr7 := (HR5.out.of_block (hb6.block _ HR5.out.lt)).of_block (hoth _ HCG.out.2)
  have HR7 : Hid (w7.rowIs (w.heap.size + 1) 52 5 (fun _ => .slice none 0 0)) := hrr7
  have HFX : Hid (Fx n be bf bw br bm E F V R M w7 ∧ Fa ps E F V R M) := ⟨⟨(HE5.out.next hb6).of (hoth _ (row_ne (HE5.out.next hb6) hbx6 (by decide))), (HF5.out.next hb6).of (hoth _ (row_ne (HF5.out.next hb6) hbx6 (by decide))), hV6.of (hoth _ (row_ne hV6 hbx6 (by decide))), (HRR5.out.next hb6).of (hoth _ (row_ne (HRR5.out.next hb6) hbx6 (by decide))), (HM5.out.next hb6).of (hoth _ (row_ne (HM5.out.next hb6) hbx6 (by decide)))⟩, HKK.out.1, HKK.out.2.1, HKK.out.2.2, HKR.out, hkV⟩
  have p0 := hbx7.cell (i := 0) (by omega)
  have a0 := hrr7.cell (i := 0) (by omega)
  have y0 := hrr7.frozen 0
  have p1 := hbx7.cell (i := 1) (by omega)
  have a1 := hrr7.cell (i := 1) (by omega)
  have y1 := hrr7.frozen 1
  have p2 := hbx7.cell (i := 2) (by omega)
  have a2 := hrr7.cell (i := 2) (by omega)
  have y2 := hrr7.frozen 2
  have p3 := hbx7.cell (i := 3) (by omega)
  have a3 := hrr7.cell (i := 3) (by omega)
  have y3 := hrr7.frozen 3
  have p4 := hbx7.cell (i := 4) (by omega)
  have a4 := hrr7.cell (i := 4) (by omega)
  have y4 := hrr7.frozen 4
  simp only [fv] at p0 p1 p2 p3 p4
  rw [← HW7.out] at p0 p1 p2 p3 p4 a0 a1 a2 a3 a4 y0 y1 y2 y3 y4
  clear hge6 hV6 hkV hbx6 hoth hbx7 hb6 hrr7 HE5 HF5 HM5 HRR5 HB5 HR5 HK5 HP5
  go_wp2_with fail
  rw [HW7.out]
  clear p0 p1 p2 p3 p4 q2 z2 a0 a1 a2 a3 a4 y0 y1 y2 y3 y4
  obtain ⟨w8, HW8⟩ : ∃ w8, Hid ((((((w7.setCell ⟨w.heap.size + 1, 0, none⟩ (.slice (some ⟨be, 0, none⟩) n n)).setCell ⟨w.heap.size + 1, 1, none⟩ (.slice (some ⟨bf, 0, none⟩) n n)).setCell ⟨w.heap.size + 1, 2, none⟩ (.slice (some ⟨bw, 0, none⟩) n n)).setCell ⟨w.heap.size + 1, 3, none⟩ (.slice (some ⟨br, 0, none⟩) n n)).setCell ⟨w.heap.size + 1, 4, none⟩ (.slice (some ⟨bm, 0, none⟩) n n)) = w8) := ⟨_, (rfl : _ = _)⟩
  rw [HW8.out]
  have HSET := row_five HR7.out (.slice (some ⟨be, 0, none⟩) n n) (.slice (some ⟨bf, 0, none⟩) n n) (.slice (some ⟨bw, 0, none⟩) n n) (.slice (some ⟨br, 0, none⟩) n n) (.slice (some ⟨bm, 0, none⟩) n n)
  have HOTH := five_other w7 (w.heap.size + 1) (.slice (some ⟨be, 0, none⟩) n n) (.slice (some ⟨bf, 0, none⟩) n n) (.slice (some ⟨bw, 0, none⟩) n n) (.slice (some ⟨br, 0, none⟩) n n) (.slice (some ⟨bm, 0, none⟩) n n)
  have HBL : Below w.heap.size w w8 := by
    rw [← HW8.out]
    exact ((((HB7.out.setCell (by simp) _).setCell (by simp) _).setCell (by simp) _).setCell (by simp) _).setCell (by simp) _
  rw [HW8.out] at HSET HOTH
  have hx := HFX.out.1
  have HFIN : Hid (Fw w n ps be bf bw br bm w8) := ⟨HBL, E, F, V, R, M, ⟨hx.e.of (HOTH _ (row_ne hx.e HR7.out (by decide))), hx.f.of (HOTH _ (row_ne hx.f HR7.out (by decide))), hx.v.of (HOTH _ (row_ne hx.v HR7.out (by decide))), hx.r.of (HOTH _ (row_ne hx.r HR7.out (by decide))), hx.m.of (HOTH _ (row_ne hx.m HR7.out (by decide)))⟩, HFX.out.2⟩
  have v0 := HSET.cell (i := 0) (by omega)
  have v1 := HSET.cell (i := 1) (by omega)
  have v2 := HSET.cell (i := 2) (by omega)
  have v3 := HSET.cell (i := 3) (by omega)
  have v4 := HSET.cell (i := 4) (by omega)
  simp only [fv] at v0 v1 v2 v3 v4
  clear HSET HOTH HBL hx
  exact bodyPost_ret (v := .tuple #[.agg #[(.slice (some ⟨be, 0, none⟩) n n), (.slice (some ⟨bf, 0, none⟩) n n), (.slice (some ⟨bw, 0, none⟩) n n), (.slice (some ⟨br, 0, none⟩) n n), (.slice (some ⟨bm, 0, none⟩) n n)], .int .i64 0]) (by simp [results, Try.results17, go_sem, v0, v1, v2, v3, v4]) rfl ⟨_, _, _, _, _, rfl, HFIN.out⟩
end Go.Proofs.Ytpbnnmfjahckmaa

namespace Go.Proofs.Ytpbnnmfjahckmaa
open Go.RowKit
open Cg

theorem andNot_wd (a b : Wd) : bits .andNot .u64 (a.toNat : Int) (b.toNat : Int) = ((a &&& ~~~ b).toNat : Int) := by
  rw [u64_andNot_nat a.toNat b.toNat a.isLt b.isLt, BitVec.toNat_and, BitVec.toNat_not]
/-- The bag, and what each nonterminal has been opened with. -/
structure Cs (w0 : World) (g mb bo n : Nat) (v : Value) (b : List It) (D : DataW Unit) (O : Nat → Wd) (W : World) : Prop where
  bw : Below w0.heap.size w0 W
  ba : Ba w0.heap.size g mb v b b D W
  op : Rw W bo n O
  ne : bo ≠ g ∧ bo ≠ mb ∧ v.ownBlock ≠ some bo ∧ w0.heap.size ≤ bo
  fo : ∃ ao cp, v = .slice ao b.length cp
variable {w0 : World} {g mb bo n : Nat} {v : Value} {b : List It} {D : DataW Unit} {O : Nat → Wd} {W W' : World}
theorem Cs.next (h : Cs w0 g mb bo n v b D O W) (hb : Below W.heap.size W W') : Cs w0 g mb bo n v b D O W' :=
  ⟨h.bw.trans (hb.mono h.ba.ge.2.2), h.ba.next hb, h.op.next hb, h.ne, h.fo⟩
theorem Cs.put (h : Cs w0 g mb bo n v b D O W) (m : Nat) (x : Wd) : Cs w0 g mb bo n v b D (upd O m x) (W.setCell ⟨bo, m, none⟩ (.int .u64 (x.toNat : Int))) := by
  refine ⟨h.bw.setCell h.ne.2.2.2 _, h.ba.keep (fun k hk => Below.heap_setCell _ _ _ _ ?_) (by simp [World.setCell]), h.op.set m x, h.ne, h.fo⟩
  rcases hk with rfl | rfl | hk
  · exact Ne.symm h.ne.1
  · exact Ne.symm h.ne.2.1
  · exact fun e => h.ne.2.2.1 (by rw [hk]; exact congrArg some e)
theorem Cs.xb (h : Cs w0 g mb bo n v b D O W) (k : Nat) (hk : Xb g mb v k) : w0.heap.size ≤ k := by
  rcases hk with rfl | rfl | hk
  · exact h.ba.ge.1
  · exact h.ba.ge.2.1
  · exact (h.ba.own.lt k hk).1
theorem Cs.opened (h : Cs w0 g mb bo n v b D O W) {P : It → Prop} (ho : OpnP w0.heap.size g mb v b P W W') : ∃ v' b' D', Cs w0 g mb bo n v' b' D' O W' ∧ Ad P b b' := by
  obtain ⟨v', b', D', h1⟩ := ho
  have hlt := h.op.lt
  refine ⟨v', b', D', ⟨h.bw.trans (h1.fm.below h.ba.ge.2.2 h.xb), h1.ba, h.op.of (h1.fm.block bo hlt (fun hx => ?_)), ⟨h.ne.1, h.ne.2.1, fun e => ?_, h.ne.2.2.2⟩, h1.fo⟩, h1.ad⟩
  · rcases hx with hx | hx | hx
    · exact h.ne.1 hx
    · exact h.ne.2.1 hx
    · exact h.ne.2.2.1 hx
  · rcases h1.ow bo e with h2 | h2
    · exact h.ne.2.2.1 h2
    · omega
theorem own_item {B gb cp i : Nat} (h : W.ownsRow B 145 3 (.slice (some ⟨gb, 0, none⟩) b.length cp) b.length (ics b)) (hi : i < b.length) :
    W.cell? ⟨gb, i * 3, none⟩ = some (.int .i64 (b[i].1 : Int)) ∧ W.cell? ⟨gb, i * 3 + 1, none⟩ = some (.int .i64 (b[i].2.1 : Int)) ∧ W.cell? ⟨gb, i * 3 + 2, none⟩ = some (.int .i64 (b[i].2.2 : Int)) := by
  obtain ⟨hl, ⟨h1, _⟩ | ⟨q, cap, cur, hv, hg, hh, hn, hc, hs, ht⟩⟩ := h
  · cases h1
  · simp only [Value.slice.injEq, Option.some.injEq, Addr.mk.injEq] at hv
    obtain ⟨⟨rfl, _⟩, _, rfl⟩ := hv
    obtain ⟨f0, f1, f2⟩ := ics_at b i hi
    have e : ∀ j, j < 3 → W.cell? ⟨gb, i * 3 + j, none⟩ = (ics b)[i * 3 + j]? := fun j hj => by
      have e1 : W.cell? ⟨gb, i * 3 + j, none⟩ = cur[i * 3 + j]? := by simp [World.cell?, hh]
      rw [e1, ← ht, List.getElem?_take_of_lt (by omega)]; simp
    exact ⟨(e 0 (by omega)).trans f0, (e 1 (by omega)).trans f1, (e 2 (by omega)).trans f2⟩
theorem own_some {B : Nat} (h : W.ownsRow B 145 3 v b.length (ics b)) (hi : 0 < b.length) : ∃ gb cp, v = .slice (some ⟨gb, 0, none⟩) b.length cp := by
  obtain ⟨hl, ⟨h1, h2⟩ | ⟨q, cap, cur, hv, -⟩⟩ := h
  · omega
  · exact ⟨q, cap, hv⟩
theorem rst_ok {T : Nat} {ps : List Pd} (hk : chk (T : Int) n ps = 0) {x : It} (hx : OkIt T ps x) : OkL (T : Int) n (rst ps x) := by
  unfold rst
  refine OkL.drop ?_ _
  by_cases h : x.1 < ps.length
  · rw [bod_at h]
    exact okL_of (chkP_zero ((chk_zero hk).2.2 _ (List.getElem_mem h))).2.2
  · have e : x.1 = ps.length := by have := hx.p; omega
    rw [e, bod_whole]
    intro s hs
    simp at hs
    subst hs
    have := okTN_le (chk_zero hk).1
    exact Or.inr ⟨rfl, by show (0 : Int) ≤ 0; omega, by show (0 : Int) < (n : Int); omega⟩
theorem sml_ok {T : Nat} {ps : List Pd} (hk : chk (T : Int) n ps = 0) {x : It} (hx : OkIt T ps x) : Sml x := by
  have h1 := okTN_le (chk_zero hk).1
  have h2 := (chk_zero hk).2.1
  have h3 := bod_le hk x.1
  have h4 := hx.p
  have h5 := hx.d
  have h6 := hx.k
  exact ⟨by omega, by omega, by omega⟩
theorem Bg.openX {T : Nat} {ps : List Pd} {E : Nat → Bool} {F : Nat → Wd} {l b' : List It} {i m : Nat} {tl : List Sy} {x : It} {r0 k1 : Wd} (h : Bg T ps E F l b i O) (hi : i < b.length) (hx : b[i] = x) (hr : rst ps x = (2, (m : Int)) :: tl) (hr0 : bg E F tl (1#64 <<< x.2.2) = r0) (hk1 : r0 &&& ~~~ O m = k1)
    (ha : Ad (Hd T ps (m : Int) k1) b b') : Bg T ps E F l b' (i + 1) (upd O m (O m ||| k1)) := by
  subst hx hr0 hk1
  exact h.open hi hr ha
theorem own_lower {B B' e k m : Nat} {xs : List Value} (h : W.ownsRow B e k v m xs) (hb : B' ≤ B) : W.ownsRow B' e k v m xs := by
  obtain ⟨h1, h2 | ⟨q, cap, cur, hv, hg, h3⟩⟩ := h
  · exact ⟨h1, Or.inl h2⟩
  · exact ⟨h1, Or.inr ⟨q, cap, cur, hv, Nat.le_trans hb hg, h3⟩⟩
theorem below_grown {B q : Nat} (h : W.grownBy W' (some q)) (hq : B ≤ q) (hB : B ≤ W.heap.size) : Below B W W' :=
  ⟨h.os, h.tape, h.output, h.size, fun k hk => h.block k (by omega) (fun e => by have := Option.some.inj e; omega)⟩
/-- A new bag. -/
theorem ba_new (w : World) : Ba w.heap.size (w.heap.size + 1) w.heap.size (.slice none 0 0) [] [] (.map []) ((w.alloc (.map #[] 0)).alloc (Obj.cells #[.map (some w.heap.size), .slice none 0 0] 163)) := by
  have hs : (w.alloc (Obj.map #[] 0)).heap.size = w.heap.size + 1 := by simp
  refine ⟨?_, ⟨rfl, Or.inl ⟨rfl, rfl⟩⟩, ?_, Seen.none, ⟨by omega, by omega, by simp; omega⟩, ⟨by omega, fun k hk => by simp [Value.ownBlock] at hk⟩⟩
  · rw [← hs]
    refine ⟨#[.map (some w.heap.size), .slice none 0 0], heap_alloc_new _ _, rfl, fun i hi => ?_⟩
    have : i = 0 ∨ i = 1 := by omega
    rcases this with rfl | rfl <;> rfl
  · exact (World.ownsMap_made w Try.prog 145 (unitElem (H := Unit))).alloc _
end Go.Proofs.Ytpbnnmfjahckmaa

namespace Go.Proofs.Ytpbnnmfjahckmaa
open Go.RowKit
open Cg


end Go.Proofs.Ytpbnnmfjahckmaa
