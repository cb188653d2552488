/-
  CfgSays returns true whatever grammar and number are handed in, and changes nothing that it was handed; no condition.
-/
import Derived.Test.YtgoafahglajfmaaRows
import Derived.WalkKit
import Derived.ProofKit
import Derived.OpenShut
import Derived.ShutString
import Derived.SizedLaws
import Derived.ChangeOld
import Derived.Below
import Derived.Carry
import Derived.WalkLawsBesides
import Derived.WalkSpells
import Derived.Test.YtgoafahglajfmaaOpens
import Derived.Test.YtgoafahglajfmaaSame
import Derived.Test.YtgoafahglajfmaaRTurned
namespace Go.Proofs.Ytgoafahglajfmaa.cfgSays
open Go.ChangeShapes Go.WideShapes Go.ChangeAt Go.RowKit
open Go.ChangeMaps (open_string shut_string)
open Cg
set_option linter.unusedVariables false

theorem own : ownKnob Try.prog.godebug = none := by kernel_rfl
theorem laidOut : laidOutB Try.prog = true := by kernel_rfl

structure RSa (w9 : World) (t n : Int) (ps : List Pd) (ao : Option Addr) (c mg : Nat) (ta : Option Addr) (tc : Nat) (d : Nat → Bool) (x49 x50 x51 x52 x53 : Value) (W : World) : Prop where
  f0 : d 0 = true → x49 = (.agg #[.int .i64 t, .int .i64 n, .slice (some ⟨mg, 0, none⟩) ps.length ps.length])
  f1 : d 1 = true → x50 = (.agg #[.int .i64 t, .int .i64 n, .slice ao ps.length c])
  f2 : d 2 = true → x51 = (.agg #[.int .i64 t, .int .i64 n, (.slice ta ps.length tc)])
  f3 : d 3 = true → x52 = (.bool true)
  f4 : d 4 = true → x53 = (.bool false)
  c3 : d 3 = true → d 2 = true
  kp : Below w9.heap.size w9 W
  pd : d 2 = true → Pds W (.slice ta ps.length tc) (turn ps)

/-! ### The walk: the Go text returns true. -/
set_option maxHeartbeats 8000000 in
set_option maxRecDepth 20000 in
theorem walk (a0t : Int) (a0n : Int) (a0s : Value) (a0p : List Pd) (a1 : Int) (w : World) (w0s : Pds w a0s a0p) (w1 : (Lit.int .i64 a1).wf = true) :
    Calls Try.prog 3 #[.agg #[.int .i64 a0t, .int .i64 a0n, a0s], .int .i64 a1] w fun e w' => e = .returned (.bool true) ∧ Below w.heap.size w w' := by
  obtain ⟨i0, hi, hz0, hz1, hz2⟩ := info_parts info3
  have HG0 : Hid (Gb w w.heap.size a0t a0n a0s a0p (w.alloc (Obj.cells #[.int .i64 a0t, .int .i64 a0n, a0s] 24))) := Gb.box w0s a0t a0n
  obtain ⟨ao, c, rfl, hm, hcs⟩ := w0s
  revert HG0 hm hcs
  generalize a0t = t
  generalize a0n = n
  generalize a0p = ps
  generalize a1 = x
  intro HG0 hm hcs
  obtain ⟨r, HR⟩ : ∃ r, Hid (chk t n ps = r) := ⟨_, (rfl : chk t n ps = chk t n ps)⟩
  obtain ⟨er, HE⟩ : ∃ er, Hid (ofE t n ps x = er) := ⟨_, (rfl : ofE t n ps x = ofE t n ps x)⟩
  obtain ⟨L, HL⟩ : ∃ L, Hid (ofR t n ps x = L) := ⟨_, (rfl : ofR t n ps x = ofR t n ps x)⟩
  go_enter Try.func3, Try.ntmps3
  go_wp2_with fail
  have hc := Cfg_any t n _ ps _ HG0.out.pds
  rw [HR.out] at hc
  refine hc.mono ?_
  rintro _ w1 ⟨rfl, hb⟩
  have HG1 : Hid (Gb w w.heap.size t n (.slice ao ps.length c) ps w1) := HG0.out.next hb
  clear hc hb HG0
  have z0 := HG1.out.c0
  have z1 := HG1.out.c1
  have z2 := HG1.out.c2
  go_wp2_with fail
  clear z0 z1 z2
  have hc := Of_any t n _ ps x _ HG1.out.pds
  rw [HE.out, HL.out] at hc
  refine hc.mono ?_
  rintro _ w2 ⟨lv, rfl, hli, hb⟩
  have HG2 : Hid (Gb w w.heap.size t n (.slice ao ps.length c) ps w2) := HG1.out.next hb
  have HLI2 : Hid (Ints w2 lv L) := hli
  clear hc hb HG1 hli
  obtain ⟨la, lc, rfl, -, -⟩ := HLI2.out
  obtain ⟨ln, HLN⟩ : ∃ ln, Hid (L.length = ln) := ⟨_, (rfl : L.length = L.length)⟩
  rw [HLN.out] at HLI2 ⊢
  have z0 := HG2.out.c0
  have z1 := HG2.out.c1
  have z2 := HG2.out.c2
  go_wp2_with fail
  clear z0 z1 z2
  by_cases h0 : r = 0
  · subst h0
    have HOK : Hid (chk t n ps = 0) := HR.out
    have HPL : Hid (ps.length ≤ 40) := (chk_zero HR.out).2.1
    refine (Mirror_ok t n _ ps _ HG2.out.pds HR.out).mono ?_
    rintro _ w3 ⟨mg, rfl, hmp, hb⟩
    have HG3 : Hid (Gb w w.heap.size t n (.slice ao ps.length c) ps (w3.alloc (Obj.cells #[.int .i64 t, .int .i64 n, .slice (some ⟨mg, 0, none⟩) ps.length ps.length] 24))) := (HG2.out.next hb).next (below_alloc _ _)
    have HMB3 : Hid (Gb w3 w3.heap.size t n (.slice (some ⟨mg, 0, none⟩) ps.length ps.length) (turn ps) (w3.alloc (Obj.cells #[.int .i64 t, .int .i64 n, .slice (some ⟨mg, 0, none⟩) ps.length ps.length] 24))) := by
      have := Gb.box hmp t n
      exact this
    have HLI3 : Hid (Ints (w3.alloc (Obj.cells #[.int .i64 t, .int .i64 n, .slice (some ⟨mg, 0, none⟩) ps.length ps.length] 24)) (.slice la ln lc) L) := (HLI2.out.below hb).below (below_alloc _ _)
    clear hb hmp HG2 HLI2
    have z0 := HG3.out.c0
    have z1 := HG3.out.c1
    have z2 := HG3.out.c2
    go_wp2_with fail
    clear z0 z1 z2
    have hc := Check_any t n _ ps _ HG3.out.pds
    rw [HR.out] at hc
    refine hc.mono ?_
    rintro _ w4 ⟨rfl, hb⟩
    have HG : Hid (Gb w w.heap.size t n (.slice ao ps.length c) ps w4) := HG3.out.next hb
    have HMB0 : Hid (Gb w3 w3.heap.size t n (.slice (some ⟨mg, 0, none⟩) ps.length ps.length) (turn ps) w4) := HMB3.out.next hb
    have HLI : Hid (Ints w4 (.slice la ln lc) L) := HLI3.out.below hb
    clear hc hb HG3 HMB3 HLI3
    obtain ⟨mb, HMBE⟩ : ∃ mb, Hid (w3.heap.size = mb) := ⟨_, (rfl : w3.heap.size = w3.heap.size)⟩
    have HMB : Hid (Gb w3 mb t n (.slice (some ⟨mg, 0, none⟩) ps.length ps.length) (turn ps) w4) := by show Gb _ _ _ _ _ _ _; rw [← HMBE.out]; exact HMB0.out
    rw [HMBE.out]
    clear HMB0 HMBE
    go_wp2_with fail
    refine wp_region_free mixed (fun a0 d a W => ∃ (ta : Option Addr) (tc : Nat) (x49 x50 x51 x52 x53 : Value), a = (((((a0.put (some 49) x49).put (some 50) x50).put (some 51) x51).put (some 52) x52).put (some 53) x53) ∧ Hid (RSa w4 t n ps ao c mg ta tc d x49 x50 x51 x52 x53 W)) (by kernel_rfl) ⟨none, 0, undef, undef, undef, undef, undef, by simp only [Act.put, List.setIfInBounds_toArray, List.set_cons_zero, List.set_cons_succ], ?_⟩ ?_ ?_
    · exact ⟨fun h => no_way h, fun h => no_way h, fun h => no_way h, fun h => no_way h, fun h => no_way h, fun h => no_way h, Below.drew (Below.refl _ _), fun h => no_way h⟩
    · simp only [StepAll, and_true]
      refine ⟨?_, ?_, ?_, ?_, ?_⟩
      · intro d a W hI hd hdep
        obtain ⟨ta, tc, x49, x50, x51, x52, x53, rfl, hF⟩ := hI
        have kp := hF.out.kp
        have ya := (kp.cell (p := ⟨mb, 0, none⟩) HMB.out.lt).trans HMB.out.c0
        have yb := (kp.cell (p := ⟨mb, 1, none⟩) HMB.out.lt).trans HMB.out.c1
        have yc := (kp.cell (p := ⟨mb, 2, none⟩) HMB.out.lt).trans HMB.out.c2
        clear kp
        clear hdep hd
        intro K hK
        simp only [Act.put, List.setIfInBounds_toArray, List.set_cons_zero, List.set_cons_succ]
        go_simp
        refine hK.out _ _ ⟨ta, tc, (.agg #[.int .i64 t, .int .i64 n, .slice (some ⟨mg, 0, none⟩) ps.length ps.length]), x50, x51, x52, x53, by simp only [Act.put, List.setIfInBounds_toArray, List.set_cons_zero, List.set_cons_succ], ?_⟩
        exact ⟨fun _ => rfl, fun h => hF.out.f1 (by simpa using h), fun h => hF.out.f2 (by simpa using h), fun h => hF.out.f3 (by simpa using h), fun h => hF.out.f4 (by simpa using h), fun h => by have := hF.out.c3 (by simpa using h); simpa using this, hF.out.kp, fun h => hF.out.pd (by simpa using h)⟩
      · intro d a W hI hd hdep
        obtain ⟨ta, tc, x49, x50, x51, x52, x53, rfl, hF⟩ := hI
        have kp := hF.out.kp
        have ya := (kp.cell (p := ⟨w.heap.size, 0, none⟩) HG.out.lt).trans HG.out.c0
        have yb := (kp.cell (p := ⟨w.heap.size, 1, none⟩) HG.out.lt).trans HG.out.c1
        have yc := (kp.cell (p := ⟨w.heap.size, 2, none⟩) HG.out.lt).trans HG.out.c2
        clear kp
        clear hdep hd
        intro K hK
        simp only [Act.put, List.setIfInBounds_toArray, List.set_cons_zero, List.set_cons_succ]
        go_simp
        refine hK.out _ _ ⟨ta, tc, x49, (.agg #[.int .i64 t, .int .i64 n, .slice ao ps.length c]), x51, x52, x53, by simp only [Act.put, List.setIfInBounds_toArray, List.set_cons_zero, List.set_cons_succ], ?_⟩
        exact ⟨fun h => hF.out.f0 (by simpa using h), fun _ => rfl, fun h => hF.out.f2 (by simpa using h), fun h => hF.out.f3 (by simpa using h), fun h => hF.out.f4 (by simpa using h), fun h => by have := hF.out.c3 (by simpa using h); simpa using this, hF.out.kp, fun h => hF.out.pd (by simpa using h)⟩
      · intro d a W hI hd hdep
        obtain ⟨ta, tc, x49, x50, x51, x52, x53, rfl, hF⟩ := hI
        have hd1 : d 1 = true := dep_of hdep 1 (by kernel_rfl)
        obtain rfl := hF.out.f1 hd1
        have HKP : Hid (Below w4.heap.size w4 W) := hF.out.kp
        have HN3 : Hid (d 3 = false) := no_later hF.out.c3 hd
        have hcl := Turned_any t n (.slice ao ps.length c) ps W (HG.out.pds.below HKP.out) HOK.out
        clear hdep hd hd1
        intro K hK
        simp only [Act.put, List.setIfInBounds_toArray, List.set_cons_zero, List.set_cons_succ]
        go_simp
        refine hcl.mono ?_
        rintro _ W1 ⟨ta1, tc1, rfl, hpd1, hb1⟩
        have HPD1 : Hid (Pds W1 (.slice ta1 ps.length tc1) (turn ps)) := hpd1
        clear hpd1
        go_simp
        refine hK.out _ _ ⟨ta1, tc1, x49, (.agg #[.int .i64 t, .int .i64 n, .slice ao ps.length c]), (.agg #[.int .i64 t, .int .i64 n, .slice ta1 ps.length tc1]), x52, x53, by simp only [Act.put, List.setIfInBounds_toArray, List.set_cons_zero, List.set_cons_succ], ?_⟩
        exact ⟨fun h => hF.out.f0 (by simpa using h), fun h => hF.out.f1 (by simpa using h), fun _ => rfl, fun h => hF.out.f3 (by simpa using h), fun h => hF.out.f4 (by simpa using h), fun _ => by simp, HKP.out.trans (hb1.mono HKP.out.size), fun _ => HPD1.out⟩
      · intro d a W hI hd hdep
        obtain ⟨ta, tc, x49, x50, x51, x52, x53, rfl, hF⟩ := hI
        have hd0 : d 0 = true := dep_of hdep 0 (by kernel_rfl)
        have hd2 : d 2 = true := dep_of hdep 2 (by kernel_rfl)
        obtain rfl := hF.out.f0 hd0
        obtain rfl := hF.out.f2 hd2
        have HD2 : Hid (d 2 = true) := hd2
        have HKP : Hid (Below w4.heap.size w4 W) := hF.out.kp
        have hcl := same_true t n (.slice (some ⟨mg, 0, none⟩) ps.length ps.length) (.slice ta ps.length tc) (turn ps) W (HMB.out.pds.below HKP.out) (hF.out.pd hd2)
        clear hdep hd hd0 hd2
        intro K hK
        simp only [Act.put, List.setIfInBounds_toArray, List.set_cons_zero, List.set_cons_succ]
        go_simp
        refine hcl.mono ?_
        rintro _ W1 ⟨rfl, hb1⟩
        go_simp
        refine hK.out _ _ ⟨ta, tc, (.agg #[.int .i64 t, .int .i64 n, .slice (some ⟨mg, 0, none⟩) ps.length ps.length]), x50, (.agg #[.int .i64 t, .int .i64 n, (.slice ta ps.length tc)]), (.bool true), x53, by simp only [Act.put, List.setIfInBounds_toArray, List.set_cons_zero, List.set_cons_succ], ?_⟩
        exact ⟨fun h => hF.out.f0 (by simpa using h), fun h => hF.out.f1 (by simpa using h), fun h => hF.out.f2 (by simpa using h), fun _ => rfl, fun h => hF.out.f4 (by simpa using h), fun _ => by simpa using HD2.out, HKP.out.trans (hb1.mono HKP.out.size), fun _ => (hF.out.pd HD2.out).below hb1⟩
      · intro d a W hI hd hdep
        obtain ⟨ta, tc, x49, x50, x51, x52, x53, rfl, hF⟩ := hI
        have hd3 : d 3 = true := dep_of hdep 3 (by kernel_rfl)
        obtain rfl := hF.out.f3 hd3
        clear hdep hd hd3
        intro K hK
        simp only [Act.put, List.setIfInBounds_toArray, List.set_cons_zero, List.set_cons_succ]
        go_simp
        refine hK.out _ _ ⟨ta, tc, x49, x50, x51, (.bool true), (.bool false), by simp only [Act.put, List.setIfInBounds_toArray, List.set_cons_zero, List.set_cons_succ], ?_⟩
        exact ⟨fun h => hF.out.f0 (by simpa using h), fun h => hF.out.f1 (by simpa using h), fun h => hF.out.f2 (by simpa using h), fun h => hF.out.f3 (by simpa using h), fun _ => rfl, fun h => by have := hF.out.c3 (by simpa using h); simpa using this, hF.out.kp, fun h => hF.out.pd (by simpa using h)⟩
    · intro d a W hI hall
      obtain ⟨ta, tc, x49, x50, x51, x52, x53, rfl, hF⟩ := hI
      simp only [List.length_cons, List.length_nil] at hall
      obtain rfl := hF.out.f0 (hall 0 (by omega))
      obtain rfl := hF.out.f1 (hall 1 (by omega))
      obtain rfl := hF.out.f2 (hall 2 (by omega))
      obtain rfl := hF.out.f3 (hall 3 (by omega))
      obtain rfl := hF.out.f4 (hall 4 (by omega))
      have hkp := hF.out.kp
      have HG5 : Hid (Gb w w.heap.size t n (.slice ao ps.length c) ps W) := HG.out.next hkp
      have HLI5 : Hid (Ints W (.slice la ln lc) L) := HLI.out.below hkp
      clear hF hall hkp HG HMB HLI
      simp only [Act.put, List.setIfInBounds_toArray, List.set_cons_zero, List.set_cons_succ]
      have z1 := HG5.out.c1
      have z2 := HG5.out.c2
      by_cases hx0 : x < 0
      · have bx : decide (x < 0) = true := by simp; exact hx0
        obtain rfl : er = 1 := by rw [← HE.out]; unfold ofE; rw [if_pos HOK.out, if_neg (by unfold okN; simp; omega)]
        obtain rfl : L = [] := by rw [← HL.out]; unfold ofR; rw [HE.out]; rfl
        obtain ⟨ax, kx, hv, -, -⟩ := HLI5.out
        cases hv
        go_wp2_with fail
        go_ret
        exact ⟨by simp, HG5.out.below⟩
      · have bx : decide (x < 0) = false := by simp; omega
        by_cases hx1 : n ≤ x
        · have bx1 : decide (n ≤ x) = true := by simp; exact hx1
          obtain rfl : er = 1 := by rw [← HE.out]; unfold ofE; rw [if_pos HOK.out, if_neg (by unfold okN; simp; omega)]
          obtain rfl : L = [] := by rw [← HL.out]; unfold ofR; rw [HE.out]; rfl
          obtain ⟨ax, kx, hv, -, -⟩ := HLI5.out
          cases hv
          go_wp2_with fail
          go_ret
          exact ⟨by simp, HG5.out.below⟩
        · have bx1 : decide (n ≤ x) = false := by simp; omega
          obtain rfl : er = 0 := by rw [← HE.out]; unfold ofE; rw [if_pos HOK.out, if_pos (by unfold okN; simp; omega)]
          obtain rfl : L = ofL ps x := by rw [← HL.out]; unfold ofR; rw [HE.out]; rfl
          go_wp2_with fail
          clear z1
          go_loopw [72, 10] (fun i v wr => ∃ q : Nat, q ≤ ps.length ∧ i = .int .i64 (q : Int) ∧ wr.ownsRow W.heap.size 3 1 v (ofQ ps x q).length ((ofQ ps x q).map (Value.int .i64)) ∧ Below W.heap.size W wr) (fun i _ _ => ps.length - (intOf i).toNat)
          case atStart => exact ⟨0, by omega, rfl, World.ownsRow_nil _ _ _ _, Below.refl _ _⟩
          case round =>
            obtain ⟨q, hq, rfl, hown, hbel⟩ := hrel
            have hsb := hbel.size
            have HG6 : Hid (Gb w w.heap.size t n (.slice ao ps.length c) ps wr) := HG5.out.next hbel
            clear z2
            have z2 := HG6.out.c2
            by_cases hlt : q < ps.length
            · obtain ⟨b, o, rfl, hb, hc⟩ := hcs.resolve_left (by intro e; subst e; simp at hlt)
              have hbw : Below w.heap.size w wr := HG6.out.below
              obtain ⟨d0, u, d1, hsy⟩ := hc q hlt
              have HQS : Hid (ofQ ps x (q + 1) = ofQ ps x q ++ (if ps[q].1 = x then [(q : Int)] else [])) := ofQ_step ps x q hlt
              have hql := ofQ_length ps x q
              generalize ps[q].1 = y at d0 HQS
              replace d0 : wr.cell? ⟨b, o + q * 2, none⟩ = _ := (hbw.cell (p := ⟨b, o + q * 2, none⟩) hb).trans d0
              have hk1 : (q : Int) < (ps.length : Int) := by omega
              clear hc hcs hbw d1 hsy
              by_cases hy : y = x
              · have hyb : (y == x) = true := by simp; exact hy
                rw [if_pos hy] at HQS
                clear hy
                have HPL2 := HPL.out
                go_wp2_with (at_builtin; refine wpList_append_own _ rfl _ _ 27 rfl W.heap.size 3 i0 (.int .i64 0) 1 8 Try.underlying27 hi hz0 hz1 hz2 rfl (by decide) _ _ _ rfl (hown.alloc _) ⟨wr.heap.size, 0, none⟩ 1 1 [.int .i64 (q : Int)] rfl rfl (World.news_of_block (t := 3) (fr := (0, 0)) (heap_alloc_new wr _)) (by simp [Value.oneCell']) (by unfold maxLen; omega) (by omega) (by simp; omega) ?_)
                intro v' w3 hown' hgrow _
                have R1 : w3.ownsRow W.heap.size 3 1 v' (ofQ ps x (q + 1)).length ((ofQ ps x (q + 1)).map (Value.int .i64)) := by rw [HQS.out, List.length_append, List.map_append]; exact hown'
                have R2 : Below W.heap.size W w3 := Below.grown (hbel.alloc hsb _) hgrow (by simp; omega) (own_ge hown)
                clear hown' hgrow hown hbel HG6 z2 d0 hyb
                go_wp2_with fail
                go_roundw
                case rel => exact ⟨q + 1, by omega, by go_num, R1, R2⟩
                case measure => simp [intOf]; omega
              · have hyb : (y == x) = false := by simp; exact hy
                rw [if_neg hy, List.append_nil] at HQS
                clear hy
                go_wp2_with fail
                go_roundw
                case rel => exact ⟨q + 1, by omega, by go_num, by rw [HQS.out]; exact hown, hbel⟩
                case measure => simp [intOf]; omega
            · have hql := ofQ_length ps x q
              have HPL2 := HPL.out
              have HI2 : Hid (Ints wr u10 (ofL ps x)) := by
                have e : q = ps.length := by omega
                subst e
                exact ints_of_own hown (by unfold ofL; omega)
              have HL6 : Hid (Ints wr (.slice la ln lc) (ofL ps x)) := HLI5.out.below hbel
              have HBB : Hid (Below w.heap.size w wr) := HG6.out.below
              obtain ⟨a', m', c', rfl⟩ := own_form hown
              clear hown hbel HG6 z2
              go_wp2_with fail
              have hce := equal_any _ _ _ _ wr HL6.out HI2.out
              rw [decide_eq_true rfl] at hce
              refine hce.mono ?_
              rintro _ w7 ⟨rfl, hb7⟩
              have HB7 : Hid (Below w.heap.size w w7) := HBB.out.trans (hb7.mono HBB.out.size)
              clear hce hb7
              go_wp2_with fail
              go_ret
              exact ⟨by simp, HB7.out⟩
  · have h0b : (r != 0) = true := by simp; exact h0
    have hrr : (r != r) = false := by simp
    have hrr2 : (r == r) = true := by simp
    obtain rfl : er = r := by rw [← HE.out]; unfold ofE; rw [HR.out, if_neg h0]
    obtain rfl : L = [] := by rw [← HL.out]; unfold ofR; rw [HE.out, if_neg h0]
    obtain rfl : ln = 0 := HLN.out.symm
    refine (Mirror_bad t n _ ps _ HG2.out.pds er HR.out h0).mono ?_
    rintro _ w3 ⟨rfl, hb⟩
    have HG3 : Hid (Gb w w.heap.size t n (.slice ao ps.length c) ps (w3.alloc (Obj.cells #[.int .i64 0, .int .i64 0, .slice none 0 0] 24))) := (HG2.out.next hb).next (below_alloc _ _)
    have HMB3 : Hid (Gb w3 w3.heap.size 0 0 (.slice none 0 0) [] (w3.alloc (Obj.cells #[.int .i64 0, .int .i64 0, .slice none 0 0] 24))) := Gb.box (pds_nil _) 0 0
    clear hb HG2 HLI2 h0
    have z0 := HG3.out.c0
    have z1 := HG3.out.c1
    have z2 := HG3.out.c2
    go_wp2_with fail
    clear z0 z1 z2
    have hc := Check_any t n _ ps _ HG3.out.pds
    rw [HR.out] at hc
    refine hc.mono ?_
    rintro _ w4 ⟨rfl, hb⟩
    have HG : Hid (Gb w w.heap.size t n (.slice ao ps.length c) ps w4) := HG3.out.next hb
    have HMB0 : Hid (Gb w3 w3.heap.size 0 0 (.slice none 0 0) [] w4) := HMB3.out.next hb
    clear hc hb HG3 HMB3
    have y0 := HMB0.out.c0
    have y1 := HMB0.out.c1
    have y2 := HMB0.out.c2
    go_wp2_with fail
    refine (same_true 0 0 (.slice none 0 0) (.slice none 0 0) [] w4 (pds_nil _) (pds_nil _)).mono ?_
    rintro _ w5 ⟨rfl, hb⟩
    have HB5 : Hid (Below w.heap.size w w5) := (HG.out.next hb).below
    clear hb
    go_wp2_with fail
    go_ret
    exact ⟨by simp, HB5.out⟩

/-! ### What the walk gives, for every argument -/
set_option maxRecDepth 100000 in
theorem contract (H : Type) (enc : TypeId × Value → H) (W : World) (base : Nat) (args : Array Value) (ds gs : List (DataW H)) (before : List MemPlace)
    (hval : ∀ (j : Nat) t v, Try.f3.params[j]? = some t → args[j]? = some v → Value.okWide Try.prog W .any base t v)
    (hW : DataW.Whole enc Try.prog Try.f3.params.toList Rows.cfgSaysSpec.vars false W args.toList ds gs before) (hsz : (DataW.weightsEach Try.prog (Try.f3.params.toList ++ Rows.cfgSaysSpec.plain.varTypes Try.prog) (ds ++ gs)).all (· ≤ reachBytes) = true) :
    Calls Try.prog 3 args W fun e W' => ∃ v, e = .returned v ∧ Rows.cfgSaysSpec.post enc Try.prog Try.f3 false true false false W args v W' := by
  have hW' := hW
  obtain ⟨p, q, hA0, hV, rfl, hfz, hnd⟩ := hW
  have hA : DataW.TrodAll enc Try.prog W 0 (fun _ => true) true Try.f3.params.toList args.toList ds p := hA0
  rw [Try.params3] at hA hval hsz
  obtain ⟨v0, vs0, d0, ds0, p0, q0, hargs, rfl, rfl, h0, r0⟩ := trodAll_cons hA
  obtain ⟨v1, vs1, d1, ds1, p1, q1, rfl, rfl, rfl, h1, r1⟩ := trodAll_cons r0
  obtain ⟨rfl, rfl, rfl⟩ := trodAll_nil r1
  obtain rfl : args = #[v0, v1] := by cases args; simp_all
  obtain ⟨rfl, rfl⟩ := trodVars_none hV
  have k0 := h0
  have lt0 : ∀ x ∈ p0, x.block < W.heap.size := by obtain ⟨m, hm⟩ := k0; exact DataW.trod_lt m _ _ _ hm
  obtain ⟨a0t, a0n, a0s, a0p, rfl, w0s⟩ := open_gram (hval 0 24 v0 rfl rfl) h0
  obtain ⟨a1, rfl, rfl, rfl, w1⟩ := open_int Try.underlying3 (hval 1 3 v1 rfl rfl) h1
  clear hA0
  refine (walk a0t a0n a0s a0p a1 W w0s w1).mono fun e W' ⟨he, bel⟩ => ?_
  subst he
  exact ⟨_, rfl, _, _, _, [], _, [], hW', trodAll_mk1 (shut_bool Try.underlying4 _), (trodAll_cons_mk (Below.trod laidOut (by kernel_rfl) (of_decide_eq_true (by kernel_rfl)) k0 bel lt0) (trodAll_cons_mk (shut_int Try.underlying3 w1) trodAll_mk0)), rfl, bel.frame _, fun h => by cases h⟩

/-! ### The row's step -/
set_option maxRecDepth 100000 in
theorem lifted (os : Os) (started : os.Started) (H : Type) (enc : TypeId × Value → H) :
    ReturnsInHanded {} Try.checked os 3 .any (Rows.cfgSaysSpec.pre6 enc Try.prog Try.f3 Rows.cfgSaysRow.domain false) (Rows.cfgSaysSpec.post enc Try.prog Try.f3 false true false false) := by
  refine returnsInHanded_of_change_sized (C := Try.checked) own started (by kernel_rfl) Try.func3
    (ChangeSpec.witness6 (enc := enc) (C := Try.checked) false ⟨#[], #[.agg #[.int .i64 0, .int .i64 0, .slice none 0 0], .int .i64 0], []⟩ 8 (by kernel_rfl) (by kernel_rfl) (by kernel_rfl) (by kernel_rfl)) ?_
  intro W base args ds gs before hval hW hcnd hsz _
  exact contract H enc W base args ds gs before hval hW hsz

theorem over : Rows.cfgSaysRow.holds Try.pinned (OpenSpec.ofChange Rows.cfgSaysSpec) :=
  OpenClaim.holds_of_wide 3 Try.f3 rfl rfl rfl rfl rfl rfl rfl ⟨rfl, rfl, rfl, rfl, rfl⟩ rfl rfl rfl rfl rfl (by kernel_rfl) Try.func3 (by kernel_rfl)
    (of_decide_eq_true (by kernel_rfl)) (by unfold Func.isWrapper; first | (rw [if_pos (by decide +kernel)]; kernel_rfl) | (rw [if_neg (by decide +kernel)]; exact ⟨rfl, rfl⟩))
    (fun os started H enc _ => lifted os started H enc)

end Go.Proofs.Ytgoafahglajfmaa.cfgSays
namespace Go.Proofs.Ytgoafahglajfmaa
/-- The given statement. -/
theorem cfgSays_holds : Rows.CfgSaysSaid := cfgSays.over
#print axioms cfgSays_holds
end Go.Proofs.Ytgoafahglajfmaa
