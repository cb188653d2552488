/-
  LexerLongest returns true whatever packed automaton and text are handed in, and changes nothing that it was handed; no condition.
-/
import Derived.Test.YtlmlkpdppkgenaaRows
import Derived.WalkKit
import Derived.ProofKit
import Derived.OpenShut
import Derived.ShutString
import Derived.SizedLaws
import Derived.ChangeOld
import Derived.Below
import Derived.Carry
import Derived.WalkLawsBesides
import Derived.WalkSpells
import Derived.Deep.Cut
import Derived.BigQuiet
import Derived.Test.YtlmlkpdppkgenaaKeeps
import Derived.Test.YtlmlkpdppkgenaaWLg
namespace Go.Proofs.Ytlmlkpdppkgenaa.lexerLongest
open Go.ChangeShapes Go.WideShapes Go.ChangeAt Go.RowKit
open Go.ChangeMaps (open_string shut_string)
set_option linter.unusedVariables false

theorem own : ownKnob Try.prog.godebug = none := by kernel_rfl
theorem laidOut : laidOutB Try.prog = true := by kernel_rfl

/-! ### The walk: the Go text returns true. -/
set_option maxHeartbeats 16000000 in
set_option maxRecDepth 20000 in
theorem walk (a0O : Nat → Nat) (a0p a0t : Value) (a0n a0m : Nat) (a0L : Nat → Nat) (a0X : Nat → Nat → Int) (a0T : Nat → Int) (a1 : ByteArray) (w : World) (w0o : ∀ j, a0O j < 256) (w0s : Pk.Nx w a0p a0n a0L a0X) (w0u : Pk.Ts w a0t a0m a0T) (w1 : a1.size ≤ 140737488351232) :
    Calls Try.prog 7 #[.agg (Pk.pl a0O a0p a0t).toArray, .string a1] w fun e w' => e = .returned (.bool true) ∧ Below w.heap.size w w' := by
  obtain ⟨s, rfl⟩ : ∃ z, z = a1 := ⟨_, rfl⟩
  have HSZ : Hid (s.size ≤ 140737488351232) := w1
  obtain ⟨l, HL⟩ : ∃ l, Hid (Pk.pl a0O a0p a0t = l) := ⟨_, (rfl : _ = _)⟩
  have HLN : Hid (l.length = 258) := by rw [← HL.out]; exact Pk.pl_length _ _ _
  have HSI : Hid ((Try.prog.info? 54).map (·.size) = some l.length) := by show _ = _; rw [HLN.out]; exact Pk.size47
  have HX : Hid (Pk.Nx w a0p a0n a0L a0X ∧ Pk.Ts w a0t a0m a0T ∧ ∀ j, a0O j < 256) := ⟨w0s, w0u, w0o⟩
  rw [HL.out]
  have hbz := below_alloc1 w (Obj.cells l.toArray 54)
  have hrg := Pk.range_block w l 54
  obtain ⟨w0, HW0⟩ : ∃ z, Hid (w.alloc (Obj.cells l.toArray 54) = z) := ⟨_, (rfl : _ = _)⟩
  obtain ⟨gq, HGQ⟩ : ∃ z, Hid (w.heap.size = z) := ⟨_, (rfl : _ = _)⟩
  have hlt0 : gq < w0.heap.size := by rw [← HW0.out, ← HGQ.out]; simp
  rw [HW0.out] at hbz hrg
  rw [HGQ.out] at hrg
  have HB0 : Hid (Below w.heap.size w w0 ∧ w0.rangeAt gq 0 l ∧ gq < w0.heap.size) := ⟨hbz, hrg, hlt0⟩
  clear w0o w0s w0u w1 hbz hrg hlt0
  have hab := abc_any w0
  go_enter Try.func7, Try.ntmps7
  go_upto_region 1 with fail
  rw [HW0.out, HGQ.out]
  clear HW0
  go_wp2_with fail
  refine hab.mono ?_
  rintro _ w1 ⟨nv, tv, rfl, hnx, hts, hck, hb1⟩
  obtain ⟨l1, HL1⟩ : ∃ z, Hid (Pk.pl (Pk.ofp 5 abR) nv tv = z) := ⟨_, (rfl : _ = _)⟩
  have hlx := fun s hs => one_abc s w1 hs hnx hts hck
  rw [HL1.out] at hlx ⊢
  have HB1 : Hid (Below w0.heap.size w0 w1) := hb1
  clear hab hnx hts hck hb1
  go_wp2_with fail
  refine (hlx _ rfl).mono ?_
  rintro _ w2 ⟨rfl, hb2⟩
  have HB2x : Hid (Below w0.heap.size w0 w2) := HB1.out.trans (hb2.mono HB1.out.size)
  have hbz2 : Below w2.heap.size w2 (w2.alloc (Obj.cells #[.int .i64 1, .int .i64 0, .int .i64 2] 60)) := below_alloc1 w2 _
  have HB2 : Hid (Below w0.heap.size w0 (w2.alloc (Obj.cells #[.int .i64 1, .int .i64 0, .int .i64 2] 60))) := HB2x.out.trans (hbz2.mono HB2x.out.size)
  clear hlx hb2 HB1 hbz2 HB2x
  go_upto_region 4 with fail
  generalize (w2.alloc (Obj.cells #[.int .i64 1, .int .i64 0, .int .i64 2] 60)) = w2 at HB2 ⊢
  have HB3 : Hid (Below w.heap.size w w2) := HB0.out.1.trans (HB2.out.mono HB0.out.1.size)
  have HRG2 : Hid (w2.rangeAt gq 0 l ∧ gq < w2.heap.size) := ⟨fun j v hv => (HB2.out.cell (p := ⟨gq, 0 + j, none⟩) HB0.out.2.2).trans (HB0.out.2.1 j v hv), Nat.lt_of_lt_of_le HB0.out.2.2 HB2.out.size⟩
  have HXA : Hid (Pk.Nx w2 a0p a0n a0L a0X ∧ Pk.Ts w2 a0t a0m a0T ∧ ∀ j, a0O j < 256) := ⟨HX.out.1.below HB3.out (Nat.le_refl _), HX.out.2.1.below HB3.out (Nat.le_refl _), HX.out.2.2⟩
  clear HB0 HB2 HX
  by_cases hcut : 60 < s.size
  · have d0 : decide ((60 : Int) < (s.size : Int)) = true := by simp; omega
    have HS60 : Hid ((s.extract 0 60).size ≤ 60) := by show _ ≤ _; rw [ByteArray.size_extract]; omega
    have h60 : (60 : Int) ≤ (s.size : Int) := by omega
    go_upto_region 6 with fail
    clear d0 hcut h60
    generalize (s.extract 0 60) = s at HS60 ⊢
    by_cases hc : Pk.Dfa.chkP a0n a0m a0O a0L a0X a0T = 0
    · have hmn : a0m = a0n := (Pk.Dfa.chkP_zero hc).2.2.1
      subst hmn
      have hlx := Pk.lex_ok a0O a0p a0t a0m a0L a0X a0T s w2 HXA.out.2.2 HXA.out.1 HXA.out.2.1 hc (by have := HS60.out; omega)
      have hun := fun (w4 : World) (hb : Below w2.heap.size w2 w4) => Pk.unpack_ok a0O a0p a0t a0m a0L a0X a0T w4 HXA.out.2.2 (HXA.out.1.below hb (Nat.le_refl _)) (HXA.out.2.1.below hb (Nat.le_refl _)) hc
      have hck := Pk.Dfa.unpack_chk hc
      have HGD : Hid (∀ t ∈ (Pk.Dfa.all (Pk.RR a0m a0O a0X) a0T s.data.toList).1, Pk.Dfa.Good (Pk.RR a0m a0O a0X) a0T s.data.toList t) := Pk.Dfa.tk_good _ _ _ _ _
      rw [HL.out] at hlx
      have hun2 : ∀ (w4 : World), Below w2.heap.size w2 w4 → Calls Try.prog 21 #[.agg l.toArray] w4 fun e w' => ∃ rv tv', e = .returned (.tuple #[.agg #[rv, tv'], .int .i64 0]) ∧ Pk.Rw w' rv a0m (Pk.RR a0m a0O a0X) ∧ Pk.Ts w' tv' a0m a0T ∧ Below w4.heap.size w4 w' := fun w4 hb => by
        have := hun w4 hb
        rw [HL.out] at this
        exact this
      have HUN : Hid (∀ (w4 : World), Below w2.heap.size w2 w4 → Calls Try.prog 21 #[.agg l.toArray] w4 fun e w' => ∃ rv tv', e = .returned (.tuple #[.agg #[rv, tv'], .int .i64 0]) ∧ Pk.Rw w' rv a0m (Pk.RR a0m a0O a0X) ∧ Pk.Ts w' tv' a0m a0T ∧ Below w4.heap.size w4 w') := hun2
      clear hun hun2
      obtain ⟨R, HRR⟩ : ∃ z, Hid (Pk.RR a0m a0O a0X = z) := ⟨_, (rfl : _ = _)⟩
      rw [HRR.out] at hlx HUN hck HGD
      have HCK : Hid (Pk.Dfa.chk a0m a0m R a0T = 0) := hck
      obtain ⟨fs, HFS⟩ : ∃ z, Hid ((Pk.Dfa.all R a0T s.data.toList).1 = z) := ⟨_, (rfl : _ = _)⟩
      rw [HFS.out] at hlx HGD
      obtain ⟨tn, HTN⟩ : ∃ z, Hid (fs.length = z) := ⟨_, (rfl : _ = _)⟩
      have HTC : Hid (tn ≤ 60) := by
        rcases all_ch R a0T s.data.toList with ⟨-, hch⟩ | ⟨q, -, hq, hch⟩
        · have := ch_le _ _ _ hch
          rw [HFS.out, Pk.data_size, HTN.out] at this
          have := HS60.out
          show _ ≤ _; omega
        · have := ch_le _ _ _ hch
          rw [HFS.out, HTN.out] at this
          rw [Pk.data_size] at hq
          have := HS60.out
          show _ ≤ _; omega
      obtain ⟨at0, HAT⟩ : ∃ z : Nat, Hid ((Pk.Dfa.all R a0T s.data.toList).2.getD 0 = z) := ⟨_, (rfl : _ = _)⟩
      obtain ⟨er, HER⟩ : ∃ z, Hid (Pk.errOf (Pk.Dfa.all R a0T s.data.toList).2 = z) := ⟨_, (rfl : _ = _)⟩
      have her : er = 0 ∨ er = 9 := by
        rw [← HER.out]
        cases (Pk.Dfa.all R a0T s.data.toList).2 with
        | none => exact Or.inl rfl
        | some q => exact Or.inr rfl
      rw [HAT.out, HER.out] at hlx
      clear hc hck HXA HL HRR HFS HAT HER
      go_wp2_with (refine wpList_load_mid rfl 54 _ rfl gq 0 rfl l _ HRG2.out.1 Try.underlying54 rfl HSI.out ?_)
      refine hlx.mono ?_
      rintro _ w4 ⟨v4, rfl, ho4, hb4⟩
      have htk := tks_own ho4
      obtain ⟨ta, tq, hv4, -⟩ := id htk
      rw [HTN.out] at hv4
      rw [hv4] at htk ⊢
      have HTK : Hid (Tks w4 (.slice ta tn tq) fs) := htk
      have hun := HUN.out w4 hb4
      have HB4 : Hid (Below w.heap.size w w4) := HB3.out.trans (hb4.mono HB3.out.size)
      have HRG4 : Hid (w4.rangeAt gq 0 l) := fun j v hv => (hb4.cell (p := ⟨gq, 0 + j, none⟩) HRG2.out.2).trans (HRG2.out.1 j v hv)
      clear hlx ho4 hb4 htk hv4 v4 HUN
      go_wp2_with (refine wpList_load_mid rfl 54 _ rfl gq 0 rfl l _ HRG4.out Try.underlying54 rfl HSI.out ?_)
      refine hun.mono ?_
      rintro _ w5 ⟨rv, tv9, rfl, hrw, hts, hb5⟩
      have HB5x : Hid (Below w.heap.size w w5) := HB4.out.trans (hb5.mono HB4.out.size)
      have HTK5 : Hid (Tks w5 (.slice ta tn tq) fs) := HTK.out.next hb5
      obtain ⟨ra, rc, hre, -⟩ := id hrw
      obtain ⟨ua, uc, hue, -⟩ := id hts
      subst hre hue
      have hbz5 : Below w5.heap.size w5 (w5.alloc (Obj.cells #[.slice ra a0m rc, .slice ua a0m uc] 30)) := below_alloc1 w5 _
      have HM : Hid (Pk.Rw (w5.alloc (Obj.cells #[.slice ra a0m rc, .slice ua a0m uc] 30)) (.slice ra a0m rc) a0m R ∧ Pk.Ts (w5.alloc (Obj.cells #[.slice ra a0m rc, .slice ua a0m uc] 30)) (.slice ua a0m uc) a0m a0T ∧ Tks (w5.alloc (Obj.cells #[.slice ra a0m rc, .slice ua a0m uc] 30)) (.slice ta tn tq) fs ∧ Pk.Bb w5.heap.size (.slice ra a0m rc) (.slice ua a0m uc) (w5.alloc (Obj.cells #[.slice ra a0m rc, .slice ua a0m uc] 30)) ∧ Below w.heap.size w (w5.alloc (Obj.cells #[.slice ra a0m rc, .slice ua a0m uc] 30))) := ⟨hrw.below hbz5 (Nat.le_refl _), hts.below hbz5 (Nat.le_refl _), HTK5.out.next hbz5, Pk.Bb.box _ _ _ _, HB5x.out.trans (hbz5.mono HB5x.out.size)⟩
      clear hun hb5 hrw hts hbz5 HTK HTK5 HB4 HB5x HRG4 HRG2 HB3
      rcases her with rfl | rfl
      · go_upto_region 10 with fail
        have HM6 := HM
        generalize (w5.alloc (Obj.cells #[.slice ra a0m rc, .slice ua a0m uc] 30)) = w6 at HM HM6 ⊢
        generalize w5.heap.size = gd at HM HM6 ⊢
        have htn := HTC.out
        go_wp2_with fail
        go_loopw [69] (fun z wx => ∃ k : Nat, k ≤ tn ∧ z = .int .i64 (k : Int) ∧ Hid (Below w6.heap.size w6 wx)) (fun z _ => tn - (intOf z).toNat)
        case atStart => exact ⟨0, by omega, rfl, Below.refl _ _⟩
        case round =>
          obtain ⟨k, hk, rfl, HA⟩ := hrel
          by_cases hlt : k < tn
          · have hk0 : (0 : Int) ≤ (k : Int) := by omega
            have hk1 : (k : Int) < (tn : Int) := by omega
            have hkf : k < fs.length := by rw [HTN.out]; exact hlt
            obtain ⟨_, _, he, h9⟩ := HM.out.2.2.1.next HA.out
            simp only [Value.slice.injEq] at he
            obtain ⟨rfl, -, rfl⟩ := he
            obtain ⟨g, rfl, hg, hcs⟩ := h9.resolve_left (fun e => by rw [e] at hkf; simp at hkf)
            obtain ⟨y0, y1, y2⟩ := hcs k hkf
            have hgd := HGD.out _ (List.getElem_mem hkf)
            obtain ⟨r9, HR9⟩ : ∃ z, Hid ((fs[k]'hkf).1 = z) := ⟨_, (rfl : _ = _)⟩
            obtain ⟨a9, HA9⟩ : ∃ z, Hid ((fs[k]'hkf).2.1 = z) := ⟨_, (rfl : _ = _)⟩
            obtain ⟨b9, HB9⟩ : ∃ z, Hid ((fs[k]'hkf).2.2 = z) := ⟨_, (rfl : _ = _)⟩
            unfold Pk.Dfa.Good at hgd
            rw [HR9.out, HA9.out, HB9.out] at hgd
            rw [HR9.out] at y0
            rw [HA9.out] at y1
            rw [HB9.out] at y2
            rw [Pk.data_size] at hgd
            obtain ⟨q1, q2, q3, q4, q5⟩ := hgd
            have HQ : Hid (r9 = Pk.Dfa.tagOf a0T (Pk.Dfa.goes R 0 ((s.data.toList.drop a9).take (b9 - a9))) ∧ ∀ b, b9 < b → b ≤ s.size → Pk.Dfa.tagOf a0T (Pk.Dfa.goes R 0 ((s.data.toList.drop a9).take (b - a9))) < 0) := ⟨q3, q5⟩
            have hbz : Below wr.heap.size wr (wr.alloc (Obj.cells #[.int .i64 r9, .int .i64 (a9 : Int), .int .i64 (b9 : Int)] 60)) := below_alloc1 wr _
            have HNX : Hid (Below w6.heap.size w6 (wr.alloc (Obj.cells #[.int .i64 r9, .int .i64 (a9 : Int), .int .i64 (b9 : Int)] 60))) := HA.out.trans (hbz.mono HA.out.size)
            have HC3 : Hid (Pk.T3 wr.heap.size r9 a9 b9 (wr.alloc (Obj.cells #[.int .i64 r9, .int .i64 (a9 : Int), .int .i64 (b9 : Int)] 60))) := Pk.T3.box _ _ _ _
            have hs60 := HS60.out
            clear hcs h9 hbz HA q3 q4 q5 HR9 HA9 HB9
            go_upto_region 13 with fail
            generalize (wr.alloc (Obj.cells #[.int .i64 r9, .int .i64 (a9 : Int), .int .i64 (b9 : Int)] 60)) = w7 at HNX HC3 ⊢
            generalize wr.heap.size = gt at HC3 ⊢
            clear y0 y1 y2
            have hne : Nonempty (Kp (Sb w7)) := ⟨⟨_, Sb.drew w7⟩⟩
            have k0 : ∀ p : Kp (Sb w7), p.W.cell? ⟨gt, 0, none⟩ = some (.int .i64 r9) := fun p => (HC3.out.next p.h).c0
            have k1 : ∀ p : Kp (Sb w7), p.W.cell? ⟨gt, 1, none⟩ = some (.int .i64 (a9 : Int)) := fun p => (HC3.out.next p.h).c1
            have k2 : ∀ p : Kp (Sb w7), p.W.cell? ⟨gt, 2, none⟩ = some (.int .i64 (b9 : Int)) := fun p => (HC3.out.next p.h).c2
            have k3 : ∀ p : Kp (Sb w7), p.W.cell? ⟨gd, 0, none⟩ = some (.slice ra a0m rc) := fun p => ((HM.out.2.2.2.1.next HNX.out).next p.h).c0
            have k4 : ∀ p : Kp (Sb w7), p.W.cell? ⟨gd, 1, none⟩ = some (.slice ua a0m uc) := fun p => ((HM.out.2.2.2.1.next HNX.out).next p.h).c1
            have HC1 : Hid (∀ p : Kp (Sb w7), Calls Try.prog 15 #[.agg #[.slice ra a0m rc, .slice ua a0m uc], .string (s.extract a9 b9)] p.W fun e w'' => e = .returned (.tuple #[.int .i64 r9, .int .i64 0]) ∧ ∃ q : Kp (Sb w7), w'' = q.W) := fun p => by
              have hb := HNX.out.trans (Below.mono p.h HNX.out.size)
              have := Pk.Tag_any (.slice ra a0m rc) (.slice ua a0m uc) a0m a0m R a0T (s.extract a9 b9) p.W (HM.out.1.below hb (Nat.le_refl _)) (HM.out.2.1.below hb (Nat.le_refl _)) (by have := ext_size s a9 b9 q2; omega)
              rw [Pk.Dfa.tagAns_ok HCK.out, HCK.out, ext_data, ← HQ.out.1] at this
              exact Kp.calls p Sb.next this
            have hee : (r9 != r9) = false := by simp
            have ha9 : (0 : Int) ≤ (a9 : Int) := by omega
            have hab9 : (a9 : Int) ≤ (b9 : Int) := by omega
            have hbs9 : (b9 : Int) ≤ (s.size : Int) := by omega
            refine wp_region_kept mixed (by kernel_rfl) (Sb.drew w7) ?_
            repeat (go_big_quiet_step (first | (go_at_call 15; with_reducible exact HC1.out _)))
            refine wpQuiet_nil ?_
            intro W2 hw2
            obtain ⟨p2, rfl⟩ := hw2
            have HNX8 : Hid (Below w6.heap.size w6 p2.W) := HNX.out.trans (Below.mono p2.h HNX.out.size)
            have HC8 : Hid (Pk.T3 gt r9 a9 b9 p2.W) := HC3.out.next p2.h
            generalize p2.W = w8 at HNX8 HC8 ⊢
            clear k0 k1 k2 k3 k4 HC1 hne p2 HNX HC3
            have y0 := HC8.out.c0
            have y2 := HC8.out.c2
            go_wp2_with fail
            clear y0 y2 hee
            go_loopw [17] (fun z wx => ∃ m : Nat, b9 < m ∧ m ≤ s.size + 1 ∧ z = .int .i64 (m : Int) ∧ Hid (Below w8.heap.size w8 wx)) (fun z _ => s.size + 1 - (intOf z).toNat)
            case atStart => exact ⟨b9 + 1, by omega, by omega, by go_num, Below.refl _ _⟩
            case round =>
              obtain ⟨m, hm1, hm2, rfl, HA⟩ := hrel
              have HC9 : Hid (Pk.T3 gt r9 a9 b9 wr) := HC8.out.next HA.out
              have y2 := HC9.out.c2
              by_cases hm3 : m ≤ s.size
              · have d1 : decide ((m : Int) ≤ (s.size : Int)) = true := by simp; omega
                by_cases hm4 : (m : Int) < (b9 : Int) + 40
                · have d2 : decide ((m : Int) < (b9 : Int) + 40) = true := by simpa using hm4
                  obtain ⟨t9, HT9⟩ : ∃ z, Hid (Pk.Dfa.tagOf a0T (Pk.Dfa.goes R 0 ((s.data.toList.drop a9).take (m - a9))) = z) := ⟨_, (rfl : _ = _)⟩
                  have htneg : t9 < 0 := by rw [← HT9.out]; exact HQ.out.2 m hm1 hm3
                  have d3 : decide ((0 : Int) ≤ t9) = false := by simp; omega
                  have HNX9 : Hid (Below w6.heap.size w6 wr) := HNX8.out.trans (HA.out.mono HNX8.out.size)
                  have hne : Nonempty (Kp (Sb wr)) := ⟨⟨_, Sb.drew wr⟩⟩
                  have k1 : ∀ p : Kp (Sb wr), p.W.cell? ⟨gt, 1, none⟩ = some (.int .i64 (a9 : Int)) := fun p => (HC9.out.next p.h).c1
                  have k3 : ∀ p : Kp (Sb wr), p.W.cell? ⟨gd, 0, none⟩ = some (.slice ra a0m rc) := fun p => ((HM.out.2.2.2.1.next HNX9.out).next p.h).c0
                  have k4 : ∀ p : Kp (Sb wr), p.W.cell? ⟨gd, 1, none⟩ = some (.slice ua a0m uc) := fun p => ((HM.out.2.2.2.1.next HNX9.out).next p.h).c1
                  have HC1 : Hid (∀ p : Kp (Sb wr), Calls Try.prog 15 #[.agg #[.slice ra a0m rc, .slice ua a0m uc], .string (s.extract a9 m)] p.W fun e w'' => e = .returned (.tuple #[.int .i64 t9, .int .i64 0]) ∧ ∃ q : Kp (Sb wr), w'' = q.W) := fun p => by
                    have hb := HNX9.out.trans (Below.mono p.h HNX9.out.size)
                    have := Pk.Tag_any (.slice ra a0m rc) (.slice ua a0m uc) a0m a0m R a0T (s.extract a9 m) p.W (HM.out.1.below hb (Nat.le_refl _)) (HM.out.2.1.below hb (Nat.le_refl _)) (by have := ext_size s a9 m hm3; omega)
                    rw [Pk.Dfa.tagAns_ok HCK.out, HCK.out, ext_data, HT9.out] at this
                    exact Kp.calls p Sb.next this
                  have hab8 : (a9 : Int) ≤ (m : Int) := by omega
                  have hbs8 : (m : Int) ≤ (s.size : Int) := by omega
                  clear hm4 htneg
                  go_upto_region 19 with fail
                  refine wp_region_kept mixed (by kernel_rfl) (Sb.drew wr) ?_
                  repeat (go_big_quiet_step (first | (go_at_call 15; with_reducible exact HC1.out _)))
                  refine wpQuiet_nil ?_
                  intro W2 hw2
                  obtain ⟨p2, rfl⟩ := hw2
                  have HA2 : Hid (Below w8.heap.size w8 p2.W) := HA.out.trans (Below.mono p2.h HA.out.size)
                  generalize p2.W = w9 at HA2 ⊢
                  clear k1 k3 k4 HC1 hne p2 y2 d2
                  go_wp2_with fail
                  go_roundw
                  case rel => exact ⟨m + 1, by omega, by omega, by go_num, HA2⟩
                  case measure => simp [intOf]; omega
                · have d2 : decide ((m : Int) < (b9 : Int) + 40) = false := by simpa using hm4
                  have HA2 : Hid (Below w6.heap.size w6 wr) := HNX8.out.trans (HA.out.mono HNX8.out.size)
                  clear hm4
                  go_wp2_with fail
                  clear y2
                  go_roundw
                  case rel => exact ⟨k + 1, by omega, by go_num, HA2⟩
                  case measure => simp [intOf]; omega
              · have d1 : decide ((m : Int) ≤ (s.size : Int)) = false := by simp; omega
                have HA2 : Hid (Below w6.heap.size w6 wr) := HNX8.out.trans (HA.out.mono HNX8.out.size)
                go_wp2_with fail
                clear y2
                go_roundw
                case rel => exact ⟨k + 1, by omega, by go_num, HA2⟩
                case measure => simp [intOf]; omega
          · have HBE : Hid (Below w.heap.size w wr) := HM.out.2.2.2.2.trans (HA.out.mono HM.out.2.2.2.2.size)
            clear HA
            go_wp2_with fail
            go_ret
            exact ⟨by simp, HBE.out⟩
      · go_upto_region 10 with fail
        have HM6 := HM
        generalize (w5.alloc (Obj.cells #[.slice ra a0m rc, .slice ua a0m uc] 30)) = w6 at HM HM6 ⊢
        generalize w5.heap.size = gd at HM HM6 ⊢
        have htn := HTC.out
        go_wp2_with fail
        go_loopw [69] (fun z wx => ∃ k : Nat, k ≤ tn ∧ z = .int .i64 (k : Int) ∧ Hid (Below w6.heap.size w6 wx)) (fun z _ => tn - (intOf z).toNat)
        case atStart => exact ⟨0, by omega, rfl, Below.refl _ _⟩
        case round =>
          obtain ⟨k, hk, rfl, HA⟩ := hrel
          by_cases hlt : k < tn
          · have hk0 : (0 : Int) ≤ (k : Int) := by omega
            have hk1 : (k : Int) < (tn : Int) := by omega
            have hkf : k < fs.length := by rw [HTN.out]; exact hlt
            obtain ⟨_, _, he, h9⟩ := HM.out.2.2.1.next HA.out
            simp only [Value.slice.injEq] at he
            obtain ⟨rfl, -, rfl⟩ := he
            obtain ⟨g, rfl, hg, hcs⟩ := h9.resolve_left (fun e => by rw [e] at hkf; simp at hkf)
            obtain ⟨y0, y1, y2⟩ := hcs k hkf
            have hgd := HGD.out _ (List.getElem_mem hkf)
            obtain ⟨r9, HR9⟩ : ∃ z, Hid ((fs[k]'hkf).1 = z) := ⟨_, (rfl : _ = _)⟩
            obtain ⟨a9, HA9⟩ : ∃ z, Hid ((fs[k]'hkf).2.1 = z) := ⟨_, (rfl : _ = _)⟩
            obtain ⟨b9, HB9⟩ : ∃ z, Hid ((fs[k]'hkf).2.2 = z) := ⟨_, (rfl : _ = _)⟩
            unfold Pk.Dfa.Good at hgd
            rw [HR9.out, HA9.out, HB9.out] at hgd
            rw [HR9.out] at y0
            rw [HA9.out] at y1
            rw [HB9.out] at y2
            rw [Pk.data_size] at hgd
            obtain ⟨q1, q2, q3, q4, q5⟩ := hgd
            have HQ : Hid (r9 = Pk.Dfa.tagOf a0T (Pk.Dfa.goes R 0 ((s.data.toList.drop a9).take (b9 - a9))) ∧ ∀ b, b9 < b → b ≤ s.size → Pk.Dfa.tagOf a0T (Pk.Dfa.goes R 0 ((s.data.toList.drop a9).take (b - a9))) < 0) := ⟨q3, q5⟩
            have hbz : Below wr.heap.size wr (wr.alloc (Obj.cells #[.int .i64 r9, .int .i64 (a9 : Int), .int .i64 (b9 : Int)] 60)) := below_alloc1 wr _
            have HNX : Hid (Below w6.heap.size w6 (wr.alloc (Obj.cells #[.int .i64 r9, .int .i64 (a9 : Int), .int .i64 (b9 : Int)] 60))) := HA.out.trans (hbz.mono HA.out.size)
            have HC3 : Hid (Pk.T3 wr.heap.size r9 a9 b9 (wr.alloc (Obj.cells #[.int .i64 r9, .int .i64 (a9 : Int), .int .i64 (b9 : Int)] 60))) := Pk.T3.box _ _ _ _
            have hs60 := HS60.out
            clear hcs h9 hbz HA q3 q4 q5 HR9 HA9 HB9
            go_upto_region 13 with fail
            generalize (wr.alloc (Obj.cells #[.int .i64 r9, .int .i64 (a9 : Int), .int .i64 (b9 : Int)] 60)) = w7 at HNX HC3 ⊢
            generalize wr.heap.size = gt at HC3 ⊢
            clear y0 y1 y2
            have hne : Nonempty (Kp (Sb w7)) := ⟨⟨_, Sb.drew w7⟩⟩
            have k0 : ∀ p : Kp (Sb w7), p.W.cell? ⟨gt, 0, none⟩ = some (.int .i64 r9) := fun p => (HC3.out.next p.h).c0
            have k1 : ∀ p : Kp (Sb w7), p.W.cell? ⟨gt, 1, none⟩ = some (.int .i64 (a9 : Int)) := fun p => (HC3.out.next p.h).c1
            have k2 : ∀ p : Kp (Sb w7), p.W.cell? ⟨gt, 2, none⟩ = some (.int .i64 (b9 : Int)) := fun p => (HC3.out.next p.h).c2
            have k3 : ∀ p : Kp (Sb w7), p.W.cell? ⟨gd, 0, none⟩ = some (.slice ra a0m rc) := fun p => ((HM.out.2.2.2.1.next HNX.out).next p.h).c0
            have k4 : ∀ p : Kp (Sb w7), p.W.cell? ⟨gd, 1, none⟩ = some (.slice ua a0m uc) := fun p => ((HM.out.2.2.2.1.next HNX.out).next p.h).c1
            have HC1 : Hid (∀ p : Kp (Sb w7), Calls Try.prog 15 #[.agg #[.slice ra a0m rc, .slice ua a0m uc], .string (s.extract a9 b9)] p.W fun e w'' => e = .returned (.tuple #[.int .i64 r9, .int .i64 0]) ∧ ∃ q : Kp (Sb w7), w'' = q.W) := fun p => by
              have hb := HNX.out.trans (Below.mono p.h HNX.out.size)
              have := Pk.Tag_any (.slice ra a0m rc) (.slice ua a0m uc) a0m a0m R a0T (s.extract a9 b9) p.W (HM.out.1.below hb (Nat.le_refl _)) (HM.out.2.1.below hb (Nat.le_refl _)) (by have := ext_size s a9 b9 q2; omega)
              rw [Pk.Dfa.tagAns_ok HCK.out, HCK.out, ext_data, ← HQ.out.1] at this
              exact Kp.calls p Sb.next this
            have hee : (r9 != r9) = false := by simp
            have ha9 : (0 : Int) ≤ (a9 : Int) := by omega
            have hab9 : (a9 : Int) ≤ (b9 : Int) := by omega
            have hbs9 : (b9 : Int) ≤ (s.size : Int) := by omega
            refine wp_region_kept mixed (by kernel_rfl) (Sb.drew w7) ?_
            repeat (go_big_quiet_step (first | (go_at_call 15; with_reducible exact HC1.out _)))
            refine wpQuiet_nil ?_
            intro W2 hw2
            obtain ⟨p2, rfl⟩ := hw2
            have HNX8 : Hid (Below w6.heap.size w6 p2.W) := HNX.out.trans (Below.mono p2.h HNX.out.size)
            have HC8 : Hid (Pk.T3 gt r9 a9 b9 p2.W) := HC3.out.next p2.h
            generalize p2.W = w8 at HNX8 HC8 ⊢
            clear k0 k1 k2 k3 k4 HC1 hne p2 HNX HC3
            have y0 := HC8.out.c0
            have y2 := HC8.out.c2
            go_wp2_with fail
            clear y0 y2 hee
            go_loopw [17] (fun z wx => ∃ m : Nat, b9 < m ∧ m ≤ s.size + 1 ∧ z = .int .i64 (m : Int) ∧ Hid (Below w8.heap.size w8 wx)) (fun z _ => s.size + 1 - (intOf z).toNat)
            case atStart => exact ⟨b9 + 1, by omega, by omega, by go_num, Below.refl _ _⟩
            case round =>
              obtain ⟨m, hm1, hm2, rfl, HA⟩ := hrel
              have HC9 : Hid (Pk.T3 gt r9 a9 b9 wr) := HC8.out.next HA.out
              have y2 := HC9.out.c2
              by_cases hm3 : m ≤ s.size
              · have d1 : decide ((m : Int) ≤ (s.size : Int)) = true := by simp; omega
                by_cases hm4 : (m : Int) < (b9 : Int) + 40
                · have d2 : decide ((m : Int) < (b9 : Int) + 40) = true := by simpa using hm4
                  obtain ⟨t9, HT9⟩ : ∃ z, Hid (Pk.Dfa.tagOf a0T (Pk.Dfa.goes R 0 ((s.data.toList.drop a9).take (m - a9))) = z) := ⟨_, (rfl : _ = _)⟩
                  have htneg : t9 < 0 := by rw [← HT9.out]; exact HQ.out.2 m hm1 hm3
                  have d3 : decide ((0 : Int) ≤ t9) = false := by simp; omega
                  have HNX9 : Hid (Below w6.heap.size w6 wr) := HNX8.out.trans (HA.out.mono HNX8.out.size)
                  have hne : Nonempty (Kp (Sb wr)) := ⟨⟨_, Sb.drew wr⟩⟩
                  have k1 : ∀ p : Kp (Sb wr), p.W.cell? ⟨gt, 1, none⟩ = some (.int .i64 (a9 : Int)) := fun p => (HC9.out.next p.h).c1
                  have k3 : ∀ p : Kp (Sb wr), p.W.cell? ⟨gd, 0, none⟩ = some (.slice ra a0m rc) := fun p => ((HM.out.2.2.2.1.next HNX9.out).next p.h).c0
                  have k4 : ∀ p : Kp (Sb wr), p.W.cell? ⟨gd, 1, none⟩ = some (.slice ua a0m uc) := fun p => ((HM.out.2.2.2.1.next HNX9.out).next p.h).c1
                  have HC1 : Hid (∀ p : Kp (Sb wr), Calls Try.prog 15 #[.agg #[.slice ra a0m rc, .slice ua a0m uc], .string (s.extract a9 m)] p.W fun e w'' => e = .returned (.tuple #[.int .i64 t9, .int .i64 0]) ∧ ∃ q : Kp (Sb wr), w'' = q.W) := fun p => by
                    have hb := HNX9.out.trans (Below.mono p.h HNX9.out.size)
                    have := Pk.Tag_any (.slice ra a0m rc) (.slice ua a0m uc) a0m a0m R a0T (s.extract a9 m) p.W (HM.out.1.below hb (Nat.le_refl _)) (HM.out.2.1.below hb (Nat.le_refl _)) (by have := ext_size s a9 m hm3; omega)
                    rw [Pk.Dfa.tagAns_ok HCK.out, HCK.out, ext_data, HT9.out] at this
                    exact Kp.calls p Sb.next this
                  have hab8 : (a9 : Int) ≤ (m : Int) := by omega
                  have hbs8 : (m : Int) ≤ (s.size : Int) := by omega
                  clear hm4 htneg
                  go_upto_region 19 with fail
                  refine wp_region_kept mixed (by kernel_rfl) (Sb.drew wr) ?_
                  repeat (go_big_quiet_step (first | (go_at_call 15; with_reducible exact HC1.out _)))
                  refine wpQuiet_nil ?_
                  intro W2 hw2
                  obtain ⟨p2, rfl⟩ := hw2
                  have HA2 : Hid (Below w8.heap.size w8 p2.W) := HA.out.trans (Below.mono p2.h HA.out.size)
                  generalize p2.W = w9 at HA2 ⊢
                  clear k1 k3 k4 HC1 hne p2 y2 d2
                  go_wp2_with fail
                  go_roundw
                  case rel => exact ⟨m + 1, by omega, by omega, by go_num, HA2⟩
                  case measure => simp [intOf]; omega
                · have d2 : decide ((m : Int) < (b9 : Int) + 40) = false := by simpa using hm4
                  have HA2 : Hid (Below w6.heap.size w6 wr) := HNX8.out.trans (HA.out.mono HNX8.out.size)
                  clear hm4
                  go_wp2_with fail
                  clear y2
                  go_roundw
                  case rel => exact ⟨k + 1, by omega, by go_num, HA2⟩
                  case measure => simp [intOf]; omega
              · have d1 : decide ((m : Int) ≤ (s.size : Int)) = false := by simp; omega
                have HA2 : Hid (Below w6.heap.size w6 wr) := HNX8.out.trans (HA.out.mono HNX8.out.size)
                go_wp2_with fail
                clear y2
                go_roundw
                case rel => exact ⟨k + 1, by omega, by go_num, HA2⟩
                case measure => simp [intOf]; omega
          · have HBE : Hid (Below w.heap.size w wr) := HM.out.2.2.2.2.trans (HA.out.mono HM.out.2.2.2.2.size)
            clear HA
            go_wp2_with fail
            go_ret
            exact ⟨by simp, HBE.out⟩
    · have hc2 : ¬ Pk.chkS a0n a0m a0O a0L a0X a0T s.size = 0 := by unfold Pk.chkS; rw [if_neg hc]; exact hc
      have hlx := Pk.lex_bad a0O a0p a0t a0n a0m a0L a0X a0T s w2 HXA.out.2.2 HXA.out.1 HXA.out.2.1 (by have := HS60.out; omega) hc2
      have h9 := chkS_nine a0n a0m a0O a0L a0X a0T s.size
      have hun := fun (w4 : World) (hb : Below w2.heap.size w2 w4) => Pk.unpack_bad a0O a0p a0t a0n a0m a0L a0X a0T w4 HXA.out.2.2 (HXA.out.1.below hb (Nat.le_refl _)) (HXA.out.2.1.below hb (Nat.le_refl _)) hc
      rw [HL.out] at hlx
      obtain ⟨z, HZ⟩ : ∃ z, Hid (Pk.chkS a0n a0m a0O a0L a0X a0T s.size = z) := ⟨_, (rfl : _ = _)⟩
      rw [HZ.out] at hlx hc2 h9
      obtain ⟨z2, HZ2⟩ : ∃ z, Hid (Pk.Dfa.chkP a0n a0m a0O a0L a0X a0T = z) := ⟨_, (rfl : _ = _)⟩
      have HUN : Hid (∀ (w4 : World), Below w2.heap.size w2 w4 → Calls Try.prog 21 #[.agg l.toArray] w4 fun e w' => e = .returned (.tuple #[.agg #[.slice none 0 0, .slice none 0 0], .int .i64 z2]) ∧ Below w4.heap.size w4 w') := fun w4 hb => by
        have := hun w4 hb
        rw [HL.out, HZ2.out] at this
        exact this
      have b0 : (z != 0) = true := by simpa using hc2
      have b9 : (z != 9) = true := by simpa using h9
      clear hc hc2 h9 HXA HL HZ HZ2 hun
      go_wp2_with (refine wpList_load_mid rfl 54 _ rfl gq 0 rfl l _ HRG2.out.1 Try.underlying54 rfl HSI.out ?_)
      refine hlx.mono ?_
      rintro _ w4 ⟨rfl, hb4⟩
      have hun := HUN.out w4 hb4
      have HB4 : Hid (Below w.heap.size w w4) := HB3.out.trans (hb4.mono HB3.out.size)
      have HRG4 : Hid (w4.rangeAt gq 0 l) := fun j v hv => (hb4.cell (p := ⟨gq, 0 + j, none⟩) HRG2.out.2).trans (HRG2.out.1 j v hv)
      clear hlx hb4 HUN
      go_wp2_with (refine wpList_load_mid rfl 54 _ rfl gq 0 rfl l _ HRG4.out Try.underlying54 rfl HSI.out ?_)
      refine hun.mono ?_
      rintro _ w5 ⟨rfl, hb5⟩
      have HB5x : Hid (Below w.heap.size w w5) := HB4.out.trans (hb5.mono HB4.out.size)
      have hbz5 : Below w5.heap.size w5 (w5.alloc (Obj.cells #[.slice none 0 0, .slice none 0 0] 30)) := below_alloc1 w5 _
      have HB5 : Hid (Below w.heap.size w (w5.alloc (Obj.cells #[.slice none 0 0, .slice none 0 0] 30))) := HB5x.out.trans (hbz5.mono HB5x.out.size)
      clear hun hb5 hbz5 HB5x
      go_wp2_with fail
      go_ret
      exact ⟨by simp, HB5.out⟩
  · have d0 : decide ((60 : Int) < (s.size : Int)) = false := by simp; omega
    have HS60 : Hid (s.size ≤ 60) := by show _ ≤ _; omega
    clear hcut
    go_upto_region 6 with fail
    clear d0
    by_cases hc : Pk.Dfa.chkP a0n a0m a0O a0L a0X a0T = 0
    · have hmn : a0m = a0n := (Pk.Dfa.chkP_zero hc).2.2.1
      subst hmn
      have hlx := Pk.lex_ok a0O a0p a0t a0m a0L a0X a0T s w2 HXA.out.2.2 HXA.out.1 HXA.out.2.1 hc (by have := HS60.out; omega)
      have hun := fun (w4 : World) (hb : Below w2.heap.size w2 w4) => Pk.unpack_ok a0O a0p a0t a0m a0L a0X a0T w4 HXA.out.2.2 (HXA.out.1.below hb (Nat.le_refl _)) (HXA.out.2.1.below hb (Nat.le_refl _)) hc
      have hck := Pk.Dfa.unpack_chk hc
      have HGD : Hid (∀ t ∈ (Pk.Dfa.all (Pk.RR a0m a0O a0X) a0T s.data.toList).1, Pk.Dfa.Good (Pk.RR a0m a0O a0X) a0T s.data.toList t) := Pk.Dfa.tk_good _ _ _ _ _
      rw [HL.out] at hlx
      have hun2 : ∀ (w4 : World), Below w2.heap.size w2 w4 → Calls Try.prog 21 #[.agg l.toArray] w4 fun e w' => ∃ rv tv', e = .returned (.tuple #[.agg #[rv, tv'], .int .i64 0]) ∧ Pk.Rw w' rv a0m (Pk.RR a0m a0O a0X) ∧ Pk.Ts w' tv' a0m a0T ∧ Below w4.heap.size w4 w' := fun w4 hb => by
        have := hun w4 hb
        rw [HL.out] at this
        exact this
      have HUN : Hid (∀ (w4 : World), Below w2.heap.size w2 w4 → Calls Try.prog 21 #[.agg l.toArray] w4 fun e w' => ∃ rv tv', e = .returned (.tuple #[.agg #[rv, tv'], .int .i64 0]) ∧ Pk.Rw w' rv a0m (Pk.RR a0m a0O a0X) ∧ Pk.Ts w' tv' a0m a0T ∧ Below w4.heap.size w4 w') := hun2
      clear hun hun2
      obtain ⟨R, HRR⟩ : ∃ z, Hid (Pk.RR a0m a0O a0X = z) := ⟨_, (rfl : _ = _)⟩
      rw [HRR.out] at hlx HUN hck HGD
      have HCK : Hid (Pk.Dfa.chk a0m a0m R a0T = 0) := hck
      obtain ⟨fs, HFS⟩ : ∃ z, Hid ((Pk.Dfa.all R a0T s.data.toList).1 = z) := ⟨_, (rfl : _ = _)⟩
      rw [HFS.out] at hlx HGD
      obtain ⟨tn, HTN⟩ : ∃ z, Hid (fs.length = z) := ⟨_, (rfl : _ = _)⟩
      have HTC : Hid (tn ≤ 60) := by
        rcases all_ch R a0T s.data.toList with ⟨-, hch⟩ | ⟨q, -, hq, hch⟩
        · have := ch_le _ _ _ hch
          rw [HFS.out, Pk.data_size, HTN.out] at this
          have := HS60.out
          show _ ≤ _; omega
        · have := ch_le _ _ _ hch
          rw [HFS.out, HTN.out] at this
          rw [Pk.data_size] at hq
          have := HS60.out
          show _ ≤ _; omega
      obtain ⟨at0, HAT⟩ : ∃ z : Nat, Hid ((Pk.Dfa.all R a0T s.data.toList).2.getD 0 = z) := ⟨_, (rfl : _ = _)⟩
      obtain ⟨er, HER⟩ : ∃ z, Hid (Pk.errOf (Pk.Dfa.all R a0T s.data.toList).2 = z) := ⟨_, (rfl : _ = _)⟩
      have her : er = 0 ∨ er = 9 := by
        rw [← HER.out]
        cases (Pk.Dfa.all R a0T s.data.toList).2 with
        | none => exact Or.inl rfl
        | some q => exact Or.inr rfl
      rw [HAT.out, HER.out] at hlx
      clear hc hck HXA HL HRR HFS HAT HER
      go_wp2_with (refine wpList_load_mid rfl 54 _ rfl gq 0 rfl l _ HRG2.out.1 Try.underlying54 rfl HSI.out ?_)
      refine hlx.mono ?_
      rintro _ w4 ⟨v4, rfl, ho4, hb4⟩
      have htk := tks_own ho4
      obtain ⟨ta, tq, hv4, -⟩ := id htk
      rw [HTN.out] at hv4
      rw [hv4] at htk ⊢
      have HTK : Hid (Tks w4 (.slice ta tn tq) fs) := htk
      have hun := HUN.out w4 hb4
      have HB4 : Hid (Below w.heap.size w w4) := HB3.out.trans (hb4.mono HB3.out.size)
      have HRG4 : Hid (w4.rangeAt gq 0 l) := fun j v hv => (hb4.cell (p := ⟨gq, 0 + j, none⟩) HRG2.out.2).trans (HRG2.out.1 j v hv)
      clear hlx ho4 hb4 htk hv4 v4 HUN
      go_wp2_with (refine wpList_load_mid rfl 54 _ rfl gq 0 rfl l _ HRG4.out Try.underlying54 rfl HSI.out ?_)
      refine hun.mono ?_
      rintro _ w5 ⟨rv, tv9, rfl, hrw, hts, hb5⟩
      have HB5x : Hid (Below w.heap.size w w5) := HB4.out.trans (hb5.mono HB4.out.size)
      have HTK5 : Hid (Tks w5 (.slice ta tn tq) fs) := HTK.out.next hb5
      obtain ⟨ra, rc, hre, -⟩ := id hrw
      obtain ⟨ua, uc, hue, -⟩ := id hts
      subst hre hue
      have hbz5 : Below w5.heap.size w5 (w5.alloc (Obj.cells #[.slice ra a0m rc, .slice ua a0m uc] 30)) := below_alloc1 w5 _
      have HM : Hid (Pk.Rw (w5.alloc (Obj.cells #[.slice ra a0m rc, .slice ua a0m uc] 30)) (.slice ra a0m rc) a0m R ∧ Pk.Ts (w5.alloc (Obj.cells #[.slice ra a0m rc, .slice ua a0m uc] 30)) (.slice ua a0m uc) a0m a0T ∧ Tks (w5.alloc (Obj.cells #[.slice ra a0m rc, .slice ua a0m uc] 30)) (.slice ta tn tq) fs ∧ Pk.Bb w5.heap.size (.slice ra a0m rc) (.slice ua a0m uc) (w5.alloc (Obj.cells #[.slice ra a0m rc, .slice ua a0m uc] 30)) ∧ Below w.heap.size w (w5.alloc (Obj.cells #[.slice ra a0m rc, .slice ua a0m uc] 30))) := ⟨hrw.below hbz5 (Nat.le_refl _), hts.below hbz5 (Nat.le_refl _), HTK5.out.next hbz5, Pk.Bb.box _ _ _ _, HB5x.out.trans (hbz5.mono HB5x.out.size)⟩
      clear hun hb5 hrw hts hbz5 HTK HTK5 HB4 HB5x HRG4 HRG2 HB3
      rcases her with rfl | rfl
      · go_upto_region 10 with fail
        have HM6 := HM
        generalize (w5.alloc (Obj.cells #[.slice ra a0m rc, .slice ua a0m uc] 30)) = w6 at HM HM6 ⊢
        generalize w5.heap.size = gd at HM HM6 ⊢
        have htn := HTC.out
        go_wp2_with fail
        go_loopw [69] (fun z wx => ∃ k : Nat, k ≤ tn ∧ z = .int .i64 (k : Int) ∧ Hid (Below w6.heap.size w6 wx)) (fun z _ => tn - (intOf z).toNat)
        case atStart => exact ⟨0, by omega, rfl, Below.refl _ _⟩
        case round =>
          obtain ⟨k, hk, rfl, HA⟩ := hrel
          by_cases hlt : k < tn
          · have hk0 : (0 : Int) ≤ (k : Int) := by omega
            have hk1 : (k : Int) < (tn : Int) := by omega
            have hkf : k < fs.length := by rw [HTN.out]; exact hlt
            obtain ⟨_, _, he, h9⟩ := HM.out.2.2.1.next HA.out
            simp only [Value.slice.injEq] at he
            obtain ⟨rfl, -, rfl⟩ := he
            obtain ⟨g, rfl, hg, hcs⟩ := h9.resolve_left (fun e => by rw [e] at hkf; simp at hkf)
            obtain ⟨y0, y1, y2⟩ := hcs k hkf
            have hgd := HGD.out _ (List.getElem_mem hkf)
            obtain ⟨r9, HR9⟩ : ∃ z, Hid ((fs[k]'hkf).1 = z) := ⟨_, (rfl : _ = _)⟩
            obtain ⟨a9, HA9⟩ : ∃ z, Hid ((fs[k]'hkf).2.1 = z) := ⟨_, (rfl : _ = _)⟩
            obtain ⟨b9, HB9⟩ : ∃ z, Hid ((fs[k]'hkf).2.2 = z) := ⟨_, (rfl : _ = _)⟩
            unfold Pk.Dfa.Good at hgd
            rw [HR9.out, HA9.out, HB9.out] at hgd
            rw [HR9.out] at y0
            rw [HA9.out] at y1
            rw [HB9.out] at y2
            rw [Pk.data_size] at hgd
            obtain ⟨q1, q2, q3, q4, q5⟩ := hgd
            have HQ : Hid (r9 = Pk.Dfa.tagOf a0T (Pk.Dfa.goes R 0 ((s.data.toList.drop a9).take (b9 - a9))) ∧ ∀ b, b9 < b → b ≤ s.size → Pk.Dfa.tagOf a0T (Pk.Dfa.goes R 0 ((s.data.toList.drop a9).take (b - a9))) < 0) := ⟨q3, q5⟩
            have hbz : Below wr.heap.size wr (wr.alloc (Obj.cells #[.int .i64 r9, .int .i64 (a9 : Int), .int .i64 (b9 : Int)] 60)) := below_alloc1 wr _
            have HNX : Hid (Below w6.heap.size w6 (wr.alloc (Obj.cells #[.int .i64 r9, .int .i64 (a9 : Int), .int .i64 (b9 : Int)] 60))) := HA.out.trans (hbz.mono HA.out.size)
            have HC3 : Hid (Pk.T3 wr.heap.size r9 a9 b9 (wr.alloc (Obj.cells #[.int .i64 r9, .int .i64 (a9 : Int), .int .i64 (b9 : Int)] 60))) := Pk.T3.box _ _ _ _
            have hs60 := HS60.out
            clear hcs h9 hbz HA q3 q4 q5 HR9 HA9 HB9
            go_upto_region 13 with fail
            generalize (wr.alloc (Obj.cells #[.int .i64 r9, .int .i64 (a9 : Int), .int .i64 (b9 : Int)] 60)) = w7 at HNX HC3 ⊢
            generalize wr.heap.size = gt at HC3 ⊢
            clear y0 y1 y2
            have hne : Nonempty (Kp (Sb w7)) := ⟨⟨_, Sb.drew w7⟩⟩
            have k0 : ∀ p : Kp (Sb w7), p.W.cell? ⟨gt, 0, none⟩ = some (.int .i64 r9) := fun p => (HC3.out.next p.h).c0
            have k1 : ∀ p : Kp (Sb w7), p.W.cell? ⟨gt, 1, none⟩ = some (.int .i64 (a9 : Int)) := fun p => (HC3.out.next p.h).c1
            have k2 : ∀ p : Kp (Sb w7), p.W.cell? ⟨gt, 2, none⟩ = some (.int .i64 (b9 : Int)) := fun p => (HC3.out.next p.h).c2
            have k3 : ∀ p : Kp (Sb w7), p.W.cell? ⟨gd, 0, none⟩ = some (.slice ra a0m rc) := fun p => ((HM.out.2.2.2.1.next HNX.out).next p.h).c0
            have k4 : ∀ p : Kp (Sb w7), p.W.cell? ⟨gd, 1, none⟩ = some (.slice ua a0m uc) := fun p => ((HM.out.2.2.2.1.next HNX.out).next p.h).c1
            have HC1 : Hid (∀ p : Kp (Sb w7), Calls Try.prog 15 #[.agg #[.slice ra a0m rc, .slice ua a0m uc], .string (s.extract a9 b9)] p.W fun e w'' => e = .returned (.tuple #[.int .i64 r9, .int .i64 0]) ∧ ∃ q : Kp (Sb w7), w'' = q.W) := fun p => by
              have hb := HNX.out.trans (Below.mono p.h HNX.out.size)
              have := Pk.Tag_any (.slice ra a0m rc) (.slice ua a0m uc) a0m a0m R a0T (s.extract a9 b9) p.W (HM.out.1.below hb (Nat.le_refl _)) (HM.out.2.1.below hb (Nat.le_refl _)) (by have := ext_size s a9 b9 q2; omega)
              rw [Pk.Dfa.tagAns_ok HCK.out, HCK.out, ext_data, ← HQ.out.1] at this
              exact Kp.calls p Sb.next this
            have hee : (r9 != r9) = false := by simp
            have ha9 : (0 : Int) ≤ (a9 : Int) := by omega
            have hab9 : (a9 : Int) ≤ (b9 : Int) := by omega
            have hbs9 : (b9 : Int) ≤ (s.size : Int) := by omega
            refine wp_region_kept mixed (by kernel_rfl) (Sb.drew w7) ?_
            repeat (go_big_quiet_step (first | (go_at_call 15; with_reducible exact HC1.out _)))
            refine wpQuiet_nil ?_
            intro W2 hw2
            obtain ⟨p2, rfl⟩ := hw2
            have HNX8 : Hid (Below w6.heap.size w6 p2.W) := HNX.out.trans (Below.mono p2.h HNX.out.size)
            have HC8 : Hid (Pk.T3 gt r9 a9 b9 p2.W) := HC3.out.next p2.h
            generalize p2.W = w8 at HNX8 HC8 ⊢
            clear k0 k1 k2 k3 k4 HC1 hne p2 HNX HC3
            have y0 := HC8.out.c0
            have y2 := HC8.out.c2
            go_wp2_with fail
            clear y0 y2 hee
            go_loopw [17] (fun z wx => ∃ m : Nat, b9 < m ∧ m ≤ s.size + 1 ∧ z = .int .i64 (m : Int) ∧ Hid (Below w8.heap.size w8 wx)) (fun z _ => s.size + 1 - (intOf z).toNat)
            case atStart => exact ⟨b9 + 1, by omega, by omega, by go_num, Below.refl _ _⟩
            case round =>
              obtain ⟨m, hm1, hm2, rfl, HA⟩ := hrel
              have HC9 : Hid (Pk.T3 gt r9 a9 b9 wr) := HC8.out.next HA.out
              have y2 := HC9.out.c2
              by_cases hm3 : m ≤ s.size
              · have d1 : decide ((m : Int) ≤ (s.size : Int)) = true := by simp; omega
                by_cases hm4 : (m : Int) < (b9 : Int) + 40
                · have d2 : decide ((m : Int) < (b9 : Int) + 40) = true := by simpa using hm4
                  obtain ⟨t9, HT9⟩ : ∃ z, Hid (Pk.Dfa.tagOf a0T (Pk.Dfa.goes R 0 ((s.data.toList.drop a9).take (m - a9))) = z) := ⟨_, (rfl : _ = _)⟩
                  have htneg : t9 < 0 := by rw [← HT9.out]; exact HQ.out.2 m hm1 hm3
                  have d3 : decide ((0 : Int) ≤ t9) = false := by simp; omega
                  have HNX9 : Hid (Below w6.heap.size w6 wr) := HNX8.out.trans (HA.out.mono HNX8.out.size)
                  have hne : Nonempty (Kp (Sb wr)) := ⟨⟨_, Sb.drew wr⟩⟩
                  have k1 : ∀ p : Kp (Sb wr), p.W.cell? ⟨gt, 1, none⟩ = some (.int .i64 (a9 : Int)) := fun p => (HC9.out.next p.h).c1
                  have k3 : ∀ p : Kp (Sb wr), p.W.cell? ⟨gd, 0, none⟩ = some (.slice ra a0m rc) := fun p => ((HM.out.2.2.2.1.next HNX9.out).next p.h).c0
                  have k4 : ∀ p : Kp (Sb wr), p.W.cell? ⟨gd, 1, none⟩ = some (.slice ua a0m uc) := fun p => ((HM.out.2.2.2.1.next HNX9.out).next p.h).c1
                  have HC1 : Hid (∀ p : Kp (Sb wr), Calls Try.prog 15 #[.agg #[.slice ra a0m rc, .slice ua a0m uc], .string (s.extract a9 m)] p.W fun e w'' => e = .returned (.tuple #[.int .i64 t9, .int .i64 0]) ∧ ∃ q : Kp (Sb wr), w'' = q.W) := fun p => by
                    have hb := HNX9.out.trans (Below.mono p.h HNX9.out.size)
                    have := Pk.Tag_any (.slice ra a0m rc) (.slice ua a0m uc) a0m a0m R a0T (s.extract a9 m) p.W (HM.out.1.below hb (Nat.le_refl _)) (HM.out.2.1.below hb (Nat.le_refl _)) (by have := ext_size s a9 m hm3; omega)
                    rw [Pk.Dfa.tagAns_ok HCK.out, HCK.out, ext_data, HT9.out] at this
                    exact Kp.calls p Sb.next this
                  have hab8 : (a9 : Int) ≤ (m : Int) := by omega
                  have hbs8 : (m : Int) ≤ (s.size : Int) := by omega
                  clear hm4 htneg
                  go_upto_region 19 with fail
                  refine wp_region_kept mixed (by kernel_rfl) (Sb.drew wr) ?_
                  repeat (go_big_quiet_step (first | (go_at_call 15; with_reducible exact HC1.out _)))
                  refine wpQuiet_nil ?_
                  intro W2 hw2
                  obtain ⟨p2, rfl⟩ := hw2
                  have HA2 : Hid (Below w8.heap.size w8 p2.W) := HA.out.trans (Below.mono p2.h HA.out.size)
                  generalize p2.W = w9 at HA2 ⊢
                  clear k1 k3 k4 HC1 hne p2 y2 d2
                  go_wp2_with fail
                  go_roundw
                  case rel => exact ⟨m + 1, by omega, by omega, by go_num, HA2⟩
                  case measure => simp [intOf]; omega
                · have d2 : decide ((m : Int) < (b9 : Int) + 40) = false := by simpa using hm4
                  have HA2 : Hid (Below w6.heap.size w6 wr) := HNX8.out.trans (HA.out.mono HNX8.out.size)
                  clear hm4
                  go_wp2_with fail
                  clear y2
                  go_roundw
                  case rel => exact ⟨k + 1, by omega, by go_num, HA2⟩
                  case measure => simp [intOf]; omega
              · have d1 : decide ((m : Int) ≤ (s.size : Int)) = false := by simp; omega
                have HA2 : Hid (Below w6.heap.size w6 wr) := HNX8.out.trans (HA.out.mono HNX8.out.size)
                go_wp2_with fail
                clear y2
                go_roundw
                case rel => exact ⟨k + 1, by omega, by go_num, HA2⟩
                case measure => simp [intOf]; omega
          · have HBE : Hid (Below w.heap.size w wr) := HM.out.2.2.2.2.trans (HA.out.mono HM.out.2.2.2.2.size)
            clear HA
            go_wp2_with fail
            go_ret
            exact ⟨by simp, HBE.out⟩
      · go_upto_region 10 with fail
        have HM6 := HM
        generalize (w5.alloc (Obj.cells #[.slice ra a0m rc, .slice ua a0m uc] 30)) = w6 at HM HM6 ⊢
        generalize w5.heap.size = gd at HM HM6 ⊢
        have htn := HTC.out
        go_wp2_with fail
        go_loopw [69] (fun z wx => ∃ k : Nat, k ≤ tn ∧ z = .int .i64 (k : Int) ∧ Hid (Below w6.heap.size w6 wx)) (fun z _ => tn - (intOf z).toNat)
        case atStart => exact ⟨0, by omega, rfl, Below.refl _ _⟩
        case round =>
          obtain ⟨k, hk, rfl, HA⟩ := hrel
          by_cases hlt : k < tn
          · have hk0 : (0 : Int) ≤ (k : Int) := by omega
            have hk1 : (k : Int) < (tn : Int) := by omega
            have hkf : k < fs.length := by rw [HTN.out]; exact hlt
            obtain ⟨_, _, he, h9⟩ := HM.out.2.2.1.next HA.out
            simp only [Value.slice.injEq] at he
            obtain ⟨rfl, -, rfl⟩ := he
            obtain ⟨g, rfl, hg, hcs⟩ := h9.resolve_left (fun e => by rw [e] at hkf; simp at hkf)
            obtain ⟨y0, y1, y2⟩ := hcs k hkf
            have hgd := HGD.out _ (List.getElem_mem hkf)
            obtain ⟨r9, HR9⟩ : ∃ z, Hid ((fs[k]'hkf).1 = z) := ⟨_, (rfl : _ = _)⟩
            obtain ⟨a9, HA9⟩ : ∃ z, Hid ((fs[k]'hkf).2.1 = z) := ⟨_, (rfl : _ = _)⟩
            obtain ⟨b9, HB9⟩ : ∃ z, Hid ((fs[k]'hkf).2.2 = z) := ⟨_, (rfl : _ = _)⟩
            unfold Pk.Dfa.Good at hgd
            rw [HR9.out, HA9.out, HB9.out] at hgd
            rw [HR9.out] at y0
            rw [HA9.out] at y1
            rw [HB9.out] at y2
            rw [Pk.data_size] at hgd
            obtain ⟨q1, q2, q3, q4, q5⟩ := hgd
            have HQ : Hid (r9 = Pk.Dfa.tagOf a0T (Pk.Dfa.goes R 0 ((s.data.toList.drop a9).take (b9 - a9))) ∧ ∀ b, b9 < b → b ≤ s.size → Pk.Dfa.tagOf a0T (Pk.Dfa.goes R 0 ((s.data.toList.drop a9).take (b - a9))) < 0) := ⟨q3, q5⟩
            have hbz : Below wr.heap.size wr (wr.alloc (Obj.cells #[.int .i64 r9, .int .i64 (a9 : Int), .int .i64 (b9 : Int)] 60)) := below_alloc1 wr _
            have HNX : Hid (Below w6.heap.size w6 (wr.alloc (Obj.cells #[.int .i64 r9, .int .i64 (a9 : Int), .int .i64 (b9 : Int)] 60))) := HA.out.trans (hbz.mono HA.out.size)
            have HC3 : Hid (Pk.T3 wr.heap.size r9 a9 b9 (wr.alloc (Obj.cells #[.int .i64 r9, .int .i64 (a9 : Int), .int .i64 (b9 : Int)] 60))) := Pk.T3.box _ _ _ _
            have hs60 := HS60.out
            clear hcs h9 hbz HA q3 q4 q5 HR9 HA9 HB9
            go_upto_region 13 with fail
            generalize (wr.alloc (Obj.cells #[.int .i64 r9, .int .i64 (a9 : Int), .int .i64 (b9 : Int)] 60)) = w7 at HNX HC3 ⊢
            generalize wr.heap.size = gt at HC3 ⊢
            clear y0 y1 y2
            have hne : Nonempty (Kp (Sb w7)) := ⟨⟨_, Sb.drew w7⟩⟩
            have k0 : ∀ p : Kp (Sb w7), p.W.cell? ⟨gt, 0, none⟩ = some (.int .i64 r9) := fun p => (HC3.out.next p.h).c0
            have k1 : ∀ p : Kp (Sb w7), p.W.cell? ⟨gt, 1, none⟩ = some (.int .i64 (a9 : Int)) := fun p => (HC3.out.next p.h).c1
            have k2 : ∀ p : Kp (Sb w7), p.W.cell? ⟨gt, 2, none⟩ = some (.int .i64 (b9 : Int)) := fun p => (HC3.out.next p.h).c2
            have k3 : ∀ p : Kp (Sb w7), p.W.cell? ⟨gd, 0, none⟩ = some (.slice ra a0m rc) := fun p => ((HM.out.2.2.2.1.next HNX.out).next p.h).c0
            have k4 : ∀ p : Kp (Sb w7), p.W.cell? ⟨gd, 1, none⟩ = some (.slice ua a0m uc) := fun p => ((HM.out.2.2.2.1.next HNX.out).next p.h).c1
            have HC1 : Hid (∀ p : Kp (Sb w7), Calls Try.prog 15 #[.agg #[.slice ra a0m rc, .slice ua a0m uc], .string (s.extract a9 b9)] p.W fun e w'' => e = .returned (.tuple #[.int .i64 r9, .int .i64 0]) ∧ ∃ q : Kp (Sb w7), w'' = q.W) := fun p => by
              have hb := HNX.out.trans (Below.mono p.h HNX.out.size)
              have := Pk.Tag_any (.slice ra a0m rc) (.slice ua a0m uc) a0m a0m R a0T (s.extract a9 b9) p.W (HM.out.1.below hb (Nat.le_refl _)) (HM.out.2.1.below hb (Nat.le_refl _)) (by have := ext_size s a9 b9 q2; omega)
              rw [Pk.Dfa.tagAns_ok HCK.out, HCK.out, ext_data, ← HQ.out.1] at this
              exact Kp.calls p Sb.next this
            have hee : (r9 != r9) = false := by simp
            have ha9 : (0 : Int) ≤ (a9 : Int) := by omega
            have hab9 : (a9 : Int) ≤ (b9 : Int) := by omega
            have hbs9 : (b9 : Int) ≤ (s.size : Int) := by omega
            refine wp_region_kept mixed (by kernel_rfl) (Sb.drew w7) ?_
            repeat (go_big_quiet_step (first | (go_at_call 15; with_reducible exact HC1.out _)))
            refine wpQuiet_nil ?_
            intro W2 hw2
            obtain ⟨p2, rfl⟩ := hw2
            have HNX8 : Hid (Below w6.heap.size w6 p2.W) := HNX.out.trans (Below.mono p2.h HNX.out.size)
            have HC8 : Hid (Pk.T3 gt r9 a9 b9 p2.W) := HC3.out.next p2.h
            generalize p2.W = w8 at HNX8 HC8 ⊢
            clear k0 k1 k2 k3 k4 HC1 hne p2 HNX HC3
            have y0 := HC8.out.c0
            have y2 := HC8.out.c2
            go_wp2_with fail
            clear y0 y2 hee
            go_loopw [17] (fun z wx => ∃ m : Nat, b9 < m ∧ m ≤ s.size + 1 ∧ z = .int .i64 (m : Int) ∧ Hid (Below w8.heap.size w8 wx)) (fun z _ => s.size + 1 - (intOf z).toNat)
            case atStart => exact ⟨b9 + 1, by omega, by omega, by go_num, Below.refl _ _⟩
            case round =>
              obtain ⟨m, hm1, hm2, rfl, HA⟩ := hrel
              have HC9 : Hid (Pk.T3 gt r9 a9 b9 wr) := HC8.out.next HA.out
              have y2 := HC9.out.c2
              by_cases hm3 : m ≤ s.size
              · have d1 : decide ((m : Int) ≤ (s.size : Int)) = true := by simp; omega
                by_cases hm4 : (m : Int) < (b9 : Int) + 40
                · have d2 : decide ((m : Int) < (b9 : Int) + 40) = true := by simpa using hm4
                  obtain ⟨t9, HT9⟩ : ∃ z, Hid (Pk.Dfa.tagOf a0T (Pk.Dfa.goes R 0 ((s.data.toList.drop a9).take (m - a9))) = z) := ⟨_, (rfl : _ = _)⟩
                  have htneg : t9 < 0 := by rw [← HT9.out]; exact HQ.out.2 m hm1 hm3
                  have d3 : decide ((0 : Int) ≤ t9) = false := by simp; omega
                  have HNX9 : Hid (Below w6.heap.size w6 wr) := HNX8.out.trans (HA.out.mono HNX8.out.size)
                  have hne : Nonempty (Kp (Sb wr)) := ⟨⟨_, Sb.drew wr⟩⟩
                  have k1 : ∀ p : Kp (Sb wr), p.W.cell? ⟨gt, 1, none⟩ = some (.int .i64 (a9 : Int)) := fun p => (HC9.out.next p.h).c1
                  have k3 : ∀ p : Kp (Sb wr), p.W.cell? ⟨gd, 0, none⟩ = some (.slice ra a0m rc) := fun p => ((HM.out.2.2.2.1.next HNX9.out).next p.h).c0
                  have k4 : ∀ p : Kp (Sb wr), p.W.cell? ⟨gd, 1, none⟩ = some (.slice ua a0m uc) := fun p => ((HM.out.2.2.2.1.next HNX9.out).next p.h).c1
                  have HC1 : Hid (∀ p : Kp (Sb wr), Calls Try.prog 15 #[.agg #[.slice ra a0m rc, .slice ua a0m uc], .string (s.extract a9 m)] p.W fun e w'' => e = .returned (.tuple #[.int .i64 t9, .int .i64 0]) ∧ ∃ q : Kp (Sb wr), w'' = q.W) := fun p => by
                    have hb := HNX9.out.trans (Below.mono p.h HNX9.out.size)
                    have := Pk.Tag_any (.slice ra a0m rc) (.slice ua a0m uc) a0m a0m R a0T (s.extract a9 m) p.W (HM.out.1.below hb (Nat.le_refl _)) (HM.out.2.1.below hb (Nat.le_refl _)) (by have := ext_size s a9 m hm3; omega)
                    rw [Pk.Dfa.tagAns_ok HCK.out, HCK.out, ext_data, HT9.out] at this
                    exact Kp.calls p Sb.next this
                  have hab8 : (a9 : Int) ≤ (m : Int) := by omega
                  have hbs8 : (m : Int) ≤ (s.size : Int) := by omega
                  clear hm4 htneg
                  go_upto_region 19 with fail
                  refine wp_region_kept mixed (by kernel_rfl) (Sb.drew wr) ?_
                  repeat (go_big_quiet_step (first | (go_at_call 15; with_reducible exact HC1.out _)))
                  refine wpQuiet_nil ?_
                  intro W2 hw2
                  obtain ⟨p2, rfl⟩ := hw2
                  have HA2 : Hid (Below w8.heap.size w8 p2.W) := HA.out.trans (Below.mono p2.h HA.out.size)
                  generalize p2.W = w9 at HA2 ⊢
                  clear k1 k3 k4 HC1 hne p2 y2 d2
                  go_wp2_with fail
                  go_roundw
                  case rel => exact ⟨m + 1, by omega, by omega, by go_num, HA2⟩
                  case measure => simp [intOf]; omega
                · have d2 : decide ((m : Int) < (b9 : Int) + 40) = false := by simpa using hm4
                  have HA2 : Hid (Below w6.heap.size w6 wr) := HNX8.out.trans (HA.out.mono HNX8.out.size)
                  clear hm4
                  go_wp2_with fail
                  clear y2
                  go_roundw
                  case rel => exact ⟨k + 1, by omega, by go_num, HA2⟩
                  case measure => simp [intOf]; omega
              · have d1 : decide ((m : Int) ≤ (s.size : Int)) = false := by simp; omega
                have HA2 : Hid (Below w6.heap.size w6 wr) := HNX8.out.trans (HA.out.mono HNX8.out.size)
                go_wp2_with fail
                clear y2
                go_roundw
                case rel => exact ⟨k + 1, by omega, by go_num, HA2⟩
                case measure => simp [intOf]; omega
          · have HBE : Hid (Below w.heap.size w wr) := HM.out.2.2.2.2.trans (HA.out.mono HM.out.2.2.2.2.size)
            clear HA
            go_wp2_with fail
            go_ret
            exact ⟨by simp, HBE.out⟩
    · have hc2 : ¬ Pk.chkS a0n a0m a0O a0L a0X a0T s.size = 0 := by unfold Pk.chkS; rw [if_neg hc]; exact hc
      have hlx := Pk.lex_bad a0O a0p a0t a0n a0m a0L a0X a0T s w2 HXA.out.2.2 HXA.out.1 HXA.out.2.1 (by have := HS60.out; omega) hc2
      have h9 := chkS_nine a0n a0m a0O a0L a0X a0T s.size
      have hun := fun (w4 : World) (hb : Below w2.heap.size w2 w4) => Pk.unpack_bad a0O a0p a0t a0n a0m a0L a0X a0T w4 HXA.out.2.2 (HXA.out.1.below hb (Nat.le_refl _)) (HXA.out.2.1.below hb (Nat.le_refl _)) hc
      rw [HL.out] at hlx
      obtain ⟨z, HZ⟩ : ∃ z, Hid (Pk.chkS a0n a0m a0O a0L a0X a0T s.size = z) := ⟨_, (rfl : _ = _)⟩
      rw [HZ.out] at hlx hc2 h9
      obtain ⟨z2, HZ2⟩ : ∃ z, Hid (Pk.Dfa.chkP a0n a0m a0O a0L a0X a0T = z) := ⟨_, (rfl : _ = _)⟩
      have HUN : Hid (∀ (w4 : World), Below w2.heap.size w2 w4 → Calls Try.prog 21 #[.agg l.toArray] w4 fun e w' => e = .returned (.tuple #[.agg #[.slice none 0 0, .slice none 0 0], .int .i64 z2]) ∧ Below w4.heap.size w4 w') := fun w4 hb => by
        have := hun w4 hb
        rw [HL.out, HZ2.out] at this
        exact this
      have b0 : (z != 0) = true := by simpa using hc2
      have b9 : (z != 9) = true := by simpa using h9
      clear hc hc2 h9 HXA HL HZ HZ2 hun
      go_wp2_with (refine wpList_load_mid rfl 54 _ rfl gq 0 rfl l _ HRG2.out.1 Try.underlying54 rfl HSI.out ?_)
      refine hlx.mono ?_
      rintro _ w4 ⟨rfl, hb4⟩
      have hun := HUN.out w4 hb4
      have HB4 : Hid (Below w.heap.size w w4) := HB3.out.trans (hb4.mono HB3.out.size)
      have HRG4 : Hid (w4.rangeAt gq 0 l) := fun j v hv => (hb4.cell (p := ⟨gq, 0 + j, none⟩) HRG2.out.2).trans (HRG2.out.1 j v hv)
      clear hlx hb4 HUN
      go_wp2_with (refine wpList_load_mid rfl 54 _ rfl gq 0 rfl l _ HRG4.out Try.underlying54 rfl HSI.out ?_)
      refine hun.mono ?_
      rintro _ w5 ⟨rfl, hb5⟩
      have HB5x : Hid (Below w.heap.size w w5) := HB4.out.trans (hb5.mono HB4.out.size)
      have hbz5 : Below w5.heap.size w5 (w5.alloc (Obj.cells #[.slice none 0 0, .slice none 0 0] 30)) := below_alloc1 w5 _
      have HB5 : Hid (Below w.heap.size w (w5.alloc (Obj.cells #[.slice none 0 0, .slice none 0 0] 30))) := HB5x.out.trans (hbz5.mono HB5x.out.size)
      clear hun hb5 hbz5 HB5x
      go_wp2_with fail
      go_ret
      exact ⟨by simp, HB5.out⟩

/-! ### What the walk gives, for every argument -/
set_option maxRecDepth 100000 in
theorem contract (H : Type) (enc : TypeId × Value → H) (W : World) (base : Nat) (args : Array Value) (ds gs : List (DataW H)) (before : List MemPlace)
    (hval : ∀ (j : Nat) t v, Try.f7.params[j]? = some t → args[j]? = some v → Value.okWide Try.prog W .any base t v)
    (hW : DataW.Whole enc Try.prog Try.f7.params.toList Rows.lexerLongestSpec.vars false W args.toList ds gs before) (hsz : (DataW.weightsEach Try.prog (Try.f7.params.toList ++ Rows.lexerLongestSpec.plain.varTypes Try.prog) (ds ++ gs)).all (· ≤ reachBytes) = true) :
    Calls Try.prog 7 args W fun e W' => ∃ v, e = .returned v ∧ Rows.lexerLongestSpec.post enc Try.prog Try.f7 false true false false W args v W' := by
  have hW' := hW
  obtain ⟨p, q, hA0, hV, rfl, hfz, hnd⟩ := hW
  have hA : DataW.TrodAll enc Try.prog W 0 (fun _ => true) true Try.f7.params.toList args.toList ds p := hA0
  rw [Try.params7] at hA hval hsz
  obtain ⟨v0, vs0, d0, ds0, p0, q0, hargs, rfl, rfl, h0, r0⟩ := trodAll_cons hA
  obtain ⟨v1, vs1, d1, ds1, p1, q1, rfl, rfl, rfl, h1, r1⟩ := trodAll_cons r0
  obtain ⟨rfl, rfl, rfl⟩ := trodAll_nil r1
  obtain rfl : args = #[v0, v1] := by cases args; simp_all
  obtain ⟨rfl, rfl⟩ := trodVars_none hV
  have k0 := h0
  have lt0 : ∀ x ∈ p0, x.block < W.heap.size := by obtain ⟨m, hm⟩ := k0; exact DataW.trod_lt m _ _ _ hm
  obtain ⟨a0O, a0p, a0t, a0n, a0m, a0L, a0X, a0T, rfl, w0o, w0s, w0u⟩ := Pk.open_packed (hval 0 54 v0 rfl rfl) h0
  obtain ⟨a1, rfl, rfl, rfl, w1⟩ := open_string Try.underlying9 (hval 1 9 v1 rfl rfl) h1
  have r1z : a1.size ≤ 140737488351232 := by have := sized_string hsz (j := 1) (t := 9) rfl rfl; simpa [reachBytes] using this
  clear hA0
  refine (walk a0O a0p a0t a0n a0m a0L a0X a0T a1 W w0o w0s w0u r1z).mono fun e W' ⟨he, bel⟩ => ?_
  subst he
  exact ⟨_, rfl, _, _, _, [], _, [], hW', trodAll_mk1 (shut_bool Try.underlying4 _), (trodAll_cons_mk (Below.trod laidOut (by kernel_rfl) (of_decide_eq_true (by kernel_rfl)) k0 bel lt0) (trodAll_cons_mk (shut_string Try.underlying9 w1) trodAll_mk0)), rfl, bel.frame _, fun h => by cases h⟩

/-! ### The row's step -/
set_option maxRecDepth 100000 in
theorem lifted (os : Os) (started : os.Started) (H : Type) (enc : TypeId × Value → H) :
    ReturnsInHanded {} Try.checked os 7 .any (Rows.lexerLongestSpec.pre6 enc Try.prog Try.f7 Rows.lexerLongestRow.domain false) (Rows.lexerLongestSpec.post enc Try.prog Try.f7 false true false false) := by
  refine returnsInHanded_of_change_sized (C := Try.checked) own started (by kernel_rfl) Try.func7
    (ChangeSpec.witness6 (enc := enc) (C := Try.checked) false ⟨#[], #[.agg (Array.replicate 256 (.int .u8 0) ++ #[.slice none 0 0, .slice none 0 0]), .string .empty], []⟩ 8 (by kernel_rfl) (by kernel_rfl) (by kernel_rfl) (by kernel_rfl)) ?_
  intro W base args ds gs before hval hW hcnd hsz _
  exact contract H enc W base args ds gs before hval hW hsz

theorem over : Rows.lexerLongestRow.holds Try.pinned (OpenSpec.ofChange Rows.lexerLongestSpec) :=
  OpenClaim.holds_of_wide 7 Try.f7 rfl rfl rfl rfl rfl rfl rfl ⟨rfl, rfl, rfl, rfl, rfl⟩ rfl rfl rfl rfl rfl (by kernel_rfl) Try.func7 (by kernel_rfl)
    (of_decide_eq_true (by kernel_rfl)) (by unfold Func.isWrapper; first | (rw [if_pos (by decide +kernel)]; kernel_rfl) | (rw [if_neg (by decide +kernel)]; exact ⟨rfl, rfl⟩))
    (fun os started H enc _ => lifted os started H enc)

end Go.Proofs.Ytlmlkpdppkgenaa.lexerLongest
namespace Go.Proofs.Ytlmlkpdppkgenaa
/-- The given statement. -/
theorem lexerLongest_holds : Rows.LexerLongestSaid := lexerLongest.over
#print axioms lexerLongest_holds
end Go.Proofs.Ytlmlkpdppkgenaa
