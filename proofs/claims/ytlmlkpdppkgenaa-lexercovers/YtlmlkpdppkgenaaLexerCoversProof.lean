/-
  LexerCovers returns true whatever packed automaton and text are handed in, and changes nothing that it was handed; no condition.
-/
import Derived.Test.YtlmlkpdppkgenaaRows
import Derived.WalkKit
import Derived.ProofKit
import Derived.OpenShut
import Derived.ShutString
import Derived.SizedLaws
import Derived.ChangeOld
import Derived.Below
import Derived.Carry
import Derived.WalkLawsBesides
import Derived.WalkSpells
import Derived.Test.YtlmlkpdppkgenaaAbLex
namespace Go.Proofs.Ytlmlkpdppkgenaa.lexerCovers
open Go.ChangeShapes Go.WideShapes Go.ChangeAt Go.RowKit
open Go.ChangeMaps (open_string shut_string)
set_option linter.unusedVariables false

theorem own : ownKnob Try.prog.godebug = none := by kernel_rfl
theorem laidOut : laidOutB Try.prog = true := by kernel_rfl

/-! ### The walk: the Go text returns true. -/
set_option maxHeartbeats 16000000 in
set_option maxRecDepth 20000 in
theorem walk (a0O : Nat → Nat) (a0p a0t : Value) (a0n a0m : Nat) (a0L : Nat → Nat) (a0X : Nat → Nat → Int) (a0T : Nat → Int) (a1 : ByteArray) (w : World) (w0o : ∀ j, a0O j < 256) (w0s : Pk.Nx w a0p a0n a0L a0X) (w0u : Pk.Ts w a0t a0m a0T) (w1 : a1.size ≤ 140737488351232) :
    Calls Try.prog 6 #[.agg (Pk.pl a0O a0p a0t).toArray, .string a1] w fun e w' => e = .returned (.bool true) ∧ Below w.heap.size w w' := by
  obtain ⟨s, rfl⟩ : ∃ z, z = a1 := ⟨_, rfl⟩
  have HSZ : Hid (s.size ≤ 140737488351232) := w1
  obtain ⟨l, HL⟩ : ∃ l, Hid (Pk.pl a0O a0p a0t = l) := ⟨_, (rfl : _ = _)⟩
  have HLN : Hid (l.length = 258) := by rw [← HL.out]; exact Pk.pl_length _ _ _
  have HSI : Hid ((Try.prog.info? 54).map (·.size) = some l.length) := by show _ = _; rw [HLN.out]; exact Pk.size47
  have HX : Hid (Pk.Nx w a0p a0n a0L a0X ∧ Pk.Ts w a0t a0m a0T ∧ ∀ j, a0O j < 256) := ⟨w0s, w0u, w0o⟩
  rw [HL.out]
  have hbz := below_alloc1 w (Obj.cells l.toArray 54)
  have hrg := Pk.range_block w l 54
  obtain ⟨w0, HW0⟩ : ∃ z, Hid (w.alloc (Obj.cells l.toArray 54) = z) := ⟨_, (rfl : _ = _)⟩
  obtain ⟨gq, HGQ⟩ : ∃ z, Hid (w.heap.size = z) := ⟨_, (rfl : _ = _)⟩
  have hlt0 : gq < w0.heap.size := by rw [← HW0.out, ← HGQ.out]; simp
  rw [HW0.out] at hbz hrg
  rw [HGQ.out] at hrg
  have HB0 : Hid (Below w.heap.size w w0 ∧ w0.rangeAt gq 0 l ∧ gq < w0.heap.size) := ⟨hbz, hrg, hlt0⟩
  clear w0o w0s w0u w1 hbz hrg hlt0
  have hab := abc_any w0
  go_enter Try.func6, Try.ntmps6
  go_upto_region 1 with fail
  rw [HW0.out, HGQ.out]
  clear HW0
  go_wp2_with fail
  refine hab.mono ?_
  rintro _ w1 ⟨nv, tv, rfl, hnx, hts, hck, hb1⟩
  obtain ⟨l1, HL1⟩ : ∃ z, Hid (Pk.pl (Pk.ofp 5 abR) nv tv = z) := ⟨_, (rfl : _ = _)⟩
  have hlx := fun s hs => lex_abc s w1 hs hnx hts hck
  rw [HL1.out] at hlx ⊢
  have HB1 : Hid (Below w0.heap.size w0 w1) := hb1
  clear hab hnx hts hck hb1
  go_wp2_with fail
  refine (hlx _ rfl).mono ?_
  rintro _ w2 ⟨g2, c2, rfl, y6, hb2⟩
  have HB2 : Hid (Below w0.heap.size w0 w2) := HB1.out.trans (hb2.mono HB1.out.size)
  have HB3 : Hid (Below w.heap.size w w2) := HB0.out.1.trans (HB2.out.mono HB0.out.1.size)
  have HRG2 : Hid (w2.rangeAt gq 0 l) := fun j v hv => (HB2.out.cell (p := ⟨gq, 0 + j, none⟩) HB0.out.2.2).trans (HB0.out.2.1 j v hv)
  have HXA : Hid (Pk.Nx w2 a0p a0n a0L a0X ∧ Pk.Ts w2 a0t a0m a0T ∧ ∀ j, a0O j < 256) := ⟨HX.out.1.below HB3.out (Nat.le_refl _), HX.out.2.1.below HB3.out (Nat.le_refl _), HX.out.2.2⟩
  clear hlx hb2 HB0 HB1 HB2 HX
  go_upto_region 4 with fail
  clear y6
  by_cases hc : Pk.chkS a0n a0m a0O a0L a0X a0T s.size = 0
  · have hcp : Pk.Dfa.chkP a0n a0m a0O a0L a0X a0T = 0 ∧ s.size ≤ 2000 := by
      unfold Pk.chkS at hc
      by_cases h : Pk.Dfa.chkP a0n a0m a0O a0L a0X a0T = 0
      · rw [if_pos h] at hc
        refine ⟨h, ?_⟩
        by_cases h2 : 2000 < s.size
        · rw [if_pos h2] at hc; omega
        · omega
      · rw [if_neg h] at hc; exact absurd hc h
    have hmn : a0m = a0n := by
      have h := hcp.1
      unfold Pk.Dfa.chkP at h
      by_cases h1 : 200 < a0n
      · rw [if_pos h1] at h; omega
      · rw [if_neg h1] at h
        by_cases h2 : a0n = 0 ∨ a0m ≠ a0n
        · rw [if_pos h2] at h; omega
        · omega
    subst hmn
    have hlx := Pk.lex_ok a0O a0p a0t a0m a0L a0X a0T s w2 HXA.out.2.2 HXA.out.1 HXA.out.2.1 hcp.1 hcp.2
    have hall := all_ch (Pk.RR a0m a0O a0X) a0T s.data.toList
    rw [HL.out] at hlx
    obtain ⟨fs, HFS⟩ : ∃ z, Hid ((Pk.Dfa.all (Pk.RR a0m a0O a0X) a0T s.data.toList).1 = z) := ⟨_, (rfl : _ = _)⟩
    rw [HFS.out] at hlx
    obtain ⟨tn, HTN⟩ : ∃ z, Hid (fs.length = z) := ⟨_, (rfl : _ = _)⟩
    clear hc hcp HXA HL
    rcases hall with hall | hall
    · obtain ⟨hn2, hch⟩ := hall
      rw [hn2] at hlx
      simp only [Option.getD_none, Pk.errOf] at hlx
      obtain ⟨qe, HQ⟩ : ∃ z, Hid (s.data.toList.length = z) := ⟨_, (rfl : _ = _)⟩
      have HCH : Hid (ch 0 fs qe) := by rw [← HQ.out, ← HFS.out]; exact hch
      have HSE : Hid (qe = s.size) := by rw [← HQ.out, Array.length_toList]; rfl
      have HQE : Hid (qe ≤ 140737488351232) := by show _ ≤ _; rw [HSE.out]; exact HSZ.out
      clear hn2 hch
      go_wp2_with (refine wpList_load_mid rfl 54 _ rfl gq 0 rfl l _ HRG2.out Try.underlying54 rfl HSI.out ?_)
      refine hlx.mono ?_
      rintro _ w4 ⟨v4, rfl, ho4, hb4⟩
      have htk := tks_own ho4
      obtain ⟨ta, tq, hv4, -⟩ := id htk
      rw [HTN.out] at hv4
      rw [hv4] at htk ⊢
      have HTK : Hid (Tks w4 (.slice ta tn tq) fs) := htk
      have HB4 : Hid (Below w.heap.size w w4) := HB3.out.trans (hb4.mono HB3.out.size)
      clear hlx ho4 hb4 htk hv4 v4
      have htn : tn ≤ 140737488351232 := by
        have := ch_le fs 0 qe HCH.out
        have := HQE.out
        have := HTN.out
        omega
      go_wp2_with fail
      go_loopw [56, 11] (fun z v wx => ∃ k : Nat, k ≤ tn ∧ z = .int .i64 (k : Int) ∧ v = .int .i64 (enp 0 fs k : Int) ∧ Hid (Below w4.heap.size w4 wx)) (fun z _ _ => tn - (intOf z).toNat)
      case atStart => exact ⟨0, by omega, rfl, rfl, Below.refl _ _⟩
      case round =>
        obtain ⟨k, hk, rfl, rfl, HA⟩ := hrel
        by_cases hlt : k < tn
        · have hk0 : (0 : Int) ≤ (k : Int) := by omega
          have hk1 : (k : Int) < (tn : Int) := by omega
          have hkf : k < fs.length := by rw [HTN.out]; exact hlt
          obtain ⟨_, _, he, h9⟩ := HTK.out.next HA.out
          simp only [Value.slice.injEq] at he
          obtain ⟨rfl, -, rfl⟩ := he
          obtain ⟨g, rfl, hg, hcs⟩ := h9.resolve_left (fun e => by rw [e] at hkf; simp at hkf)
          obtain ⟨y0, y1, y2⟩ := hcs k hkf
          have hat := ch_at fs 0 qe k hkf HCH.out
          have hto := ch_to fs 0 qe k hkf HCH.out
          have hne := enp_next 0 fs k hkf
          obtain ⟨r9, HR9⟩ : ∃ z, Hid ((fs[k]'hkf).1 = z) := ⟨_, (rfl : _ = _)⟩
          obtain ⟨b9, HB9⟩ : ∃ z, Hid ((fs[k]'hkf).2.2 = z) := ⟨_, (rfl : _ = _)⟩
          rw [hat.1] at y1
          rw [HR9.out] at y0
          rw [HB9.out] at y2 hto hne
          have hlt2 := hat.2
          rw [HB9.out] at hlt2
          obtain ⟨a9, HA9⟩ : ∃ z, Hid (enp 0 fs k = z) := ⟨_, (rfl : _ = _)⟩
          rw [HA9.out] at y1 hlt2
          rw [HA9.out]
          have hq := HQE.out
          have d1 : ((a9 : Int) != (a9 : Int)) = false := by simp
          have d2 : decide ((b9 : Int) ≤ (a9 : Int)) = false := by simp; omega
          have e2 : decide (b9 ≤ a9) = false := by simp; omega
          have HNE : Hid (enp 0 fs (k + 1) = b9) := hne
          have hbz : Below wr.heap.size wr (wr.alloc (Obj.cells #[.int .i64 r9, .int .i64 (a9 : Int), .int .i64 (b9 : Int)] 60)) := below_alloc1 wr _
          have HNX : Hid (Below w4.heap.size w4 (wr.alloc (Obj.cells #[.int .i64 r9, .int .i64 (a9 : Int), .int .i64 (b9 : Int)] 60))) := HA.out.trans (hbz.mono HA.out.size)
          clear hcs hat hne h9 hbz HA
          go_wp2_with fail
          clear y0 y1 y2
          go_roundw
          case rel => exact ⟨k + 1, by omega, by go_num, by rw [HNE.out], HNX⟩
          case measure => simp [intOf]; omega
        · obtain rfl : tn = k := by omega
          have HEN : Hid (enp 0 fs tn = qe) := by show _ = _; rw [← HTN.out]; exact ch_end fs 0 qe HCH.out
          rw [HEN.out]
          have HBE : Hid (Below w.heap.size w wr) := HB4.out.trans (HA.out.mono HB4.out.size)
          clear HA
          have d5 : ((qe : Int) == (s.size : Int)) = true := by rw [HSE.out]; simp
          go_wp2_with fail
          go_ret
          exact ⟨by simp, HBE.out⟩
    · obtain ⟨qe, hn2, hq9, hch⟩ := hall
      rw [hn2] at hlx
      simp only [Option.getD_some, Pk.errOf] at hlx
      have HCH : Hid (ch 0 fs qe) := by rw [← HFS.out]; exact hch
      have HSE : Hid (qe < s.size) := by
        have e : s.data.toList.length = s.size := by rw [Array.length_toList]; rfl
        show _ < _
        rw [← e]; exact hq9
      have HQE : Hid (qe ≤ 140737488351232) := by have := HSE.out; have := HSZ.out; show _ ≤ _; omega
      clear hn2 hch hq9
      go_wp2_with (refine wpList_load_mid rfl 54 _ rfl gq 0 rfl l _ HRG2.out Try.underlying54 rfl HSI.out ?_)
      refine hlx.mono ?_
      rintro _ w4 ⟨v4, rfl, ho4, hb4⟩
      have htk := tks_own ho4
      obtain ⟨ta, tq, hv4, -⟩ := id htk
      rw [HTN.out] at hv4
      rw [hv4] at htk ⊢
      have HTK : Hid (Tks w4 (.slice ta tn tq) fs) := htk
      have HB4 : Hid (Below w.heap.size w w4) := HB3.out.trans (hb4.mono HB3.out.size)
      clear hlx ho4 hb4 htk hv4 v4
      have htn : tn ≤ 140737488351232 := by
        have := ch_le fs 0 qe HCH.out
        have := HQE.out
        have := HTN.out
        omega
      go_wp2_with fail
      go_loopw [56, 11] (fun z v wx => ∃ k : Nat, k ≤ tn ∧ z = .int .i64 (k : Int) ∧ v = .int .i64 (enp 0 fs k : Int) ∧ Hid (Below w4.heap.size w4 wx)) (fun z _ _ => tn - (intOf z).toNat)
      case atStart => exact ⟨0, by omega, rfl, rfl, Below.refl _ _⟩
      case round =>
        obtain ⟨k, hk, rfl, rfl, HA⟩ := hrel
        by_cases hlt : k < tn
        · have hk0 : (0 : Int) ≤ (k : Int) := by omega
          have hk1 : (k : Int) < (tn : Int) := by omega
          have hkf : k < fs.length := by rw [HTN.out]; exact hlt
          obtain ⟨_, _, he, h9⟩ := HTK.out.next HA.out
          simp only [Value.slice.injEq] at he
          obtain ⟨rfl, -, rfl⟩ := he
          obtain ⟨g, rfl, hg, hcs⟩ := h9.resolve_left (fun e => by rw [e] at hkf; simp at hkf)
          obtain ⟨y0, y1, y2⟩ := hcs k hkf
          have hat := ch_at fs 0 qe k hkf HCH.out
          have hto := ch_to fs 0 qe k hkf HCH.out
          have hne := enp_next 0 fs k hkf
          obtain ⟨r9, HR9⟩ : ∃ z, Hid ((fs[k]'hkf).1 = z) := ⟨_, (rfl : _ = _)⟩
          obtain ⟨b9, HB9⟩ : ∃ z, Hid ((fs[k]'hkf).2.2 = z) := ⟨_, (rfl : _ = _)⟩
          rw [hat.1] at y1
          rw [HR9.out] at y0
          rw [HB9.out] at y2 hto hne
          have hlt2 := hat.2
          rw [HB9.out] at hlt2
          obtain ⟨a9, HA9⟩ : ∃ z, Hid (enp 0 fs k = z) := ⟨_, (rfl : _ = _)⟩
          rw [HA9.out] at y1 hlt2
          rw [HA9.out]
          have hq := HQE.out
          have d1 : ((a9 : Int) != (a9 : Int)) = false := by simp
          have d2 : decide ((b9 : Int) ≤ (a9 : Int)) = false := by simp; omega
          have e2 : decide (b9 ≤ a9) = false := by simp; omega
          have HNE : Hid (enp 0 fs (k + 1) = b9) := hne
          have hbz : Below wr.heap.size wr (wr.alloc (Obj.cells #[.int .i64 r9, .int .i64 (a9 : Int), .int .i64 (b9 : Int)] 60)) := below_alloc1 wr _
          have HNX : Hid (Below w4.heap.size w4 (wr.alloc (Obj.cells #[.int .i64 r9, .int .i64 (a9 : Int), .int .i64 (b9 : Int)] 60))) := HA.out.trans (hbz.mono HA.out.size)
          clear hcs hat hne h9 hbz HA
          go_wp2_with fail
          clear y0 y1 y2
          go_roundw
          case rel => exact ⟨k + 1, by omega, by go_num, by rw [HNE.out], HNX⟩
          case measure => simp [intOf]; omega
        · obtain rfl : tn = k := by omega
          have HEN : Hid (enp 0 fs tn = qe) := by show _ = _; rw [← HTN.out]; exact ch_end fs 0 qe HCH.out
          rw [HEN.out]
          have HBE : Hid (Below w.heap.size w wr) := HB4.out.trans (HA.out.mono HB4.out.size)
          clear HA
          have d5 : ((qe : Int) == (s.size : Int)) = false := by have := HSE.out; simp; omega
          have d6 : ((qe : Int) == (qe : Int)) = true := by simp
          have d7 : decide ((qe : Int) < (s.size : Int)) = true := by have := HSE.out; simp; omega
          have e7 : decide (qe < s.size) = true := by have := HSE.out; simp; omega
          go_wp2_with fail
          go_ret
          exact ⟨by simp, HBE.out⟩
  · have hlx := Pk.lex_bad a0O a0p a0t a0n a0m a0L a0X a0T s w2 HXA.out.2.2 HXA.out.1 HXA.out.2.1 (by have := HSZ.out; omega) hc
    have h9 := chkS_nine a0n a0m a0O a0L a0X a0T s.size
    rw [HL.out] at hlx
    obtain ⟨z, HZ⟩ : ∃ z, Hid (Pk.chkS a0n a0m a0O a0L a0X a0T s.size = z) := ⟨_, (rfl : _ = _)⟩
    rw [HZ.out] at hlx hc h9
    have b0 : (z != 0) = true := by simpa using hc
    have b9 : (z != 9) = true := by simpa using h9
    clear hc h9 HXA HL HZ
    go_wp2_with (refine wpList_load_mid rfl 54 _ rfl gq 0 rfl l _ HRG2.out Try.underlying54 rfl HSI.out ?_)
    refine hlx.mono ?_
    rintro _ w4 ⟨rfl, hb4⟩
    have HB4 : Hid (Below w.heap.size w w4) := HB3.out.trans (hb4.mono HB3.out.size)
    clear hlx hb4
    go_wp2_with fail
    go_ret
    exact ⟨by simp, HB4.out⟩

/-! ### What the walk gives, for every argument -/
set_option maxRecDepth 100000 in
theorem contract (H : Type) (enc : TypeId × Value → H) (W : World) (base : Nat) (args : Array Value) (ds gs : List (DataW H)) (before : List MemPlace)
    (hval : ∀ (j : Nat) t v, Try.f6.params[j]? = some t → args[j]? = some v → Value.okWide Try.prog W .any base t v)
    (hW : DataW.Whole enc Try.prog Try.f6.params.toList Rows.lexerCoversSpec.vars false W args.toList ds gs before) (hsz : (DataW.weightsEach Try.prog (Try.f6.params.toList ++ Rows.lexerCoversSpec.plain.varTypes Try.prog) (ds ++ gs)).all (· ≤ reachBytes) = true) :
    Calls Try.prog 6 args W fun e W' => ∃ v, e = .returned v ∧ Rows.lexerCoversSpec.post enc Try.prog Try.f6 false true false false W args v W' := by
  have hW' := hW
  obtain ⟨p, q, hA0, hV, rfl, hfz, hnd⟩ := hW
  have hA : DataW.TrodAll enc Try.prog W 0 (fun _ => true) true Try.f6.params.toList args.toList ds p := hA0
  rw [Try.params6] at hA hval hsz
  obtain ⟨v0, vs0, d0, ds0, p0, q0, hargs, rfl, rfl, h0, r0⟩ := trodAll_cons hA
  obtain ⟨v1, vs1, d1, ds1, p1, q1, rfl, rfl, rfl, h1, r1⟩ := trodAll_cons r0
  obtain ⟨rfl, rfl, rfl⟩ := trodAll_nil r1
  obtain rfl : args = #[v0, v1] := by cases args; simp_all
  obtain ⟨rfl, rfl⟩ := trodVars_none hV
  have k0 := h0
  have lt0 : ∀ x ∈ p0, x.block < W.heap.size := by obtain ⟨m, hm⟩ := k0; exact DataW.trod_lt m _ _ _ hm
  obtain ⟨a0O, a0p, a0t, a0n, a0m, a0L, a0X, a0T, rfl, w0o, w0s, w0u⟩ := Pk.open_packed (hval 0 54 v0 rfl rfl) h0
  obtain ⟨a1, rfl, rfl, rfl, w1⟩ := open_string Try.underlying9 (hval 1 9 v1 rfl rfl) h1
  have r1z : a1.size ≤ 140737488351232 := by have := sized_string hsz (j := 1) (t := 9) rfl rfl; simpa [reachBytes] using this
  clear hA0
  refine (walk a0O a0p a0t a0n a0m a0L a0X a0T a1 W w0o w0s w0u r1z).mono fun e W' ⟨he, bel⟩ => ?_
  subst he
  exact ⟨_, rfl, _, _, _, [], _, [], hW', trodAll_mk1 (shut_bool Try.underlying4 _), (trodAll_cons_mk (Below.trod laidOut (by kernel_rfl) (of_decide_eq_true (by kernel_rfl)) k0 bel lt0) (trodAll_cons_mk (shut_string Try.underlying9 w1) trodAll_mk0)), rfl, bel.frame _, fun h => by cases h⟩

/-! ### The row's step -/
set_option maxRecDepth 100000 in
theorem lifted (os : Os) (started : os.Started) (H : Type) (enc : TypeId × Value → H) :
    ReturnsInHanded {} Try.checked os 6 .any (Rows.lexerCoversSpec.pre6 enc Try.prog Try.f6 Rows.lexerCoversRow.domain false) (Rows.lexerCoversSpec.post enc Try.prog Try.f6 false true false false) := by
  refine returnsInHanded_of_change_sized (C := Try.checked) own started (by kernel_rfl) Try.func6
    (ChangeSpec.witness6 (enc := enc) (C := Try.checked) false ⟨#[], #[.agg (Array.replicate 256 (.int .u8 0) ++ #[.slice none 0 0, .slice none 0 0]), .string .empty], []⟩ 8 (by kernel_rfl) (by kernel_rfl) (by kernel_rfl) (by kernel_rfl)) ?_
  intro W base args ds gs before hval hW hcnd hsz _
  exact contract H enc W base args ds gs before hval hW hsz

theorem over : Rows.lexerCoversRow.holds Try.pinned (OpenSpec.ofChange Rows.lexerCoversSpec) :=
  OpenClaim.holds_of_wide 6 Try.f6 rfl rfl rfl rfl rfl rfl rfl ⟨rfl, rfl, rfl, rfl, rfl⟩ rfl rfl rfl rfl rfl (by kernel_rfl) Try.func6 (by kernel_rfl)
    (of_decide_eq_true (by kernel_rfl)) (by unfold Func.isWrapper; first | (rw [if_pos (by decide +kernel)]; kernel_rfl) | (rw [if_neg (by decide +kernel)]; exact ⟨rfl, rfl⟩))
    (fun os started H enc _ => lifted os started H enc)

end Go.Proofs.Ytlmlkpdppkgenaa.lexerCovers
namespace Go.Proofs.Ytlmlkpdppkgenaa
/-- The given statement. -/
theorem lexerCovers_holds : Rows.LexerCoversSaid := lexerCovers.over
#print axioms lexerCovers_holds
end Go.Proofs.Ytlmlkpdppkgenaa
