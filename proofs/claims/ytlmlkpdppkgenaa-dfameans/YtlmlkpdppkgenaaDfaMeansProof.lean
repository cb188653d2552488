/-
  DfaMeans returns true whatever rules and text are handed in, and changes nothing that it was handed; no condition.
-/
import Derived.Test.YtlmlkpdppkgenaaRows
import Derived.WalkKit
import Derived.ProofKit
import Derived.OpenShut
import Derived.ShutString
import Derived.SizedLaws
import Derived.ChangeOld
import Derived.Below
import Derived.Carry
import Derived.WalkLawsBesides
import Derived.WalkSpells
import Derived.Test.YtlmlkpdppkgenaaOpens
import Derived.Test.YtlmlkpdppkgenaaWMad
import Derived.Test.YtlmlkpdppkgenaaPmMatched
namespace Go.Proofs.Ytlmlkpdppkgenaa.dfaMeans
open Go.ChangeShapes Go.WideShapes Go.ChangeAt Go.RowKit
open Go.ChangeMaps (open_string shut_string)
open Cls Po Rex Dm
set_option linter.unusedVariables false

theorem own : ownKnob Try.prog.godebug = none := by kernel_rfl
theorem laidOut : laidOutB Try.prog = true := by kernel_rfl

/-! ### The walk: the Go text returns true. -/
set_option maxHeartbeats 16000000 in
set_option maxRecDepth 20000 in
theorem walk (v0 : Value) (a0l : List T) (a1 : ByteArray) (w : World) (w0s : Rxs w w.heap.size v0 a0l) (w1 : a1.size ≤ 140737488351232) :
    Calls Try.prog 4 #[v0, .string a1] w fun e w' => e = .returned (.bool true) ∧ Below w.heap.size w w' := by
  have HTS : Hid (Rxs w w.heap.size v0 a0l) := w0s
  obtain ⟨ao, cap, vals, rfl, hm, -, -⟩ := w0s
  revert HTS hm
  generalize a0l = ts
  generalize a1 = s
  intro _ _
  rename Hid (Rxs _ _ _ _) => HTS
  rename _ ≤ _ => hm
  obtain ⟨xs, HXS⟩ : ∃ xs, Hid (mkErr ts = 0 → Pm.Rts ts xs) := by
    by_cases h : mkErr ts = 0
    · obtain ⟨xs, hx⟩ := Pm.rts_of (mkErr_len h).2.2
      exact ⟨xs, fun _ => hx⟩
    · exact ⟨[], fun e => absurd e h⟩
  have hlt := letter_any 97 (by omega) (by omega) w
  go_enter Try.func4, Try.ntmps4
  go_wp2_with fail
  refine hlt.mono ?_
  rintro _ w1 ⟨lv, rfl, hrx, hb1⟩
  obtain ⟨k, c, a9, p6, kids, vals9, rfl, hte, -⟩ := hrx.shape
  obtain ⟨n6, HN6⟩ : ∃ n6, Hid (kids.length = n6) := ⟨_, (rfl : kids.length = kids.length)⟩
  rw [HN6.out] at hrx ⊢
  have hro := rxs_one w1 w1.heap.size k c a9 n6 p6 _ hrx (Nat.le_refl _)
  have hba := below_alloc1 w1 (Obj.cells #[.int .i64 k, .int .u64 (c.1.toNat : Int), .int .u64 (c.2.1.toNat : Int), .int .u64 (c.2.2.1.toNat : Int), .int .u64 (c.2.2.2.toNat : Int), .slice a9 n6 p6] 44)
  have hsz2 : (w1.alloc (Obj.cells #[.int .i64 k, .int .u64 (c.1.toNat : Int), .int .u64 (c.2.1.toNat : Int), .int .u64 (c.2.2.1.toNat : Int), .int .u64 (c.2.2.2.toNat : Int), .slice a9 n6 p6] 44)).heap.size = w1.heap.size + 1 := by simp
  rw [← hsz2] at hro
  have hcm := made_letter _ _ hro
  obtain ⟨w2, HW2⟩ : ∃ w2, Hid (w1.alloc (Obj.cells #[.int .i64 k, .int .u64 (c.1.toNat : Int), .int .u64 (c.2.1.toNat : Int), .int .u64 (c.2.2.1.toNat : Int), .int .u64 (c.2.2.2.toNat : Int), .slice a9 n6 p6] 44) = w2) := ⟨_, (rfl : _ = _)⟩
  rw [HW2.out] at hcm hba
  have HB2 : Hid (Below w.heap.size w w2) := hb1.trans (hba.mono hb1.size)
  clear hlt hrx hb1 hro hba hsz2 hte HN6
  go_wp2_with fail
  rw [HW2.out]
  clear HW2
  refine hcm.mono ?_
  rintro _ w3 ⟨rb0, rc0, tb0, tc0, rfl, ht0, ht1, htb, hb3⟩
  have HB3 : Hid (Below w.heap.size w w3) := HB2.out.trans (hb3.mono HB2.out.size)
  have hbz := below_alloc1 w3 (Obj.cells #[.slice (some ⟨rb0, 0, none⟩) 2 rc0, .slice (some ⟨tb0, 0, none⟩) 2 tc0] 30)
  have y0 := (hbz.cell (p := ⟨tb0, 0, none⟩) htb).trans ht0
  have y1 := (hbz.cell (p := ⟨tb0, 1, none⟩) htb).trans ht1
  obtain ⟨w3b, HW3⟩ : ∃ z, Hid (w3.alloc (Obj.cells #[.slice (some ⟨rb0, 0, none⟩) 2 rc0, .slice (some ⟨tb0, 0, none⟩) 2 tc0] 30) = z) := ⟨_, (rfl : _ = _)⟩
  have y2 : w3b.cell? ⟨w3.heap.size, 0, none⟩ = some (.slice (some ⟨rb0, 0, none⟩) 2 rc0) := by rw [← HW3.out]; simp
  have y3 : w3b.cell? ⟨w3.heap.size, 1, none⟩ = some (.slice (some ⟨tb0, 0, none⟩) 2 tc0) := by rw [← HW3.out]; simp
  rw [HW3.out] at hbz y0 y1
  have HB4 : Hid (Below w.heap.size w w3b) := HB3.out.trans (hbz.mono HB3.out.size)
  clear hcm hbz ht0 ht1 htb hb3 HB2 HB3
  have hmd := made_any (.slice ao ts.length cap) ts xs w3b ((HTS.out.next HB4.out).wide HB4.out.size) HXS.out
  go_upto_region 2 with fail
  rw [HW3.out]
  go_wp2_with fail
  clear y0 y1 y2 y3 HW3
  refine hmd.mono ?_
  rintro _ w4 ⟨hb4, ⟨rfl, -⟩ | ⟨han, kk, rb, rc, tb, tc, hall, hk2, rfl, hrw, hts⟩⟩
  · have HB5 : Hid (Below w.heap.size w (w4.alloc (Obj.cells #[.slice none 0 0, .slice none 0 0] 30))) := HB4.out.trans ((hb4.trans ((below_alloc1 w4 _).mono hb4.size)).mono HB4.out.size)
    clear hmd hb4
    go_wp2_with fail
    go_ret
    exact ⟨by simp, HB5.out⟩
  · have HRT : Hid (Pm.Rts ts xs) := HXS.out (mkAns_fine han).1
    have HLN : Hid (1 ≤ ts.length ∧ ts.length ≤ 20 ∧ Pm.errL ts = 0) := mkErr_len (mkAns_fine han).1
    have hbz := below_alloc1 w4 (Obj.cells #[.slice (some ⟨rb, 0, none⟩) kk rc, .slice (some ⟨tb, 0, none⟩) kk tc] 30)
    have hb45 := HB4.out.trans ((hb4.trans (hbz.mono hb4.size)).mono HB4.out.size)
    have hrw5 := hrw.below hbz (Nat.le_refl _)
    have hts5 := hts.below hbz (Nat.le_refl _)
    obtain ⟨w5, HW5⟩ : ∃ z, Hid (w4.alloc (Obj.cells #[.slice (some ⟨rb, 0, none⟩) kk rc, .slice (some ⟨tb, 0, none⟩) kk tc] 30) = z) := ⟨_, (rfl : _ = _)⟩
    have hz0 : w5.cell? ⟨w4.heap.size, 0, none⟩ = some (.slice (some ⟨rb, 0, none⟩) kk rc) := by rw [← HW5.out]; simp
    have hz1 : w5.cell? ⟨w4.heap.size, 1, none⟩ = some (.slice (some ⟨tb, 0, none⟩) kk tc) := by rw [← HW5.out]; simp
    have hz2 : w4.heap.size < w5.heap.size := by rw [← HW5.out]; simp
    rw [HW5.out] at hb45 hrw5 hts5
    obtain ⟨gb, HGB⟩ : ∃ gb, Hid (w4.heap.size = gb) := ⟨_, (rfl : w4.heap.size = w4.heap.size)⟩
    rw [HGB.out] at hz0 hz1 hz2
    have HBX : Hid (w5.cell? ⟨gb, 0, none⟩ = some (.slice (some ⟨rb, 0, none⟩) kk rc) ∧ w5.cell? ⟨gb, 1, none⟩ = some (.slice (some ⟨tb, 0, none⟩) kk tc) ∧ gb < w5.heap.size) := ⟨hz0, hz1, hz2⟩
    have HB5 : Hid (Below w.heap.size w w5) := hb45
    obtain ⟨P0, HP0⟩ : ∃ P0, Hid (posX xs = P0) := ⟨_, (rfl : _ = _)⟩
    rw [HP0.out] at hall hrw5 hts5
    have HALL : Hid (All P0 kk ∧ kk ≤ 200) := ⟨hall, hk2⟩
    have HRW : Hid (Df.Rw w5 (.slice (some ⟨rb, 0, none⟩) kk rc) kk (rowF P0 (G P0 kk))) := hrw5
    have HTG : Hid (Df.Ts w5 (.slice (some ⟨tb, 0, none⟩) kk tc) kk (tagF P0 (G P0 kk))) := hts5
    have HRI : Hid (Pm.RI xs xs.length P0) := by rw [← HP0.out]; exact Pm.ri_all xs
    have HEL : Hid (P0.empty.length = ts.length) := by rw [← HP0.out]; exact made_el HRT.out
    clear hmd hb4 hrw hts hrw5 hts5 hbz hb45 hz0 hz1 hz2 hall hk2 han HB4
    go_upto_region 5 with fail
    rw [HW5.out, HGB.out]
    clear HW5 HGB
    by_cases h60 : 60 < s.size
    · have b6 : decide ((60 : Int) < (s.size : Int)) = true := by simp; omega
      obtain ⟨s6, HS6⟩ : ∃ s6, Hid (s.extract 0 60 = s6) := ⟨_, (rfl : _ = _)⟩
      have HSZ : Hid (s6.size ≤ 200) := by show _ ≤ _; rw [← HS6.out, ByteArray.size_extract]; omega
      have h60i : (60 : Int) ≤ (s.size : Int) := by omega
      clear h60
      go_upto_region 9 with (fail)
      rw [HS6.out]
      have htg := tag_rules _ _ P0 kk s6 w5 HALL.out.1 HALL.out.2 HRW.out HTG.out (by have := HSZ.out; omega)
      obtain ⟨ft, HFT⟩ : ∃ z, Hid (firstR P0.empty.length (doneB P0 (s6).data.toList) = z) := ⟨_, (rfl : _ = _)⟩
      rw [HFT.out] at htg
      have y0 := HBX.out.1
      have y1 := HBX.out.2.1
      go_wp2_with fail
      clear y0 y1
      refine htg.mono ?_
      rintro _ w6 ⟨rfl, hb6⟩
      have HB6 : Hid (Below w.heap.size w w6) := HB5.out.trans (hb6.mono HB5.out.size)
      have hcm := matched_any _ ts xs s6 (doneB P0 (s6).data.toList) w6 ((HTS.out.next HB6.out).wide HB6.out.size) HRT.out HLN.out.2.2 HLN.out.2.1 HSZ.out (fun i hi => Pm.done_iff HRI.out _ i hi)
      clear htg hb6 HB5
      go_wp2_with fail
      refine hcm.mono ?_
      rintro _ w7 ⟨vo, vn, vc, rfl, hin, hb7⟩
      have HB7 : Hid (Below w.heap.size w w7) := HB6.out.trans (hb7.mono HB6.out.size)
      clear hcm hb7 HB6
      rcases sel_head ts.length (doneB P0 (s6).data.toList) with ⟨hse, hft⟩ | ⟨l9, hse⟩
      · rw [hse] at hin
        have hvn : vn = 0 := by obtain ⟨_, _, he, _⟩ := hin; cases he; rfl
        subst hvn
        have HF : Hid (ft = -1) := by show _ = _; rw [← HFT.out, HEL.out]; exact hft
        clear hse hft hin
        have bft : (ft == (-1 : Int)) = true := by rw [HF.out]; rfl
        go_wp2_with fail
        go_ret
        exact ⟨by simp [HF.out], HB7.out⟩
      · have hft : firstR ts.length (doneB P0 (s6).data.toList) = ft := by rw [← HEL.out]; exact HFT.out
        rw [hse, hft] at hin
        obtain ⟨b9, o9, rfl, hc9, rfl⟩ := ints_head hin
        have hpos : decide ((0 : Int) < (((l9.length + 1 : Nat) : Int))) = true := decide_eq_true (by omega)
        have h00 : (0 : Int) < ((l9.length + 1 : Nat) : Int) := by omega
        obtain ⟨ln, HLN9⟩ : ∃ z, Hid (l9.length + 1 = z) := ⟨_, (rfl : _ = _)⟩
        rw [HLN9.out] at hpos h00 ⊢
        have hposn : decide (0 < ln) = true := by simp; omega
        have hnn : 0 < ln := by omega
        clear hse hft hin
        go_wp2_with fail
        go_ret
        exact ⟨by simp, HB7.out⟩
    · have b6 : decide ((60 : Int) < (s.size : Int)) = false := by simp; omega
      have HSZ : Hid (s.size ≤ 200) := by show _ ≤ _; omega
      clear h60
      have htg := tag_rules _ _ P0 kk s w5 HALL.out.1 HALL.out.2 HRW.out HTG.out (by have := HSZ.out; omega)
      obtain ⟨ft, HFT⟩ : ∃ z, Hid (firstR P0.empty.length (doneB P0 (s).data.toList) = z) := ⟨_, (rfl : _ = _)⟩
      rw [HFT.out] at htg
      have y0 := HBX.out.1
      have y1 := HBX.out.2.1
      go_wp2_with fail
      clear y0 y1
      refine htg.mono ?_
      rintro _ w6 ⟨rfl, hb6⟩
      have HB6 : Hid (Below w.heap.size w w6) := HB5.out.trans (hb6.mono HB5.out.size)
      have hcm := matched_any _ ts xs s (doneB P0 (s).data.toList) w6 ((HTS.out.next HB6.out).wide HB6.out.size) HRT.out HLN.out.2.2 HLN.out.2.1 HSZ.out (fun i hi => Pm.done_iff HRI.out _ i hi)
      clear htg hb6 HB5
      go_wp2_with fail
      refine hcm.mono ?_
      rintro _ w7 ⟨vo, vn, vc, rfl, hin, hb7⟩
      have HB7 : Hid (Below w.heap.size w w7) := HB6.out.trans (hb7.mono HB6.out.size)
      clear hcm hb7 HB6
      rcases sel_head ts.length (doneB P0 (s).data.toList) with ⟨hse, hft⟩ | ⟨l9, hse⟩
      · rw [hse] at hin
        have hvn : vn = 0 := by obtain ⟨_, _, he, _⟩ := hin; cases he; rfl
        subst hvn
        have HF : Hid (ft = -1) := by show _ = _; rw [← HFT.out, HEL.out]; exact hft
        clear hse hft hin
        have bft : (ft == (-1 : Int)) = true := by rw [HF.out]; rfl
        go_wp2_with fail
        go_ret
        exact ⟨by simp [HF.out], HB7.out⟩
      · have hft : firstR ts.length (doneB P0 (s).data.toList) = ft := by rw [← HEL.out]; exact HFT.out
        rw [hse, hft] at hin
        obtain ⟨b9, o9, rfl, hc9, rfl⟩ := ints_head hin
        have hpos : decide ((0 : Int) < (((l9.length + 1 : Nat) : Int))) = true := decide_eq_true (by omega)
        have h00 : (0 : Int) < ((l9.length + 1 : Nat) : Int) := by omega
        obtain ⟨ln, HLN9⟩ : ∃ z, Hid (l9.length + 1 = z) := ⟨_, (rfl : _ = _)⟩
        rw [HLN9.out] at hpos h00 ⊢
        have hposn : decide (0 < ln) = true := by simp; omega
        have hnn : 0 < ln := by omega
        clear hse hft hin
        go_wp2_with fail
        go_ret
        exact ⟨by simp, HB7.out⟩

/-! ### What the walk gives, for every argument -/
set_option maxRecDepth 100000 in
theorem contract (H : Type) (enc : TypeId × Value → H) (W : World) (base : Nat) (args : Array Value) (ds gs : List (DataW H)) (before : List MemPlace)
    (hval : ∀ (j : Nat) t v, Try.f4.params[j]? = some t → args[j]? = some v → Value.okWide Try.prog W .any base t v)
    (hW : DataW.Whole enc Try.prog Try.f4.params.toList Rows.dfaMeansSpec.vars false W args.toList ds gs before) (hsz : (DataW.weightsEach Try.prog (Try.f4.params.toList ++ Rows.dfaMeansSpec.plain.varTypes Try.prog) (ds ++ gs)).all (· ≤ reachBytes) = true) :
    Calls Try.prog 4 args W fun e W' => ∃ v, e = .returned v ∧ Rows.dfaMeansSpec.post enc Try.prog Try.f4 false true false false W args v W' := by
  have hW' := hW
  obtain ⟨p, q, hA0, hV, rfl, hfz, hnd⟩ := hW
  have hA : DataW.TrodAll enc Try.prog W 0 (fun _ => true) true Try.f4.params.toList args.toList ds p := hA0
  rw [Try.params4] at hA hval hsz
  obtain ⟨v0, vs0, d0, ds0, p0, q0, hargs, rfl, rfl, h0, r0⟩ := trodAll_cons hA
  obtain ⟨v1, vs1, d1, ds1, p1, q1, rfl, rfl, rfl, h1, r1⟩ := trodAll_cons r0
  obtain ⟨rfl, rfl, rfl⟩ := trodAll_nil r1
  obtain rfl : args = #[v0, v1] := by cases args; simp_all
  obtain ⟨rfl, rfl⟩ := trodVars_none hV
  have k0 := h0
  have lt0 : ∀ x ∈ p0, x.block < W.heap.size := by obtain ⟨m, hm⟩ := k0; exact DataW.trod_lt m _ _ _ hm
  obtain ⟨a0l, w0s⟩ := open_rxs (hval 0 37 v0 rfl rfl) h0
  obtain ⟨a1, rfl, rfl, rfl, w1⟩ := open_string Try.underlying9 (hval 1 9 v1 rfl rfl) h1
  have r1z : a1.size ≤ 140737488351232 := by have := sized_string hsz (j := 1) (t := 9) rfl rfl; simpa [reachBytes] using this
  clear hA0
  refine (walk _ a0l a1 W w0s r1z).mono fun e W' ⟨he, bel⟩ => ?_
  subst he
  exact ⟨_, rfl, _, _, _, [], _, [], hW', trodAll_mk1 (shut_bool Try.underlying4 _), (trodAll_cons_mk (Below.trod laidOut (by kernel_rfl) (of_decide_eq_true (by kernel_rfl)) k0 bel lt0) (trodAll_cons_mk (shut_string Try.underlying9 w1) trodAll_mk0)), rfl, bel.frame _, fun h => by cases h⟩

/-! ### The row's step -/
set_option maxRecDepth 100000 in
theorem lifted (os : Os) (started : os.Started) (H : Type) (enc : TypeId × Value → H) :
    ReturnsInHanded {} Try.checked os 4 .any (Rows.dfaMeansSpec.pre6 enc Try.prog Try.f4 Rows.dfaMeansRow.domain false) (Rows.dfaMeansSpec.post enc Try.prog Try.f4 false true false false) := by
  refine returnsInHanded_of_change_sized (C := Try.checked) own started (by kernel_rfl) Try.func4
    (ChangeSpec.witness6 (enc := enc) (C := Try.checked) false ⟨#[], #[.slice none 0 0, .string .empty], []⟩ 8 (by kernel_rfl) (by kernel_rfl) (by kernel_rfl) (by kernel_rfl)) ?_
  intro W base args ds gs before hval hW hcnd hsz _
  exact contract H enc W base args ds gs before hval hW hsz

theorem over : Rows.dfaMeansRow.holds Try.pinned (OpenSpec.ofChange Rows.dfaMeansSpec) :=
  OpenClaim.holds_of_wide 4 Try.f4 rfl rfl rfl rfl rfl rfl rfl ⟨rfl, rfl, rfl, rfl, rfl⟩ rfl rfl rfl rfl rfl (by kernel_rfl) Try.func4 (by kernel_rfl)
    (of_decide_eq_true (by kernel_rfl)) (by unfold Func.isWrapper; first | (rw [if_pos (by decide +kernel)]; kernel_rfl) | (rw [if_neg (by decide +kernel)]; exact ⟨rfl, rfl⟩))
    (fun os started H enc _ => lifted os started H enc)

end Go.Proofs.Ytlmlkpdppkgenaa.dfaMeans
namespace Go.Proofs.Ytlmlkpdppkgenaa
/-- The given statement. -/
theorem dfaMeans_holds : Rows.DfaMeansSaid := dfaMeans.over
#print axioms dfaMeans_holds
end Go.Proofs.Ytlmlkpdppkgenaa
