/-
  PlacesAlone returns true whatever rules and text are handed in, and changes nothing that it was handed; no condition.
-/
import Derived.Test.YtgdaegmmapljgaaRows
import Derived.WalkKit
import Derived.ProofKit
import Derived.OpenShut
import Derived.ShutString
import Derived.SizedLaws
import Derived.ChangeOld
import Derived.Below
import Derived.Carry
import Derived.WalkLawsBesides
import Derived.WalkSpells
import Derived.Test.YtgdaegmmapljgaaOpens
import Derived.Test.YtgdaegmmapljgaaPmLaw0
namespace Go.Proofs.Ytgdaegmmapljgaa.placesAlone
open Go.ChangeShapes Go.WideShapes Go.ChangeAt Go.RowKit
open Go.ChangeMaps (open_string shut_string)
open Cls Po Rex
set_option linter.unusedVariables false

theorem own : ownKnob Try.prog.godebug = none := by kernel_rfl
theorem laidOut : laidOutB Try.prog = true := by kernel_rfl

/-! ### The walk: the Go text returns true. -/
set_option maxHeartbeats 16000000 in
set_option maxRecDepth 20000 in
theorem walk (v0 : Value) (a0l : List T) (a1 : ByteArray) (w : World) (w0s : Rxs w w.heap.size v0 a0l) (w1 : a1.size ≤ 140737488351232) :
    Calls Try.prog 6 #[v0, .string a1] w fun e w' => e = .returned (.bool true) ∧ Below w.heap.size w w' := by
  have HTS : Hid (Rxs w w.heap.size v0 a0l) := w0s
  obtain ⟨ao, cap, vals, rfl, hm, -, -⟩ := w0s
  revert HTS hm
  generalize a0l = ts
  generalize a1 = s
  intro _ _
  rename Hid (Rxs _ _ _ _) => HTS
  rename _ ≤ _ => hm
  obtain ⟨xs, HXS⟩ : ∃ xs, Hid (mkErr ts = 0 → Pm.Rts ts xs) := by
    by_cases h : mkErr ts = 0
    · obtain ⟨xs, hx⟩ := Pm.rts_of (mkErr_len h).2.2
      exact ⟨xs, fun _ => hx⟩
    · exact ⟨[], fun e => absurd e h⟩
  by_cases h0 : mkAns ts xs = 0
  · have HK0 : Hid (mkAns ts xs = 0) := h0
    have HRT : Hid (Pm.Rts ts xs) := HXS.out (mkAns_fine h0).1
    have HLN : Hid (1 ≤ ts.length ∧ ts.length ≤ 20 ∧ Pm.errL ts = 0) := mkErr_len (mkAns_fine h0).1
    obtain ⟨P0, HP0⟩ : ∃ P0, Hid (Pm.rulesX xs 0 Pm.p00 = P0) := ⟨_, (rfl : _ = _)⟩
    have HRI : Hid (Pm.RI xs xs.length P0) := by rw [← HP0.out]; exact Pm.ri_all xs
    have HOK : Hid (Po.ok P0 = true ∧ P0.cls.length ≤ 200) := ⟨Pm.ri_ok HRI.out (by rw [HRT.out.len]; exact HLN.out.1) (by rw [HRT.out.len]; exact HLN.out.2.1), by rw [← HP0.out]; exact (mkAns_fine h0).2⟩
    have hcm := PMake_fine _ ts xs w HTS.out HRT.out h0
    rw [HP0.out] at hcm
    clear h0 HXS
    go_enter Try.func6, Try.ntmps6
    go_wp2_with fail
    refine hcm.mono ?_
    rintro _ w1 ⟨a, m, d, V, rfl, hpf⟩
    have hb1 := below_alloc1 w1 (Obj.cells #[.slice (a 0) (m 0) (d 0), .slice (a 1) (m 1) (d 1), .slice (a 2) (m 2) (d 2), .slice (a 3) (m 3) (d 3), .slice (a 4) (m 4) (d 4), .slice (a 5) (m 5) (d 5)] 28)
    have hbx := new_at w1 (Obj.cells #[.slice (a 0) (m 0) (d 0), .slice (a 1) (m 1) (d 1), .slice (a 2) (m 2) (d 2), .slice (a 3) (m 3) (d 3), .slice (a 4) (m 4) (d 4), .slice (a 5) (m 5) (d 5)] 28) rfl
    obtain ⟨w2, HW2⟩ : ∃ w2, Hid (w1.alloc (Obj.cells #[.slice (a 0) (m 0) (d 0), .slice (a 1) (m 1) (d 1), .slice (a 2) (m 2) (d 2), .slice (a 3) (m 3) (d 3), .slice (a 4) (m 4) (d 4), .slice (a 5) (m 5) (d 5)] 28) = w2) := ⟨_, (rfl : _ = _)⟩
    rw [HW2.out] at hb1 hbx
    have HB2 : Hid (Below w.heap.size w w2) := hpf.bl.trans (hb1.mono hpf.bl.size)
    have HPN : Hid (Pn w2 (.slice (a 0) (m 0) (d 0)) (.slice (a 1) (m 1) (d 1)) (.slice (a 2) (m 2) (d 2)) (.slice (a 3) (m 3) (d 3)) (.slice (a 4) (m 4) (d 4)) (.slice (a 5) (m 5) (d 5)) P0) := hpf.pn.below hb1
    have HBX : Hid (w2.heap[w1.heap.size]? = some (.cells #[.slice (a 0) (m 0) (d 0), .slice (a 1) (m 1) (d 1), .slice (a 2) (m 2) (d 2), .slice (a 3) (m 3) (d 3), .slice (a 4) (m 4) (d 4), .slice (a 5) (m 5) (d 5)] 28)) := hbx
    have HM5 : Hid (m 5 = xs.length) := by
      obtain ⟨base, gp, -, hp⟩ := hpf.ex
      have := own_len (hp.own 5 (by omega))
      rw [this]; exact HRI.out.el
    obtain ⟨gb, HGB⟩ : ∃ gb, Hid (w1.heap.size = gb) := ⟨_, (rfl : w1.heap.size = w1.heap.size)⟩
    rw [HGB.out] at HBX
    obtain ⟨⟨y0, y1, y2, y3, y4, y5⟩, -⟩ := cells6 HBX.out
    rw [← HW2.out] at y0 y1 y2 y3 y4 y5
    rw [← HGB.out] at y0 y1 y2 y3 y4 y5
    have hcr := Rules_any (.slice (a 0) (m 0) (d 0)) (.slice (a 1) (m 1) (d 1)) (.slice (a 2) (m 2) (d 2)) (.slice (a 3) (m 3) (d 3)) (.slice (a 4) (m 4) (d 4)) (.slice (a 5) (m 5) (d 5)) P0 s w2 HPN.out
    obtain ⟨er, HER⟩ : ∃ er, Hid (chkBoth P0 s.data.toList = er) := ⟨_, (rfl : _ = _)⟩
    obtain ⟨LL, HLL⟩ : ∃ LL, Hid (rulesL P0 s.data.toList = LL) := ⟨_, (rfl : _ = _)⟩
    rw [HER.out, HLL.out] at hcr
    have HCK : Hid (chk P0 = 0) := Po.chk_fine HOK.out.1 (by have := HOK.out.2; omega)
    have HSL : Hid (s.data.toList.length = s.size) := by show _ = _; rw [Array.length_toList]; rfl
    clear hcm hpf hb1 hbx
    go_wp2_with fail
    rw [HW2.out, HGB.out]
    clear y0 y1 y2 y3 y4 y5 HW2 HGB
    refine hcr.mono ?_
    rintro _ w3 ⟨v', rfl, hli, -, hb3⟩
    have HB3 : Hid (Below w.heap.size w w3) := HB2.out.trans (hb3.mono HB2.out.size)
    have HBX3 : Hid (w3.heap[gb]? = some (.cells #[.slice (a 0) (m 0) (d 0), .slice (a 1) (m 1) (d 1), .slice (a 2) (m 2) (d 2), .slice (a 3) (m 3) (d 3), .slice (a 4) (m 4) (d 4), .slice (a 5) (m 5) (d 5)] 28)) := (hb3.block _ ((Array.getElem?_eq_some_iff.1 HBX.out).1)).trans HBX.out
    have HLI : Hid (Ints w3 v' LL) := hli
    clear hcr hb3 HB2 HPN HBX
    by_cases h2 : 200 < s.size
    · obtain rfl : er = 2 := by rw [← HER.out]; unfold chkBoth; rw [if_pos HCK.out, if_pos (by rw [HSL.out]; exact h2)]
      have b1 : decide ((200 : Int) < (s.size : Int)) = true := by simp; omega
      obtain ⟨ao', c', rfl, -, -⟩ := hli
      clear h2
      go_wp2_with fail
      go_ret
      exact ⟨by simp, HB3.out⟩
    · obtain rfl : er = 0 := by rw [← HER.out]; unfold chkBoth; rw [if_pos HCK.out, if_neg (by rw [HSL.out]; exact h2)]
      have HL2 : Hid (∀ i (h : i < xs.length), LL.contains (i : Int) = true ↔ Rex.M xs[i] s.data.toList) := fun i hi => by
        rw [← HLL.out, rulesL_ok HER.out, ← Pm.done_iff HRI.out s.data.toList i hi]
        unfold doneL
        rw [List.contains_iff_mem, sel_mem]
        constructor
        · rintro ⟨y, _, h4, h5⟩
          obtain rfl : i = y := by omega
          exact h4
        · intro h4; exact ⟨i, by rw [HRI.out.el]; exact hi, h4, rfl⟩
      obtain ⟨ao', c', rfl, -, -⟩ := hli
      have HS2 : Hid (¬ 200 < s.size) := h2
      obtain ⟨ll, HLN2⟩ : ∃ ll, Hid (LL.length = ll) := ⟨_, (rfl : _ = _)⟩
      rw [HLN2.out] at HLI ⊢
      clear h2
      go_wp2_with fail
      go_loopw [44] (fun i wr => ∃ j : Nat, j ≤ ts.length ∧ i = .int .i64 (j : Int) ∧ Hid (Below w3.heap.size w3 wr)) (fun i _ => ts.length - (intOf i).toNat)
      case atStart => exact ⟨0, by omega, rfl, Below.refl _ _⟩
      case round =>
        obtain ⟨j, hj, rfl, HBJ⟩ := hrel
        have HBW : Hid (Below w.heap.size w wr) := HB3.out.trans (HBJ.out.mono HB3.out.size)
        by_cases hlt : j < ts.length
        · obtain ⟨b, o, cap2, k, c, a9, n6, p6, hve, hbB, hrx, x0, x1, x2, x3, x4, x5⟩ := HTS.out.at hlt
          cases hve
          replace x0 := (HBW.out.cell (p := ⟨b, o + j * 6, none⟩) hbB).trans x0
          replace x1 := (HBW.out.cell (p := ⟨b, o + j * 6 + 1, none⟩) hbB).trans x1
          replace x2 := (HBW.out.cell (p := ⟨b, o + j * 6 + 2, none⟩) hbB).trans x2
          replace x3 := (HBW.out.cell (p := ⟨b, o + j * 6 + 3, none⟩) hbB).trans x3
          replace x4 := (HBW.out.cell (p := ⟨b, o + j * 6 + 4, none⟩) hbB).trans x4
          replace x5 := (HBW.out.cell (p := ⟨b, o + j * 6 + 5, none⟩) hbB).trans x5
          have hxl : j < xs.length := by rw [HRT.out.len]; exact hlt
          have HRT1 : Hid (Pm.Rts [ts[j]] [xs[j]]) := ⟨rfl, fun i hi hi2 => by
            obtain rfl : i = 0 := by simpa using hi
            exact HRT.out.is j hlt hxl, fun x hx => by simp at hx; subst hx; exact HRT.out.few _ (List.getElem_mem _)⟩
          have HE1 : Hid (mkErr [ts[j]] = 0) := by
            show _ = _
            unfold mkErr; rw [if_neg (by simp)]
            unfold Pm.errL
            rw [if_pos (Pm.errL_all HLN.out.2.2 _ (List.getElem_mem hlt))]; rfl
          have HRI1 : Hid (Pm.RI [xs[j]] 1 (Pm.rulesX [xs[j]] 0 Pm.p00)) := Pm.ri_all [xs[j]]
          have HC1 : Hid ((Pm.rulesX [xs[j]] 0 Pm.p00).cls.length ≤ 200) := by
            have := (Pm.layX_good xs[j] ⟨[], []⟩ rfl).few
            have h3 := HRT.out.few _ (List.getElem_mem hxl)
            show ((Pm.layX xs[j] ⟨[], []⟩).2.cls).length ≤ 200
            simp only [List.length_nil] at this; omega
          have HA1 : Hid (mkAns [ts[j]] [xs[j]] = 0) := by show _ = _; unfold mkAns; rw [if_pos HE1.out, if_neg (by have := HC1.out; omega)]
          have HMJ : Hid (LL.contains (j : Int) = true ↔ Rex.M xs[j] s.data.toList) := HL2.out j hxl
          have hba := below_alloc1 wr (Obj.cells #[.int .i64 k, .int .u64 (c.1.toNat : Int), .int .u64 (c.2.1.toNat : Int), .int .u64 (c.2.2.1.toNat : Int), .int .u64 (c.2.2.2.toNat : Int), .slice a9 n6 p6] 44)
          have hbb := below_alloc1 (wr.alloc (Obj.cells #[.int .i64 k, .int .u64 (c.1.toNat : Int), .int .u64 (c.2.1.toNat : Int), .int .u64 (c.2.2.1.toNat : Int), .int .u64 (c.2.2.2.toNat : Int), .slice a9 n6 p6] 44)) (Obj.cells #[.int .i64 k, .int .u64 (c.1.toNat : Int), .int .u64 (c.2.1.toNat : Int), .int .u64 (c.2.2.1.toNat : Int), .int .u64 (c.2.2.2.toNat : Int), .slice a9 n6 p6] 44)
          have hro := rxs_one (wr.alloc (Obj.cells #[.int .i64 k, .int .u64 (c.1.toNat : Int), .int .u64 (c.2.1.toNat : Int), .int .u64 (c.2.2.1.toNat : Int), .int .u64 (c.2.2.2.toNat : Int), .slice a9 n6 p6] 44)) (wr.alloc (Obj.cells #[.int .i64 k, .int .u64 (c.1.toNat : Int), .int .u64 (c.2.1.toNat : Int), .int .u64 (c.2.2.1.toNat : Int), .int .u64 (c.2.2.2.toNat : Int), .slice a9 n6 p6] 44)).heap.size k c a9 n6 p6 ts[j] (((hrx.next HBW.out).next (hba.mono HBW.out.size)).wide (Nat.le_trans HBW.out.size hba.size)) (Nat.le_refl _)
          have hsz2 : ((wr.alloc (Obj.cells #[.int .i64 k, .int .u64 (c.1.toNat : Int), .int .u64 (c.2.1.toNat : Int), .int .u64 (c.2.2.1.toNat : Int), .int .u64 (c.2.2.2.toNat : Int), .slice a9 n6 p6] 44)).alloc (Obj.cells #[.int .i64 k, .int .u64 (c.1.toNat : Int), .int .u64 (c.2.1.toNat : Int), .int .u64 (c.2.2.1.toNat : Int), .int .u64 (c.2.2.2.toNat : Int), .slice a9 n6 p6] 44)).heap.size = (wr.alloc (Obj.cells #[.int .i64 k, .int .u64 (c.1.toNat : Int), .int .u64 (c.2.1.toNat : Int), .int .u64 (c.2.2.1.toNat : Int), .int .u64 (c.2.2.2.toNat : Int), .slice a9 n6 p6] 44)).heap.size + 1 := by simp
          rw [← hsz2] at hro
          have hcm := PMake_fine _ [ts[j]] [xs[j]] _ hro HRT1.out HA1.out
          have hb2 := hba.trans (hbb.mono hba.size)
          have hsz1 : (wr.alloc (Obj.cells #[.int .i64 k, .int .u64 (c.1.toNat : Int), .int .u64 (c.2.1.toNat : Int), .int .u64 (c.2.2.1.toNat : Int), .int .u64 (c.2.2.2.toNat : Int), .slice a9 n6 p6] 44)).heap.size = wr.heap.size + 1 := by simp
          rw [hsz1] at hcm
          obtain ⟨wb, HWB⟩ : ∃ wb, Hid ((wr.alloc (Obj.cells #[.int .i64 k, .int .u64 (c.1.toNat : Int), .int .u64 (c.2.1.toNat : Int), .int .u64 (c.2.2.1.toNat : Int), .int .u64 (c.2.2.2.toNat : Int), .slice a9 n6 p6] 44)).alloc (Obj.cells #[.int .i64 k, .int .u64 (c.1.toNat : Int), .int .u64 (c.2.1.toNat : Int), .int .u64 (c.2.2.1.toNat : Int), .int .u64 (c.2.2.2.toNat : Int), .slice a9 n6 p6] 44) = wb) := ⟨_, (rfl : _ = _)⟩
          rw [HWB.out] at hcm hb2
          obtain ⟨xj, HXJ⟩ : ∃ z, Hid (xs[j]'hxl = z) := ⟨xs[j]'hxl, Eq.refl _⟩
          rw [HXJ.out] at hcm HRI1 HC1 HMJ
          obtain ⟨P1, HP1⟩ : ∃ z, Hid (Pm.rulesX [xj] 0 Pm.p00 = z) := ⟨Pm.rulesX [xj] 0 Pm.p00, Eq.refl _⟩
          rw [HP1.out] at hcm HRI1 HC1
          have HBB : Hid (Below w3.heap.size w3 wb) := HBJ.out.trans (hb2.mono HBJ.out.size)
          have hq0 : (0 : Int) ≤ (j : Int) := by omega
          have hq1 : (j : Int) < (ts.length : Int) := by omega
          clear hrx hba hbb hro hb2 HBJ HBW HA1 HE1 HRT1 hsz1 hsz2 HP1
          go_wp2_with fail
          rw [HWB.out]
          clear x0 x1 x2 x3 x4 x5
          refine hcm.mono ?_
          rintro _ w4 ⟨e4, m4, d4, V4, rfl, hpf⟩
          have hb1 := below_alloc1 w4 (Obj.cells #[.slice (e4 0) (m4 0) (d4 0), .slice (e4 1) (m4 1) (d4 1), .slice (e4 2) (m4 2) (d4 2), .slice (e4 3) (m4 3) (d4 3), .slice (e4 4) (m4 4) (d4 4), .slice (e4 5) (m4 5) (d4 5)] 28)
          have hbx := new_at w4 (Obj.cells #[.slice (e4 0) (m4 0) (d4 0), .slice (e4 1) (m4 1) (d4 1), .slice (e4 2) (m4 2) (d4 2), .slice (e4 3) (m4 3) (d4 3), .slice (e4 4) (m4 4) (d4 4), .slice (e4 5) (m4 5) (d4 5)] 28) rfl
          obtain ⟨w5, HW5⟩ : ∃ w5, Hid (w4.alloc (Obj.cells #[.slice (e4 0) (m4 0) (d4 0), .slice (e4 1) (m4 1) (d4 1), .slice (e4 2) (m4 2) (d4 2), .slice (e4 3) (m4 3) (d4 3), .slice (e4 4) (m4 4) (d4 4), .slice (e4 5) (m4 5) (d4 5)] 28) = w5) := ⟨_, (rfl : _ = _)⟩
          rw [HW5.out] at hb1 hbx
          have HB5 : Hid (Below w3.heap.size w3 w5) := HBB.out.trans ((hpf.bl.trans (hb1.mono hpf.bl.size)).mono HBB.out.size)
          have hpn := hpf.pn.below hb1
          obtain ⟨⟨y0, y1, y2, y3, y4, y5⟩, -⟩ := cells6 hbx
          rw [← HW5.out] at y0 y1 y2 y3 y4 y5
          have hcr := Rules_any (.slice (e4 0) (m4 0) (d4 0)) (.slice (e4 1) (m4 1) (d4 1)) (.slice (e4 2) (m4 2) (d4 2)) (.slice (e4 3) (m4 3) (d4 3)) (.slice (e4 4) (m4 4) (d4 4)) (.slice (e4 5) (m4 5) (d4 5)) P1 s w5 hpn
          have HC0 : Hid (chkBoth P1 s.data.toList = 0) := by
            show _ = _
            unfold chkBoth
            rw [Po.chk_fine (Pm.ri_ok HRI1.out (Nat.le_refl _) (by show 1 ≤ 20; omega)) (by have := HC1.out; omega), if_pos rfl, if_neg (by rw [HSL.out]; exact HS2.out)]
          rw [HC0.out, rulesL_ok HC0.out] at hcr
          have HD1 : Hid (((doneL P1 s.data.toList).length = 1) ↔ Rex.M xj s.data.toList) := by
            show _ ↔ Rex.M (([xj] : List Rex.E)[0]'(by simp)) s.data.toList
            rw [← Pm.done_iff HRI1.out s.data.toList 0 (by simp)]
            have he : P1.empty.length = 0 + 1 := HRI1.out.el
            unfold doneL
            rw [he, sel_step]
            by_cases hd : doneB P1 s.data.toList 0 = true
            · simp [hd, sel]
            · simp [hd, sel]
          obtain ⟨LJ, HLJ⟩ : ∃ LJ, Hid (doneL P1 s.data.toList = LJ) := ⟨_, (rfl : _ = _)⟩
          rw [HLJ.out] at hcr HD1
          clear hcm hpf hb1 hbx hpn HBB HWB
          go_wp2_with fail
          rw [HW5.out]
          clear y0 y1 y2 y3 y4 y5 HW5
          refine hcr.mono ?_
          rintro _ w6 ⟨v6, rfl, hli6, -, hb6⟩
          have HB6 : Hid (Below w3.heap.size w3 w6) := HB5.out.trans (hb6.mono HB5.out.size)
          obtain ⟨a6, c6, rfl, -, -⟩ := hli6
          have HIC : Hid (Ints w6 (.slice ao' ll c') LL) := HLI.out.below HB6.out
          have hct := contains_any _ LL (j : Int) w6 HIC.out
          obtain ⟨bb, HBB6⟩ : ∃ bb, Hid (LL.contains (j : Int) = bb) := ⟨_, (rfl : _ = _)⟩
          rw [HBB6.out] at hct HMJ
          have b8 : ((LJ.length : Int) == 1) = bb := by
            cases bb with
            | true => have h7 := HD1.out.2 (HMJ.out.1 rfl); simp; omega
            | false =>
              have h7 : ¬ LJ.length = 1 := fun e => by have := HMJ.out.2 (HD1.out.1 e); cases this
              simp; omega
          have b9 : (bb != bb) = false := by cases bb <;> rfl
          clear hcr hb6 HB5
          go_wp2_with fail
          refine hct.mono ?_
          rintro _ w7 ⟨rfl, h7⟩
          rw [h7]
          clear hct h7
          go_wp2_with fail
          go_roundw
          case rel => exact ⟨j + 1, by omega, by go_num, HB6⟩
          case measure => simp [intOf]; omega
        · have hjn : ¬ (j : Int) < (ts.length : Int) := by omega
          have hbk := (HBJ.out.block _ ((Array.getElem?_eq_some_iff.1 HBX3.out).1)).trans HBX3.out
          obtain ⟨⟨y0, y1, y2, y3, y4, y5⟩, -⟩ := cells6 hbk
          have b5 : ((m 5 : Int) == (ts.length : Int)) = true := by rw [HM5.out, HRT.out.len]; simp
          clear hbk hlt
          go_wp2_with fail
          go_ret
          exact ⟨by simp, HBW.out⟩
  · obtain ⟨r, HR⟩ : ∃ r, Hid (mkAns ts xs = r) := ⟨_, (rfl : _ = _)⟩
    have hcm := PMake_err _ ts xs w HTS.out HXS.out h0
    rw [HR.out] at hcm h0
    have b0 : (r != 0) = true := by simpa using h0
    clear h0
    go_enter Try.func6, Try.ntmps6
    go_wp2_with fail
    refine hcm.mono ?_
    rintro _ w1 ⟨rfl, hb1⟩
    have HB1 : Hid (Below w.heap.size w (w1.alloc (Obj.cells #[.slice none 0 0, .slice none 0 0, .slice none 0 0, .slice none 0 0, .slice none 0 0, .slice none 0 0] 28))) := hb1.trans ((below_alloc1 w1 _).mono hb1.size)
    clear hcm hb1
    go_wp2_with fail
    go_ret
    exact ⟨by simp, HB1.out⟩

/-! ### What the walk gives, for every argument -/
set_option maxRecDepth 100000 in
theorem contract (H : Type) (enc : TypeId × Value → H) (W : World) (base : Nat) (args : Array Value) (ds gs : List (DataW H)) (before : List MemPlace)
    (hval : ∀ (j : Nat) t v, Try.f6.params[j]? = some t → args[j]? = some v → Value.okWide Try.prog W .any base t v)
    (hW : DataW.Whole enc Try.prog Try.f6.params.toList Rows.placesAloneSpec.vars false W args.toList ds gs before) (hsz : (DataW.weightsEach Try.prog (Try.f6.params.toList ++ Rows.placesAloneSpec.plain.varTypes Try.prog) (ds ++ gs)).all (· ≤ reachBytes) = true) :
    Calls Try.prog 6 args W fun e W' => ∃ v, e = .returned v ∧ Rows.placesAloneSpec.post enc Try.prog Try.f6 false true false false W args v W' := by
  have hW' := hW
  obtain ⟨p, q, hA0, hV, rfl, hfz, hnd⟩ := hW
  have hA : DataW.TrodAll enc Try.prog W 0 (fun _ => true) true Try.f6.params.toList args.toList ds p := hA0
  rw [Try.params6] at hA hval hsz
  obtain ⟨v0, vs0, d0, ds0, p0, q0, hargs, rfl, rfl, h0, r0⟩ := trodAll_cons hA
  obtain ⟨v1, vs1, d1, ds1, p1, q1, rfl, rfl, rfl, h1, r1⟩ := trodAll_cons r0
  obtain ⟨rfl, rfl, rfl⟩ := trodAll_nil r1
  obtain rfl : args = #[v0, v1] := by cases args; simp_all
  obtain ⟨rfl, rfl⟩ := trodVars_none hV
  have k0 := h0
  have lt0 : ∀ x ∈ p0, x.block < W.heap.size := by obtain ⟨m, hm⟩ := k0; exact DataW.trod_lt m _ _ _ hm
  obtain ⟨a0l, w0s⟩ := open_rxs (hval 0 22 v0 rfl rfl) h0
  obtain ⟨a1, rfl, rfl, rfl, w1⟩ := open_string Try.underlying9 (hval 1 9 v1 rfl rfl) h1
  have r1z : a1.size ≤ 140737488351232 := by have := sized_string hsz (j := 1) (t := 9) rfl rfl; simpa [reachBytes] using this
  clear hA0
  refine (walk _ a0l a1 W w0s r1z).mono fun e W' ⟨he, bel⟩ => ?_
  subst he
  exact ⟨_, rfl, _, _, _, [], _, [], hW', trodAll_mk1 (shut_bool Try.underlying4 _), (trodAll_cons_mk (Below.trod laidOut (by kernel_rfl) (of_decide_eq_true (by kernel_rfl)) k0 bel lt0) (trodAll_cons_mk (shut_string Try.underlying9 w1) trodAll_mk0)), rfl, bel.frame _, fun h => by cases h⟩

/-! ### The row's step -/
set_option maxRecDepth 100000 in
theorem lifted (os : Os) (started : os.Started) (H : Type) (enc : TypeId × Value → H) :
    ReturnsInHanded {} Try.checked os 6 .any (Rows.placesAloneSpec.pre6 enc Try.prog Try.f6 Rows.placesAloneRow.domain false) (Rows.placesAloneSpec.post enc Try.prog Try.f6 false true false false) := by
  refine returnsInHanded_of_change_sized (C := Try.checked) own started (by kernel_rfl) Try.func6
    (ChangeSpec.witness6 (enc := enc) (C := Try.checked) false ⟨#[], #[.slice none 0 0, .string .empty], []⟩ 8 (by kernel_rfl) (by kernel_rfl) (by kernel_rfl) (by kernel_rfl)) ?_
  intro W base args ds gs before hval hW hcnd hsz _
  exact contract H enc W base args ds gs before hval hW hsz

theorem over : Rows.placesAloneRow.holds Try.pinned (OpenSpec.ofChange Rows.placesAloneSpec) :=
  OpenClaim.holds_of_wide 6 Try.f6 rfl rfl rfl rfl rfl rfl rfl ⟨rfl, rfl, rfl, rfl, rfl⟩ rfl rfl rfl rfl rfl (by kernel_rfl) Try.func6 (by kernel_rfl)
    (of_decide_eq_true (by kernel_rfl)) (by unfold Func.isWrapper; first | (rw [if_pos (by decide +kernel)]; kernel_rfl) | (rw [if_neg (by decide +kernel)]; exact ⟨rfl, rfl⟩))
    (fun os started H enc _ => lifted os started H enc)

end Go.Proofs.Ytgdaegmmapljgaa.placesAlone
namespace Go.Proofs.Ytgdaegmmapljgaa
/-- The given statement. -/
theorem placesAlone_holds : Rows.PlacesAloneSaid := placesAlone.over
#print axioms placesAlone_holds
end Go.Proofs.Ytgdaegmmapljgaa
