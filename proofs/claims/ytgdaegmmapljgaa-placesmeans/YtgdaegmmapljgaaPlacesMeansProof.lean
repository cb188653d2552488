/-
  PlacesMeans returns true whatever rules and text are handed in, and changes nothing that it was handed; no condition.
-/
import Derived.Test.YtgdaegmmapljgaaRows
import Derived.WalkKit
import Derived.ProofKit
import Derived.OpenShut
import Derived.ShutString
import Derived.SizedLaws
import Derived.ChangeOld
import Derived.Below
import Derived.Carry
import Derived.WalkLawsBesides
import Derived.WalkSpells
import Derived.Test.YtgdaegmmapljgaaOpens
import Derived.Test.YtgdaegmmapljgaaPmMatched
namespace Go.Proofs.Ytgdaegmmapljgaa.placesMeans
open Go.ChangeShapes Go.WideShapes Go.ChangeAt Go.RowKit
open Go.ChangeMaps (open_string shut_string)
open Cls Po Rex
set_option linter.unusedVariables false

theorem own : ownKnob Try.prog.godebug = none := by kernel_rfl
theorem laidOut : laidOutB Try.prog = true := by kernel_rfl

/-- The one place of a letter. -/
theorem letter_right : Rex.Is (.mk 3 (range 97 97) []) (.byte (range 97 97)) := .byte (by decide)
theorem letter_ans : mkAns [.mk 3 (range 97 97) []] [.byte (range 97 97)] = 0 := by
  have h1 : rerr (.mk 3 (range 97 97) []) = 0 := by
    unfold rerr
    rw [chk_eq]
    rw [if_neg (by omega), if_neg (by omega)]
    have hn : isNode 3 (range 97 97) 0 = true := (isNode_iff _ _ _).2 (Or.inr (Or.inr (Or.inl ⟨rfl, rfl, by decide⟩)))
    show (if isNode 3 (range 97 97) 0 = true then chkL [] (1 + 1) (0 + 1) else (1, 0 + 1)).1 = 0
    rw [if_pos hn]; rfl
  have h2 : mkErr [.mk 3 (range 97 97) []] = 0 := by unfold mkErr Pm.errL; rw [if_neg (by simp), if_pos h1]; rfl
  unfold mkAns
  rw [if_pos h2, if_neg (by simp [Pm.rulesX, Pm.ruleX, Pm.layX, Pm.p00])]
theorem letter_rts : Pm.Rts [.mk 3 (range 97 97) []] [.byte (range 97 97)] := ⟨rfl, fun i hi hi2 => by
  obtain rfl : i = 0 := by simpa using hi
  exact letter_right, fun x hx => by simp at hx; subst hx; simp [Rex.E.nodes]⟩

/-! ### The walk: the Go text returns true. -/
set_option maxHeartbeats 16000000 in
set_option maxRecDepth 20000 in
theorem walk (v0 : Value) (a0l : List T) (a1 : ByteArray) (w : World) (w0s : Rxs w w.heap.size v0 a0l) (w1 : a1.size ≤ 140737488351232) :
    Calls Try.prog 5 #[v0, .string a1] w fun e w' => e = .returned (.bool true) ∧ Below w.heap.size w w' := by
  have HTS : Hid (Rxs w w.heap.size v0 a0l) := w0s
  obtain ⟨ao, cap, vals, rfl, hm, -, -⟩ := w0s
  revert HTS hm
  generalize a0l = ts
  generalize a1 = s
  intro _ _
  rename Hid (Rxs _ _ _ _) => HTS
  rename _ ≤ _ => hm
  obtain ⟨xs, HXS⟩ : ∃ xs, Hid (mkErr ts = 0 → Pm.Rts ts xs) := by
    by_cases h : mkErr ts = 0
    · obtain ⟨xs, hx⟩ := Pm.rts_of (mkErr_len h).2.2
      exact ⟨xs, fun _ => hx⟩
    · exact ⟨[], fun e => absurd e h⟩
  have hlt := letter_any 97 (by omega) (by omega) w
  go_enter Try.func5, Try.ntmps5
  go_wp2_with fail
  refine hlt.mono ?_
  rintro _ w1 ⟨lv, rfl, hrx, hb1⟩
  obtain ⟨k, c, a9, p6, kids, vals9, rfl, hte, -⟩ := hrx.shape
  obtain ⟨n6, HN6⟩ : ∃ n6, Hid (kids.length = n6) := ⟨_, (rfl : kids.length = kids.length)⟩
  rw [HN6.out] at hrx ⊢
  have hro := rxs_one w1 w1.heap.size k c a9 n6 p6 _ hrx (Nat.le_refl _)
  have hba := below_alloc1 w1 (Obj.cells #[.int .i64 k, .int .u64 (c.1.toNat : Int), .int .u64 (c.2.1.toNat : Int), .int .u64 (c.2.2.1.toNat : Int), .int .u64 (c.2.2.2.toNat : Int), .slice a9 n6 p6] 44)
  have hsz2 : (w1.alloc (Obj.cells #[.int .i64 k, .int .u64 (c.1.toNat : Int), .int .u64 (c.2.1.toNat : Int), .int .u64 (c.2.2.1.toNat : Int), .int .u64 (c.2.2.2.toNat : Int), .slice a9 n6 p6] 44)).heap.size = w1.heap.size + 1 := by simp
  rw [← hsz2] at hro
  have hcm := PMake_fine _ _ _ _ hro letter_rts letter_ans
  obtain ⟨w2, HW2⟩ : ∃ w2, Hid (w1.alloc (Obj.cells #[.int .i64 k, .int .u64 (c.1.toNat : Int), .int .u64 (c.2.1.toNat : Int), .int .u64 (c.2.2.1.toNat : Int), .int .u64 (c.2.2.2.toNat : Int), .slice a9 n6 p6] 44) = w2) := ⟨_, (rfl : _ = _)⟩
  rw [HW2.out] at hcm hba
  have HB2 : Hid (Below w.heap.size w w2) := hb1.trans (hba.mono hb1.size)
  clear hlt hrx hb1 hro hba hsz2 hte HN6
  go_wp2_with fail
  rw [HW2.out]
  clear HW2
  refine hcm.mono ?_
  rintro _ w3 ⟨a, m, d, V, rfl, hpf⟩
  have hm0 : m 0 = 1 := by
    obtain ⟨base, gp, -, hp⟩ := hpf.ex
    rw [own_len (hp.own 0 (by omega))]; simp [lenP, Pm.rulesX, Pm.ruleX, Pm.layX, Pm.p00]
  have hm2 : m 2 = 1 := by
    obtain ⟨base, gp, -, hp⟩ := hpf.ex
    rw [own_len (hp.own 2 (by omega))]; simp [lenP, Pm.rulesX, Pm.ruleX, Pm.layX, Pm.p00]
  have HB3 : Hid (Below w.heap.size w w3) := HB2.out.trans (hpf.bl.mono HB2.out.size)
  rw [hm0, hm2]
  clear hm0 hm2
  generalize a 0 = e0
  generalize a 1 = e1
  generalize a 2 = e2
  generalize a 3 = e3
  generalize a 4 = e4
  generalize a 5 = e5
  generalize m 1 = l1
  generalize m 3 = l3
  generalize m 4 = l4
  generalize m 5 = l5
  generalize d 0 = q0
  generalize d 1 = q1
  generalize d 2 = q2
  generalize d 3 = q3
  generalize d 4 = q4
  generalize d 5 = q5
  have hbz := below_alloc1 w3 (Obj.cells #[.slice e0 1 q0, .slice e1 l1 q1, .slice e2 1 q2, .slice e3 l3 q3, .slice e4 l4 q4, .slice e5 l5 q5] 28)
  obtain ⟨w3b, HW3⟩ : ∃ z, Hid (w3.alloc (Obj.cells #[.slice e0 1 q0, .slice e1 l1 q1, .slice e2 1 q2, .slice e3 l3 q3, .slice e4 l4 q4, .slice e5 l5 q5] 28) = z) := ⟨_, (rfl : _ = _)⟩
  rw [HW3.out] at hbz
  have HB4 : Hid (Below w.heap.size w w3b) := HB3.out.trans (hbz.mono HB3.out.size)
  clear hcm hpf hbz HB2 HB3
  have HTS3 : Hid (Rxs w3b w3b.heap.size (.slice ao ts.length cap) ts) := (HTS.out.next HB4.out).wide HB4.out.size
  by_cases h0 : mkAns ts xs = 0
  · have HRT : Hid (Pm.Rts ts xs) := HXS.out (mkAns_fine h0).1
    have HLN : Hid (1 ≤ ts.length ∧ ts.length ≤ 20 ∧ Pm.errL ts = 0) := mkErr_len (mkAns_fine h0).1
    obtain ⟨P0, HP0⟩ : ∃ P0, Hid (Pm.rulesX xs 0 Pm.p00 = P0) := ⟨_, (rfl : _ = _)⟩
    have HRI : Hid (Pm.RI xs xs.length P0) := by rw [← HP0.out]; exact Pm.ri_all xs
    have HOK : Hid (Po.ok P0 = true ∧ P0.cls.length ≤ 200) := ⟨Pm.ri_ok HRI.out (by rw [HRT.out.len]; exact HLN.out.1) (by rw [HRT.out.len]; exact HLN.out.2.1), by rw [← HP0.out]; exact (mkAns_fine h0).2⟩
    have HCK : Hid (chk P0 = 0) := Po.chk_fine HOK.out.1 (by have := HOK.out.2; omega)
    have hcm := PMake_fine _ ts xs w3b HTS3.out HRT.out h0
    rw [HP0.out] at hcm
    clear h0 HXS
    go_wp2_with fail
    rw [HW3.out]
    clear HW3
    refine hcm.mono ?_
    rintro _ w4 ⟨a, m, d, V, rfl, hpf⟩
    have hb4 := below_alloc1 w4 (Obj.cells #[.slice (a 0) (m 0) (d 0), .slice (a 1) (m 1) (d 1), .slice (a 2) (m 2) (d 2), .slice (a 3) (m 3) (d 3), .slice (a 4) (m 4) (d 4), .slice (a 5) (m 5) (d 5)] 28)
    have hbx := new_at w4 (Obj.cells #[.slice (a 0) (m 0) (d 0), .slice (a 1) (m 1) (d 1), .slice (a 2) (m 2) (d 2), .slice (a 3) (m 3) (d 3), .slice (a 4) (m 4) (d 4), .slice (a 5) (m 5) (d 5)] 28) rfl
    obtain ⟨w4b, HW4⟩ : ∃ z, Hid (w4.alloc (Obj.cells #[.slice (a 0) (m 0) (d 0), .slice (a 1) (m 1) (d 1), .slice (a 2) (m 2) (d 2), .slice (a 3) (m 3) (d 3), .slice (a 4) (m 4) (d 4), .slice (a 5) (m 5) (d 5)] 28) = z) := ⟨_, (rfl : _ = _)⟩
    rw [HW4.out] at hb4 hbx
    have HPN : Hid (Pn w4b (.slice (a 0) (m 0) (d 0)) (.slice (a 1) (m 1) (d 1)) (.slice (a 2) (m 2) (d 2)) (.slice (a 3) (m 3) (d 3)) (.slice (a 4) (m 4) (d 4)) (.slice (a 5) (m 5) (d 5)) P0) := hpf.pn.below hb4
    have HB5 : Hid (Below w.heap.size w w4b) := HB4.out.trans ((hpf.bl.trans (hb4.mono hpf.bl.size)).mono HB4.out.size)
    obtain ⟨gb, HGB⟩ : ∃ gb, Hid (w4.heap.size = gb) := ⟨_, (rfl : w4.heap.size = w4.heap.size)⟩
    rw [HGB.out] at hbx
    have HBX : Hid (w4b.heap[gb]? = some (.cells #[.slice (a 0) (m 0) (d 0), .slice (a 1) (m 1) (d 1), .slice (a 2) (m 2) (d 2), .slice (a 3) (m 3) (d 3), .slice (a 4) (m 4) (d 4), .slice (a 5) (m 5) (d 5)] 28)) := hbx
    clear hcm hpf hb4 hbx HB4 HTS3
    go_upto_region 5 with (fail)
    rw [HW4.out, HGB.out]
    clear HW4 HGB
    have HB4 := HB5
    clear HB5
    obtain ⟨w4, rfl⟩ : ∃ z, z = w4b := ⟨_, rfl⟩
    by_cases h60 : 60 < s.size
    · have b6 : decide ((60 : Int) < (s.size : Int)) = true := by simp; omega
      obtain ⟨s6, HS6⟩ : ∃ s6, Hid (s.extract 0 60 = s6) := ⟨_, (rfl : _ = _)⟩
      have HSZ : Hid (s6.size ≤ 200) := by show _ ≤ _; rw [← HS6.out, ByteArray.size_extract]; omega
      have h60i : (60 : Int) ≤ (s.size : Int) := by omega
      clear h60
      go_upto_region 9 with (fail)
      rw [HS6.out]
      have hcr := Rules_any (.slice (a 0) (m 0) (d 0)) (.slice (a 1) (m 1) (d 1)) (.slice (a 2) (m 2) (d 2)) (.slice (a 3) (m 3) (d 3)) (.slice (a 4) (m 4) (d 4)) (.slice (a 5) (m 5) (d 5)) P0 s6 w4 HPN.out
      obtain ⟨LL, HLL⟩ : ∃ LL, Hid (rulesL P0 (s6).data.toList = LL) := ⟨_, (rfl : _ = _)⟩
      have HC0 : Hid (chkBoth P0 (s6).data.toList = 0) := by
        show _ = _
        unfold chkBoth
        rw [HCK.out, if_pos rfl, if_neg (by rw [Array.length_toList]; exact Nat.not_lt.2 HSZ.out)]
      have HLD : Hid (LL = sel ts.length (doneB P0 (s6).data.toList)) := by
        show _ = _
        rw [← HLL.out, rulesL_ok HC0.out]
        unfold doneL
        rw [HRI.out.el, HRT.out.len]
      rw [HC0.out, HLL.out] at hcr
      obtain ⟨⟨y0, y1, y2, y3, y4, y5⟩, -⟩ := cells6 HBX.out
      go_wp2_with fail
      clear y0 y1 y2 y3 y4 y5
      refine hcr.mono ?_
      rintro _ w5 ⟨v', rfl, hli, -, hb5⟩
      have HB5 : Hid (Below w.heap.size w w5) := HB4.out.trans (hb5.mono HB4.out.size)
      have HBX5 : Hid (w5.heap[gb]? = some (.cells #[.slice (a 0) (m 0) (d 0), .slice (a 1) (m 1) (d 1), .slice (a 2) (m 2) (d 2), .slice (a 3) (m 3) (d 3), .slice (a 4) (m 4) (d 4), .slice (a 5) (m 5) (d 5)] 28)) := (hb5.block _ ((Array.getElem?_eq_some_iff.1 HBX.out).1)).trans HBX.out
      have HLI : Hid (Ints w5 v' LL) := hli
      have hck := Check_any (.slice (a 0) (m 0) (d 0)) (.slice (a 1) (m 1) (d 1)) (.slice (a 2) (m 2) (d 2)) (.slice (a 3) (m 3) (d 3)) (.slice (a 4) (m 4) (d 4)) (.slice (a 5) (m 5) (d 5)) P0 w5 (HPN.out.below hb5)
      rw [HCK.out] at hck
      obtain ⟨ao', c', rfl, -, -⟩ := hli
      obtain ⟨ll, HLN2⟩ : ∃ ll, Hid (LL.length = ll) := ⟨_, (rfl : _ = _)⟩
      rw [HLN2.out] at HLI ⊢
      clear hcr hb5 HB4 HPN HBX
      obtain ⟨⟨y0, y1, y2, y3, y4, y5⟩, -⟩ := cells6 HBX5.out
      go_wp2_with fail
      clear y0 y1 y2 y3 y4 y5
      refine hck.mono ?_
      rintro _ w6 ⟨rfl, hb6⟩
      have HB6 : Hid (Below w.heap.size w w6) := HB5.out.trans (hb6.mono HB5.out.size)
      have HLI6 : Hid (Ints w6 (.slice ao' ll c') LL) := HLI.out.below hb6
      have hcm := matched_any _ ts xs s6 (doneB P0 (s6).data.toList) w6 ((HTS.out.next HB6.out).wide HB6.out.size) HRT.out HLN.out.2.2 HLN.out.2.1 HSZ.out (fun i hi => Pm.done_iff HRI.out _ i hi)
      clear hck hb6 HB5 HLI
      go_wp2_with fail
      refine hcm.mono ?_
      rintro _ w7 ⟨vo, vn, vc, rfl, hin, hb7⟩
      have HB7 : Hid (Below w.heap.size w w7) := HB6.out.trans (hb7.mono HB6.out.size)
      rw [← HLD.out] at hin
      have hce := equal_any _ _ LL LL w7 (HLI6.out.below hb7) hin
      rw [decide_eq_true rfl] at hce
      clear hcm hin hb7 HB6 HLI6
      go_wp2_with fail
      refine hce.mono ?_
      rintro _ w8 ⟨rfl, hb8⟩
      have HB8 : Hid (Below w.heap.size w w8) := HB7.out.trans (hb8.mono HB7.out.size)
      clear hce hb8
      go_wp2_with fail
      go_ret
      exact ⟨by simp, HB8.out⟩
    · have b6 : decide ((60 : Int) < (s.size : Int)) = false := by simp; omega
      have HSZ : Hid (s.size ≤ 200) := by show _ ≤ _; omega
      clear h60
      have hcr := Rules_any (.slice (a 0) (m 0) (d 0)) (.slice (a 1) (m 1) (d 1)) (.slice (a 2) (m 2) (d 2)) (.slice (a 3) (m 3) (d 3)) (.slice (a 4) (m 4) (d 4)) (.slice (a 5) (m 5) (d 5)) P0 s w4 HPN.out
      obtain ⟨LL, HLL⟩ : ∃ LL, Hid (rulesL P0 (s).data.toList = LL) := ⟨_, (rfl : _ = _)⟩
      have HC0 : Hid (chkBoth P0 (s).data.toList = 0) := by
        show _ = _
        unfold chkBoth
        rw [HCK.out, if_pos rfl, if_neg (by rw [Array.length_toList]; exact Nat.not_lt.2 HSZ.out)]
      have HLD : Hid (LL = sel ts.length (doneB P0 (s).data.toList)) := by
        show _ = _
        rw [← HLL.out, rulesL_ok HC0.out]
        unfold doneL
        rw [HRI.out.el, HRT.out.len]
      rw [HC0.out, HLL.out] at hcr
      obtain ⟨⟨y0, y1, y2, y3, y4, y5⟩, -⟩ := cells6 HBX.out
      go_wp2_with fail
      clear y0 y1 y2 y3 y4 y5
      refine hcr.mono ?_
      rintro _ w5 ⟨v', rfl, hli, -, hb5⟩
      have HB5 : Hid (Below w.heap.size w w5) := HB4.out.trans (hb5.mono HB4.out.size)
      have HBX5 : Hid (w5.heap[gb]? = some (.cells #[.slice (a 0) (m 0) (d 0), .slice (a 1) (m 1) (d 1), .slice (a 2) (m 2) (d 2), .slice (a 3) (m 3) (d 3), .slice (a 4) (m 4) (d 4), .slice (a 5) (m 5) (d 5)] 28)) := (hb5.block _ ((Array.getElem?_eq_some_iff.1 HBX.out).1)).trans HBX.out
      have HLI : Hid (Ints w5 v' LL) := hli
      have hck := Check_any (.slice (a 0) (m 0) (d 0)) (.slice (a 1) (m 1) (d 1)) (.slice (a 2) (m 2) (d 2)) (.slice (a 3) (m 3) (d 3)) (.slice (a 4) (m 4) (d 4)) (.slice (a 5) (m 5) (d 5)) P0 w5 (HPN.out.below hb5)
      rw [HCK.out] at hck
      obtain ⟨ao', c', rfl, -, -⟩ := hli
      obtain ⟨ll, HLN2⟩ : ∃ ll, Hid (LL.length = ll) := ⟨_, (rfl : _ = _)⟩
      rw [HLN2.out] at HLI ⊢
      clear hcr hb5 HB4 HPN HBX
      obtain ⟨⟨y0, y1, y2, y3, y4, y5⟩, -⟩ := cells6 HBX5.out
      go_wp2_with fail
      clear y0 y1 y2 y3 y4 y5
      refine hck.mono ?_
      rintro _ w6 ⟨rfl, hb6⟩
      have HB6 : Hid (Below w.heap.size w w6) := HB5.out.trans (hb6.mono HB5.out.size)
      have HLI6 : Hid (Ints w6 (.slice ao' ll c') LL) := HLI.out.below hb6
      have hcm := matched_any _ ts xs s (doneB P0 (s).data.toList) w6 ((HTS.out.next HB6.out).wide HB6.out.size) HRT.out HLN.out.2.2 HLN.out.2.1 HSZ.out (fun i hi => Pm.done_iff HRI.out _ i hi)
      clear hck hb6 HB5 HLI
      go_wp2_with fail
      refine hcm.mono ?_
      rintro _ w7 ⟨vo, vn, vc, rfl, hin, hb7⟩
      have HB7 : Hid (Below w.heap.size w w7) := HB6.out.trans (hb7.mono HB6.out.size)
      rw [← HLD.out] at hin
      have hce := equal_any _ _ LL LL w7 (HLI6.out.below hb7) hin
      rw [decide_eq_true rfl] at hce
      clear hcm hin hb7 HB6 HLI6
      go_wp2_with fail
      refine hce.mono ?_
      rintro _ w8 ⟨rfl, hb8⟩
      have HB8 : Hid (Below w.heap.size w w8) := HB7.out.trans (hb8.mono HB7.out.size)
      clear hce hb8
      go_wp2_with fail
      go_ret
      exact ⟨by simp, HB8.out⟩
  · obtain ⟨r, HR⟩ : ∃ r, Hid (mkAns ts xs = r) := ⟨_, (rfl : _ = _)⟩
    have hcm := PMake_err _ ts xs w3b HTS3.out HXS.out h0
    rw [HR.out] at hcm h0
    have b0 : (r != 0) = true := by simpa using h0
    clear h0
    go_wp2_with fail
    rw [HW3.out]
    clear HW3
    refine hcm.mono ?_
    rintro _ w4 ⟨rfl, hb5⟩
    have HB5 : Hid (Below w.heap.size w (w4.alloc (Obj.cells #[.slice none 0 0, .slice none 0 0, .slice none 0 0, .slice none 0 0, .slice none 0 0, .slice none 0 0] 28))) := HB4.out.trans ((hb5.trans ((below_alloc1 w4 _).mono hb5.size)).mono HB4.out.size)
    clear hcm hb5
    go_wp2_with fail
    go_ret
    exact ⟨by simp, HB5.out⟩

/-! ### What the walk gives, for every argument -/
set_option maxRecDepth 100000 in
theorem contract (H : Type) (enc : TypeId × Value → H) (W : World) (base : Nat) (args : Array Value) (ds gs : List (DataW H)) (before : List MemPlace)
    (hval : ∀ (j : Nat) t v, Try.f5.params[j]? = some t → args[j]? = some v → Value.okWide Try.prog W .any base t v)
    (hW : DataW.Whole enc Try.prog Try.f5.params.toList Rows.placesMeansSpec.vars false W args.toList ds gs before) (hsz : (DataW.weightsEach Try.prog (Try.f5.params.toList ++ Rows.placesMeansSpec.plain.varTypes Try.prog) (ds ++ gs)).all (· ≤ reachBytes) = true) :
    Calls Try.prog 5 args W fun e W' => ∃ v, e = .returned v ∧ Rows.placesMeansSpec.post enc Try.prog Try.f5 false true false false W args v W' := by
  have hW' := hW
  obtain ⟨p, q, hA0, hV, rfl, hfz, hnd⟩ := hW
  have hA : DataW.TrodAll enc Try.prog W 0 (fun _ => true) true Try.f5.params.toList args.toList ds p := hA0
  rw [Try.params5] at hA hval hsz
  obtain ⟨v0, vs0, d0, ds0, p0, q0, hargs, rfl, rfl, h0, r0⟩ := trodAll_cons hA
  obtain ⟨v1, vs1, d1, ds1, p1, q1, rfl, rfl, rfl, h1, r1⟩ := trodAll_cons r0
  obtain ⟨rfl, rfl, rfl⟩ := trodAll_nil r1
  obtain rfl : args = #[v0, v1] := by cases args; simp_all
  obtain ⟨rfl, rfl⟩ := trodVars_none hV
  have k0 := h0
  have lt0 : ∀ x ∈ p0, x.block < W.heap.size := by obtain ⟨m, hm⟩ := k0; exact DataW.trod_lt m _ _ _ hm
  obtain ⟨a0l, w0s⟩ := open_rxs (hval 0 22 v0 rfl rfl) h0
  obtain ⟨a1, rfl, rfl, rfl, w1⟩ := open_string Try.underlying9 (hval 1 9 v1 rfl rfl) h1
  have r1z : a1.size ≤ 140737488351232 := by have := sized_string hsz (j := 1) (t := 9) rfl rfl; simpa [reachBytes] using this
  clear hA0
  refine (walk _ a0l a1 W w0s r1z).mono fun e W' ⟨he, bel⟩ => ?_
  subst he
  exact ⟨_, rfl, _, _, _, [], _, [], hW', trodAll_mk1 (shut_bool Try.underlying4 _), (trodAll_cons_mk (Below.trod laidOut (by kernel_rfl) (of_decide_eq_true (by kernel_rfl)) k0 bel lt0) (trodAll_cons_mk (shut_string Try.underlying9 w1) trodAll_mk0)), rfl, bel.frame _, fun h => by cases h⟩

/-! ### The row's step -/
set_option maxRecDepth 100000 in
theorem lifted (os : Os) (started : os.Started) (H : Type) (enc : TypeId × Value → H) :
    ReturnsInHanded {} Try.checked os 5 .any (Rows.placesMeansSpec.pre6 enc Try.prog Try.f5 Rows.placesMeansRow.domain false) (Rows.placesMeansSpec.post enc Try.prog Try.f5 false true false false) := by
  refine returnsInHanded_of_change_sized (C := Try.checked) own started (by kernel_rfl) Try.func5
    (ChangeSpec.witness6 (enc := enc) (C := Try.checked) false ⟨#[], #[.slice none 0 0, .string .empty], []⟩ 8 (by kernel_rfl) (by kernel_rfl) (by kernel_rfl) (by kernel_rfl)) ?_
  intro W base args ds gs before hval hW hcnd hsz _
  exact contract H enc W base args ds gs before hval hW hsz

theorem over : Rows.placesMeansRow.holds Try.pinned (OpenSpec.ofChange Rows.placesMeansSpec) :=
  OpenClaim.holds_of_wide 5 Try.f5 rfl rfl rfl rfl rfl rfl rfl ⟨rfl, rfl, rfl, rfl, rfl⟩ rfl rfl rfl rfl rfl (by kernel_rfl) Try.func5 (by kernel_rfl)
    (of_decide_eq_true (by kernel_rfl)) (by unfold Func.isWrapper; first | (rw [if_pos (by decide +kernel)]; kernel_rfl) | (rw [if_neg (by decide +kernel)]; exact ⟨rfl, rfl⟩))
    (fun os started H enc _ => lifted os started H enc)

end Go.Proofs.Ytgdaegmmapljgaa.placesMeans
namespace Go.Proofs.Ytgdaegmmapljgaa
/-- The given statement. -/
theorem placesMeans_holds : Rows.PlacesMeansSaid := placesMeans.over
#print axioms placesMeans_holds
end Go.Proofs.Ytgdaegmmapljgaa
