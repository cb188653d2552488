/-
  PlacesOwn returns true whatever rules are handed in, and changes nothing that it was handed; no condition.
-/
import Derived.Test.YtgdaegmmapljgaaRows
import Derived.WalkKit
import Derived.ProofKit
import Derived.OpenShut
import Derived.ShutString
import Derived.SizedLaws
import Derived.ChangeOld
import Derived.Below
import Derived.Carry
import Derived.WalkLawsBesides
import Derived.WalkSpells
import Derived.Test.YtgdaegmmapljgaaOpens
import Derived.Test.YtgdaegmmapljgaaPmOwn1
namespace Go.Proofs.Ytgdaegmmapljgaa.placesOwn
open Go.ChangeShapes Go.WideShapes Go.ChangeAt Go.RowKit
open Go.ChangeMaps (open_string shut_string)
open Cls Po Rex
set_option linter.unusedVariables false

theorem own : ownKnob Try.prog.godebug = none := by kernel_rfl
theorem laidOut : laidOutB Try.prog = true := by kernel_rfl

/-! ### The walk: the Go text returns true. -/
set_option maxHeartbeats 16000000 in
set_option maxRecDepth 20000 in
theorem walk (v0 : Value) (a0l : List T) (w : World) (w0s : Rxs w w.heap.size v0 a0l) :
    Calls Try.prog 7 #[v0] w fun e w' => e = .returned (.bool true) ∧ Below w.heap.size w w' := by
  have HTS : Hid (Rxs w w.heap.size v0 a0l) := w0s
  obtain ⟨ao, cap, vals, rfl, hm, -, -⟩ := w0s
  revert HTS hm
  generalize a0l = ts
  intro _ _
  rename Hid (Rxs _ _ _ _) => HTS
  rename _ ≤ _ => hm
  obtain ⟨xs, HXS⟩ : ∃ xs, Hid (mkErr ts = 0 → Pm.Rts ts xs) := by
    by_cases h : mkErr ts = 0
    · obtain ⟨xs, hx⟩ := Pm.rts_of (mkErr_len h).2.2
      exact ⟨xs, fun _ => hx⟩
    · exact ⟨[], fun e => absurd e h⟩
  have hlt := letter_any 97 (by omega) (by omega) w
  go_enter Try.func7, Try.ntmps7
  go_wp2_with fail
  refine hlt.mono ?_
  rintro _ w0 ⟨lv, rfl, hrx0, hb0⟩
  have hst := star_any _ _ _ w0 hrx0 (Nat.le_refl _)
  clear hlt hrx0
  go_wp2_with fail
  refine hst.mono ?_
  rintro _ w1 ⟨lv, rfl, hrx, hb1⟩
  replace hb1 := hb0.trans (hb1.mono hb0.size)
  obtain ⟨k, c, a9, p6, kids, vals9, rfl, hte, -⟩ := hrx.shape
  obtain ⟨n6, HN6⟩ : ∃ n6, Hid (kids.length = n6) := ⟨_, (rfl : kids.length = kids.length)⟩
  rw [HN6.out] at hrx ⊢
  have hro := rxs_one w1 w1.heap.size k c a9 n6 p6 _ hrx (Nat.le_refl _)
  have hba := below_alloc1 w1 (Obj.cells #[.int .i64 k, .int .u64 (c.1.toNat : Int), .int .u64 (c.2.1.toNat : Int), .int .u64 (c.2.2.1.toNat : Int), .int .u64 (c.2.2.2.toNat : Int), .slice a9 n6 p6] 44)
  have hsz2 : (w1.alloc (Obj.cells #[.int .i64 k, .int .u64 (c.1.toNat : Int), .int .u64 (c.2.1.toNat : Int), .int .u64 (c.2.2.1.toNat : Int), .int .u64 (c.2.2.2.toNat : Int), .slice a9 n6 p6] 44)).heap.size = w1.heap.size + 1 := by simp
  rw [← hsz2] at hro
  have hcm := PMake_fine _ _ _ _ hro aStar_rts aStar_ans
  obtain ⟨w2, HW2⟩ : ∃ w2, Hid (w1.alloc (Obj.cells #[.int .i64 k, .int .u64 (c.1.toNat : Int), .int .u64 (c.2.1.toNat : Int), .int .u64 (c.2.2.1.toNat : Int), .int .u64 (c.2.2.2.toNat : Int), .slice a9 n6 p6] 44) = w2) := ⟨_, (rfl : _ = _)⟩
  rw [HW2.out] at hcm hba
  have HB2 : Hid (Below w.heap.size w w2) := hb1.trans (hba.mono hb1.size)
  clear hst hrx hb0 hb1 hro hba hsz2 hte HN6
  go_wp2_with fail
  rw [HW2.out]
  clear HW2
  refine hcm.mono ?_
  rintro _ w3 ⟨a, m, d, V, rfl, hpf⟩
  have HB3 : Hid (Below w.heap.size w w3) := HB2.out.trans (hpf.bl.mono HB2.out.size)
  have hbz := below_alloc1 w3 (Obj.cells #[.slice (a 0) (m 0) (d 0), .slice (a 1) (m 1) (d 1), .slice (a 2) (m 2) (d 2), .slice (a 3) (m 3) (d 3), .slice (a 4) (m 4) (d 4), .slice (a 5) (m 5) (d 5)] 28)
  have hbx := new_at w3 (Obj.cells #[.slice (a 0) (m 0) (d 0), .slice (a 1) (m 1) (d 1), .slice (a 2) (m 2) (d 2), .slice (a 3) (m 3) (d 3), .slice (a 4) (m 4) (d 4), .slice (a 5) (m 5) (d 5)] 28) rfl
  obtain ⟨w4, HW4⟩ : ∃ z, Hid (w3.alloc (Obj.cells #[.slice (a 0) (m 0) (d 0), .slice (a 1) (m 1) (d 1), .slice (a 2) (m 2) (d 2), .slice (a 3) (m 3) (d 3), .slice (a 4) (m 4) (d 4), .slice (a 5) (m 5) (d 5)] 28) = z) := ⟨_, (rfl : _ = _)⟩
  rw [HW4.out] at hbz hbx
  have HB4 : Hid (Below w.heap.size w w4) := HB3.out.trans (hbz.mono HB3.out.size)
  obtain ⟨c3, g3, HV3, hv0, hm3, hcl⟩ : ∃ c3 g3, Hid (d 3 = c3) ∧ a 3 = some ⟨g3, 0, none⟩ ∧ m 3 = 1 ∧ ∃ o0 c0, w4.cell? ⟨g3, 0, none⟩ = some (.slice o0 1 c0) := by
    obtain ⟨base, gp, -, hp⟩ := hpf.ex
    have hp4 := hp.next hbz
    have hfl : (Pm.rulesX [.star (.byte (range 97 97))] 0 Pm.p00).follow.length = 1 := by rw [aStar_follow]; rfl
    obtain ⟨g, cp, he, -, -, hc, -⟩ := hp4.lists (i := 0) (by rw [hfl]; omega)
    have hi := hp4.inn 0 (by rw [hfl]; omega)
    rw [aStar_follow] at hi
    obtain ⟨o0, n0, c0, e0⟩ := own_form hi
    rw [e0] at hi hc
    have := own_len hi
    simp only [List.getD_cons_zero, List.length_cons, List.length_nil] at this
    subst this
    rw [hfl] at he
    simp only [Value.slice.injEq] at he
    exact ⟨_, g, rfl, he.1, he.2.1, o0, c0, hc⟩
  obtain ⟨o0, c0, hcl⟩ := hcl
  obtain ⟨⟨y0, y1, y2, y3, y4, y5⟩, -⟩ := cells6 hbx
  rw [hv0, hm3] at y3
  rw [← HW4.out] at y0 y1 y2 y3 y4 y5 hcl
  rw [hv0, hm3] at y0 y1 y2 y3 y4 y5 hcl HW4 ⊢
  clear hcm hpf hbz hbx HB2 HB3 hv0 hm3 HV3
  generalize a 0 = e0 at *
  generalize a 1 = e1 at *
  generalize a 2 = e2 at *
  generalize a 4 = e4 at *
  generalize a 5 = e5 at *
  generalize m 0 = l0 at *
  generalize m 1 = l1 at *
  generalize m 2 = l2 at *
  generalize m 4 = l4 at *
  generalize m 5 = l5 at *
  generalize d 0 = q0 at *
  generalize d 1 = q1 at *
  generalize d 2 = q2 at *
  generalize d 3 = q3 at *
  generalize d 4 = q4 at *
  generalize d 5 = q5 at *
  clear a m d V
  have HTS4 : Hid (Rxs w4 w4.heap.size (.slice ao ts.length cap) ts) := (HTS.out.next HB4.out).wide HB4.out.size
  by_cases h0 : mkAns ts xs = 0
  · have HK0 : Hid (mkAns ts xs = 0) := h0
    have HRT : Hid (Pm.Rts ts xs) := HXS.out (mkAns_fine h0).1
    have HLN : Hid (1 ≤ ts.length ∧ ts.length ≤ 20 ∧ Pm.errL ts = 0) := mkErr_len (mkAns_fine h0).1
    obtain ⟨P0, HP0⟩ : ∃ P0, Hid (Pm.rulesX xs 0 Pm.p00 = P0) := ⟨_, (rfl : _ = _)⟩
    have HSM : Hid ((∀ f, f < 6 → lenP P0 f ≤ 100000) ∧ ∀ l ∈ P0.follow, l.length ≤ 100000) := by rw [← HP0.out]; exact pos_small HRT.out.few (by rw [HRT.out.len]; exact HLN.out.2.1)
    have hcm := PMake_fine _ ts xs w4 HTS4.out HRT.out h0
    rw [HP0.out] at hcm
    clear h0 HXS
    go_wp2_with fail
    rw [HW4.out]
    clear HW4 y0 y1 y2 y3 y4 y5 hcl
    refine hcm.mono ?_
    rintro _ w5 ⟨a, m, d, V, rfl, hpf⟩
    have hb6 := below_alloc1 w5 (Obj.cells #[.slice (a 0) (m 0) (d 0), .slice (a 1) (m 1) (d 1), .slice (a 2) (m 2) (d 2), .slice (a 3) (m 3) (d 3), .slice (a 4) (m 4) (d 4), .slice (a 5) (m 5) (d 5)] 28)
    have hbx := new_at w5 (Obj.cells #[.slice (a 0) (m 0) (d 0), .slice (a 1) (m 1) (d 1), .slice (a 2) (m 2) (d 2), .slice (a 3) (m 3) (d 3), .slice (a 4) (m 4) (d 4), .slice (a 5) (m 5) (d 5)] 28) rfl
    obtain ⟨w6, HW6⟩ : ∃ z, Hid (w5.alloc (Obj.cells #[.slice (a 0) (m 0) (d 0), .slice (a 1) (m 1) (d 1), .slice (a 2) (m 2) (d 2), .slice (a 3) (m 3) (d 3), .slice (a 4) (m 4) (d 4), .slice (a 5) (m 5) (d 5)] 28) = z) := ⟨_, (rfl : _ = _)⟩
    rw [HW6.out] at hb6 hbx
    have HB6 : Hid (Below w.heap.size w w6) := HB4.out.trans ((hpf.bl.trans (hb6.mono hpf.bl.size)).mono HB4.out.size)
    have HBX : Hid (w6.heap[w5.heap.size]? = some (.cells #[.slice (a 0) (m 0) (d 0), .slice (a 1) (m 1) (d 1), .slice (a 2) (m 2) (d 2), .slice (a 3) (m 3) (d 3), .slice (a 4) (m 4) (d 4), .slice (a 5) (m 5) (d 5)] 28)) := hbx
    obtain ⟨base, gp, hgp, hp⟩ := hpf.ex
    have HPM : Hid (Pm base gp (fun f => .slice (a f) (m f) (d f)) V P0 w5) := hp
    have HGP : Hid (w.heap.size < gp) := by have := HB4.out.size; exact (by omega : w.heap.size < gp)
    have hcm2 := PMake_fine _ ts xs w6 ((HTS.out.next HB6.out).wide HB6.out.size) HRT.out HK0.out
    rw [HP0.out] at hcm2
    have HS6 : Hid (w5.heap.size ≤ w6.heap.size) := hb6.size
    have HBP5 : Hid (Below w5.heap.size w5 w6) := hb6
    clear hcm hb6 hbx hpf hp hgp
    go_wp2_with fail
    rw [HW6.out]
    clear HW6
    refine hcm2.mono ?_
    rintro _ w7 ⟨e, l, q, V2, rfl, hpf⟩
    have hb8 := below_alloc1 w7 (Obj.cells #[.slice (e 0) (l 0) (q 0), .slice (e 1) (l 1) (q 1), .slice (e 2) (l 2) (q 2), .slice (e 3) (l 3) (q 3), .slice (e 4) (l 4) (q 4), .slice (e 5) (l 5) (q 5)] 28)
    have hbx := new_at w7 (Obj.cells #[.slice (e 0) (l 0) (q 0), .slice (e 1) (l 1) (q 1), .slice (e 2) (l 2) (q 2), .slice (e 3) (l 3) (q 3), .slice (e 4) (l 4) (q 4), .slice (e 5) (l 5) (q 5)] 28) rfl
    obtain ⟨w8, HW8⟩ : ∃ z, Hid (w7.alloc (Obj.cells #[.slice (e 0) (l 0) (q 0), .slice (e 1) (l 1) (q 1), .slice (e 2) (l 2) (q 2), .slice (e 3) (l 3) (q 3), .slice (e 4) (l 4) (q 4), .slice (e 5) (l 5) (q 5)] 28) = z) := ⟨_, (rfl : _ = _)⟩
    rw [HW8.out] at hb8 hbx
    have hb9 := hpf.bl.trans (hb8.mono hpf.bl.size)
    have HB8 : Hid (Below w.heap.size w w8) := HB6.out.trans (hb9.mono HB6.out.size)
    have HBP : Hid (w8.heap[w5.heap.size]? = some (.cells #[.slice (a 0) (m 0) (d 0), .slice (a 1) (m 1) (d 1), .slice (a 2) (m 2) (d 2), .slice (a 3) (m 3) (d 3), .slice (a 4) (m 4) (d 4), .slice (a 5) (m 5) (d 5)] 28)) := (hb9.block _ ((Array.getElem?_eq_some_iff.1 HBX.out).1)).trans HBX.out
    have HBQ : Hid (w8.heap[w7.heap.size]? = some (.cells #[.slice (e 0) (l 0) (q 0), .slice (e 1) (l 1) (q 1), .slice (e 2) (l 2) (q 2), .slice (e 3) (l 3) (q 3), .slice (e 4) (l 4) (q 4), .slice (e 5) (l 5) (q 5)] 28)) := hbx
    have HS7 : Hid (w5.heap.size ≤ w7.heap.size) := Nat.le_trans HS6.out hpf.bl.size
    obtain ⟨b2, g2, hg2, hp2⟩ := hpf.ex
    have HPQ : Hid (Pm b2 g2 (fun f => .slice (e f) (l f) (q f)) V2 P0 w8 ∧ w5.heap.size ≤ g2) := ⟨hp2.next hb8, by have := HS6.out; omega⟩
    have HS0 : Hid (Sp base (fun f => .slice (a f) (m f) (d f)) V P0 0 (fun _ => True) w8 w8) := Sp.start (HPM.out.next (HBP5.out.trans (hb9.mono HBP5.out.size)))
    obtain ⟨⟨y0, y1, y2, y3, y4, y5⟩, -⟩ := cells6 HBP.out
    rw [← HW8.out] at y0 y1 y2 y3 y4 y5
    have hsp := spoilI_own 199 base _ (.slice (a 2) (m 2) (d 2)) _ w8 (HS0.out.own 2 (by omega) trivial)
    clear hcm2 hb8 hbx hb9 hpf hp2 hg2
    go_wp2_with fail
    rw [HW8.out]
    clear HW8 y0 y1 y2 y3 y4 y5
    refine hsp.mono ?_
    rintro _ w9 ⟨rfl, hg⟩
    have HS1 : Hid (Sp base (fun f => .slice (a f) (m f) (d f)) V P0 0 (fun g => True ∧ g ≠ 2) w8 w9) := HS0.out.field HPM.out (f := 2) (by omega) hg
    have HPL : Hid (w5.heap.size < w8.heap.size) := (Array.getElem?_eq_some_iff.1 HBP.out).1
    have HKP : Hid (w5.heap.size ≤ w5.heap.size) := Nat.le_refl _
    have HBP9 : Hid (w9.heap[w5.heap.size]? = some (.cells #[.slice (a 0) (m 0) (d 0), .slice (a 1) (m 1) (d 1), .slice (a 2) (m 2) (d 2), .slice (a 3) (m 3) (d 3), .slice (a 4) (m 4) (d 4), .slice (a 5) (m 5) (d 5)] 28)) := (HS1.out.blk HPM.out HKP.out HPL.out).trans HBP.out
    obtain ⟨⟨y0, y1, y2, y3, y4, y5⟩, -⟩ := cells6 HBP9.out
    have HM3 : Hid (m 3 = P0.follow.length) := own_len (HPM.out.own 3 (by omega))
    clear hsp hg HS0
    go_wp2_with fail
    clear y0 y1 y2 y3 y4 y5
    obtain ⟨A3, HA3⟩ : ∃ z, Hid (a 3 = z) := ⟨_, (rfl : a 3 = a 3)⟩
    rw [HA3.out, HM3.out]
    have hfl : P0.follow.length ≤ 100000 := HSM.out.1 3 (by omega)
    go_loopw [63] (fun i wr => ∃ j : Nat, j ≤ P0.follow.length ∧ i = .int .i64 (j : Int) ∧ Hid (Sp base (fun f => .slice (a f) (m f) (d f)) V P0 j (fun g => True ∧ g ≠ 2) w8 wr)) (fun i _ => P0.follow.length - (intOf i).toNat)
    case atStart => exact ⟨0, by omega, rfl, HS1.out⟩
    case round =>
      obtain ⟨j, hj, rfl, HSJ⟩ := hrel
      by_cases hlt : j < P0.follow.length
      · obtain ⟨g, cp, he, hc⟩ := HSJ.out.at ⟨trivial, by omega⟩ hlt
        replace he : Value.slice (a 3) (m 3) (d 3) = .slice (some ⟨g, 0, none⟩) P0.follow.length cp := he
        simp only [Value.slice.injEq] at he
        rw [HA3.out] at he
        obtain ⟨rfl, -, -⟩ := he
        have hin := HSJ.out.inn j (Nat.le_refl _) hlt
        obtain ⟨o1, n1, c1, e1⟩ := own_form hin
        have hsp := spoilI_own 199 base _ (V j) _ wr hin
        have HE1 : Hid (V j = .slice o1 n1 c1) := e1
        rw [e1] at hc hsp
        have hq0 : (0 : Int) ≤ (j : Int) := by omega
        have hq1 : (j : Int) < (P0.follow.length : Int) := by omega
        clear hin e1
        go_wp2_with fail
        refine hsp.mono ?_
        rintro _ w10 ⟨rfl, hg⟩
        rw [← HE1.out] at hg
        have HSN : Hid (Sp base (fun f => .slice (a f) (m f) (d f)) V P0 (j + 1) (fun g => True ∧ g ≠ 2) w8 w10) := HSJ.out.list HPM.out hlt hg
        clear hsp hg hc
        go_wp2_with fail
        go_roundw
        case rel => exact ⟨j + 1, by omega, by go_num, HSN⟩
        case measure => simp [intOf]; omega
      · have hjn : ¬ (j : Int) < (P0.follow.length : Int) := by omega
        have hbk := (HSJ.out.blk HPM.out HKP.out HPL.out).trans HBP.out
        obtain ⟨⟨y0, y1, y2, y3, y4, y5⟩, -⟩ := cells6 hbk
        have hsp := spoilC_own base _ (.slice (a 0) (m 0) (d 0)) _ wr (HSJ.out.own 0 (by omega) ⟨trivial, by omega⟩)
        clear hbk hlt
        go_wp2_with fail
        clear y0 y1 y2 y3 y4 y5
        refine hsp.mono ?_
        rintro _ w11 ⟨rfl, hg⟩
        have HS11 : Hid (Sp base (fun f => .slice (a f) (m f) (d f)) V P0 j (fun g => (True ∧ g ≠ 2) ∧ g ≠ 0) w8 w11) := HSJ.out.field HPM.out (f := 0) (by omega) hg
        have hbk := (HS11.out.blk HPM.out HKP.out HPL.out).trans HBP.out
        obtain ⟨⟨y0, y1, y2, y3, y4, y5⟩, -⟩ := cells6 hbk
        have hsp4 := spoilB_own true base _ (.slice (a 4) (m 4) (d 4)) _ w11 (HS11.out.own 4 (by omega) ⟨⟨trivial, by omega⟩, by omega⟩)
        clear hbk hsp hg
        go_wp2_with fail
        clear y0 y1 y2 y3 y4 y5
        refine hsp4.mono ?_
        rintro _ w12 ⟨rfl, hg⟩
        have HS12 : Hid (Sp base (fun f => .slice (a f) (m f) (d f)) V P0 j (fun g => ((True ∧ g ≠ 2) ∧ g ≠ 0) ∧ g ≠ 4) w8 w12) := HS11.out.field HPM.out (f := 4) (by omega) hg
        have HB12 : Hid (Below w.heap.size w w12) := HB8.out.trans (HS12.out.below HPM.out (Nat.le_of_lt HGP.out) (Nat.le_of_lt HPL.out))
        have HBQ12 : Hid (w12.heap[w7.heap.size]? = some (.cells #[.slice (e 0) (l 0) (q 0), .slice (e 1) (l 1) (q 1), .slice (e 2) (l 2) (q 2), .slice (e 3) (l 3) (q 3), .slice (e 4) (l 4) (q 4), .slice (e 5) (l 5) (q 5)] 28)) := (HS12.out.blk HPM.out HS7.out ((Array.getElem?_eq_some_iff.1 HBQ.out).1)).trans HBQ.out
        have HPN : Hid (Pn w12 (.slice (e 0) (l 0) (q 0)) (.slice (e 1) (l 1) (q 1)) (.slice (e 2) (l 2) (q 2)) (.slice (e 3) (l 3) (q 3)) (.slice (e 4) (l 4) (q 4)) (.slice (e 5) (l 5) (q 5)) P0) := (HS12.out.other HPM.out HPQ.out.1 HPQ.out.2).pn HSM.out.1 HSM.out.2
        have hcm3 := PMake_fine _ ts xs w12 ((HTS.out.next HB12.out).wide HB12.out.size) HRT.out HK0.out
        rw [HP0.out] at hcm3
        clear hsp4 hg
        go_wp2_with fail
        refine hcm3.mono ?_
        rintro _ w13 ⟨aa, mm, dd, V3, rfl, hpf⟩
        have hb14 := below_alloc1 w13 (Obj.cells #[.slice (aa 0) (mm 0) (dd 0), .slice (aa 1) (mm 1) (dd 1), .slice (aa 2) (mm 2) (dd 2), .slice (aa 3) (mm 3) (dd 3), .slice (aa 4) (mm 4) (dd 4), .slice (aa 5) (mm 5) (dd 5)] 28)
        have hbx := new_at w13 (Obj.cells #[.slice (aa 0) (mm 0) (dd 0), .slice (aa 1) (mm 1) (dd 1), .slice (aa 2) (mm 2) (dd 2), .slice (aa 3) (mm 3) (dd 3), .slice (aa 4) (mm 4) (dd 4), .slice (aa 5) (mm 5) (dd 5)] 28) rfl
        obtain ⟨w14, HW14⟩ : ∃ z, Hid (w13.alloc (Obj.cells #[.slice (aa 0) (mm 0) (dd 0), .slice (aa 1) (mm 1) (dd 1), .slice (aa 2) (mm 2) (dd 2), .slice (aa 3) (mm 3) (dd 3), .slice (aa 4) (mm 4) (dd 4), .slice (aa 5) (mm 5) (dd 5)] 28) = z) := ⟨_, (rfl : _ = _)⟩
        rw [HW14.out] at hb14 hbx
        have hb15 := hpf.bl.trans (hb14.mono hpf.bl.size)
        have HB14 : Hid (Below w.heap.size w w14) := HB12.out.trans (hb15.mono HB12.out.size)
        have hbq := (hb15.block _ ((Array.getElem?_eq_some_iff.1 HBQ12.out).1)).trans HBQ12.out
        obtain ⟨⟨y0, y1, y2, y3, y4, y5⟩, -⟩ := cells6 hbq
        obtain ⟨⟨x0, x1, x2, x3, x4, x5⟩, -⟩ := cells6 hbx
        have hsm := same_posn (e 0) (e 1) (e 2) (e 3) (e 4) (e 5) (l 0) (l 1) (l 2) (l 3) (l 4) (l 5) (q 0) (q 1) (q 2) (q 3) (q 4) (q 5) (aa 0) (aa 1) (aa 2) (aa 3) (aa 4) (aa 5) (mm 0) (mm 1) (mm 2) (mm 3) (mm 4) (mm 5) (dd 0) (dd 1) (dd 2) (dd 3) (dd 4) (dd 5) P0 w14 (HPN.out.below hb15) (hpf.pn.below hb14)
        rw [← HW14.out] at y0 y1 y2 y3 y4 y5 x0 x1 x2 x3 x4 x5
        clear hcm3 hpf hb14 hbx hb15 hbq
        go_wp2_with fail
        rw [HW14.out]
        clear y0 y1 y2 y3 y4 y5 x0 x1 x2 x3 x4 x5 HW14
        refine hsm.mono ?_
        rintro _ w15 ⟨rfl, hb15⟩
        have HB15 : Hid (Below w.heap.size w w15) := HB14.out.trans (hb15.mono HB14.out.size)
        clear hsm hb15
        go_wp2_with fail
        go_ret
        exact ⟨by simp, HB15.out⟩
  · obtain ⟨r, HR⟩ : ∃ r, Hid (mkAns ts xs = r) := ⟨_, (rfl : _ = _)⟩
    have hcm := PMake_err _ ts xs w4 HTS4.out HXS.out h0
    have HXX : Hid (mkAns ts xs ≠ 0) := h0
    rw [HR.out] at hcm h0
    have b0 : (r != 0) = true := by simpa using h0
    clear h0
    go_wp2_with fail
    rw [HW4.out]
    clear HW4 y0 y1 y2 y3 y4 y5 hcl
    refine hcm.mono ?_
    rintro _ w5 ⟨rfl, hb5⟩
    have hb6 := below_alloc1 w5 (Obj.cells #[.slice none 0 0, .slice none 0 0, .slice none 0 0, .slice none 0 0, .slice none 0 0, .slice none 0 0] 28)
    have HB6 : Hid (Below w.heap.size w (w5.alloc (Obj.cells #[.slice none 0 0, .slice none 0 0, .slice none 0 0, .slice none 0 0, .slice none 0 0, .slice none 0 0] 28))) := HB4.out.trans ((hb5.trans (hb6.mono hb5.size)).mono HB4.out.size)
    have hbx := new_at w5 (Obj.cells #[.slice none 0 0, .slice none 0 0, .slice none 0 0, .slice none 0 0, .slice none 0 0, .slice none 0 0] 28) rfl
    have hcm2 := PMake_err _ ts xs (w5.alloc (Obj.cells #[.slice none 0 0, .slice none 0 0, .slice none 0 0, .slice none 0 0, .slice none 0 0, .slice none 0 0] 28)) ((HTS.out.next HB6.out).wide HB6.out.size) HXS.out HXX.out
    rw [HR.out] at hcm2
    obtain ⟨w6, HW6⟩ : ∃ z, Hid (w5.alloc (Obj.cells #[.slice none 0 0, .slice none 0 0, .slice none 0 0, .slice none 0 0, .slice none 0 0, .slice none 0 0] 28) = z) := ⟨_, (rfl : _ = _)⟩
    rw [HW6.out] at hcm2 HB6 hbx
    have HBX : Hid (w6.heap[w5.heap.size]? = some (.cells #[.slice none 0 0, .slice none 0 0, .slice none 0 0, .slice none 0 0, .slice none 0 0, .slice none 0 0] 28)) := hbx
    clear hcm hb5 hb6 hbx
    go_wp2_with fail
    rw [HW6.out]
    clear HW6
    refine hcm2.mono ?_
    rintro _ w7 ⟨rfl, hb7⟩
    have hb8 := below_alloc1 w7 (Obj.cells #[.slice none 0 0, .slice none 0 0, .slice none 0 0, .slice none 0 0, .slice none 0 0, .slice none 0 0] 28)
    have hb9 := hb7.trans (hb8.mono hb7.size)
    have HB8 : Hid (Below w.heap.size w (w7.alloc (Obj.cells #[.slice none 0 0, .slice none 0 0, .slice none 0 0, .slice none 0 0, .slice none 0 0, .slice none 0 0] 28))) := HB6.out.trans (hb9.mono HB6.out.size)
    have hbk := (hb9.block _ ((Array.getElem?_eq_some_iff.1 HBX.out).1)).trans HBX.out
    obtain ⟨⟨y0, y1, y2, y3, y4, y5⟩, -⟩ := cells6 hbk
    clear hcm2 hb7 hb8 hb9 hbk
    go_wp2_with fail
    go_ret
    exact ⟨by simp, HB8.out⟩

/-! ### What the walk gives, for every argument -/
set_option maxRecDepth 100000 in
theorem contract (H : Type) (enc : TypeId × Value → H) (W : World) (base : Nat) (args : Array Value) (ds gs : List (DataW H)) (before : List MemPlace)
    (hval : ∀ (j : Nat) t v, Try.f7.params[j]? = some t → args[j]? = some v → Value.okWide Try.prog W .any base t v)
    (hW : DataW.Whole enc Try.prog Try.f7.params.toList Rows.placesOwnSpec.vars false W args.toList ds gs before) (hsz : (DataW.weightsEach Try.prog (Try.f7.params.toList ++ Rows.placesOwnSpec.plain.varTypes Try.prog) (ds ++ gs)).all (· ≤ reachBytes) = true) :
    Calls Try.prog 7 args W fun e W' => ∃ v, e = .returned v ∧ Rows.placesOwnSpec.post enc Try.prog Try.f7 false true false false W args v W' := by
  have hW' := hW
  obtain ⟨p, q, hA0, hV, rfl, hfz, hnd⟩ := hW
  have hA : DataW.TrodAll enc Try.prog W 0 (fun _ => true) true Try.f7.params.toList args.toList ds p := hA0
  rw [Try.params7] at hA hval hsz
  obtain ⟨v0, vs0, d0, ds0, p0, q0, hargs, rfl, rfl, h0, r0⟩ := trodAll_cons hA
  obtain ⟨rfl, rfl, rfl⟩ := trodAll_nil r0
  obtain rfl : args = #[v0] := by cases args; simp_all
  obtain ⟨rfl, rfl⟩ := trodVars_none hV
  have k0 := h0
  have lt0 : ∀ x ∈ p0, x.block < W.heap.size := by obtain ⟨m, hm⟩ := k0; exact DataW.trod_lt m _ _ _ hm
  obtain ⟨a0l, w0s⟩ := open_rxs (hval 0 22 v0 rfl rfl) h0
  clear hA0
  refine (walk _ a0l W w0s).mono fun e W' ⟨he, bel⟩ => ?_
  subst he
  exact ⟨_, rfl, _, _, _, [], _, [], hW', trodAll_mk1 (shut_bool Try.underlying4 _), (trodAll_cons_mk (Below.trod laidOut (by kernel_rfl) (of_decide_eq_true (by kernel_rfl)) k0 bel lt0) trodAll_mk0), rfl, bel.frame _, fun h => by cases h⟩

/-! ### The row's step -/
set_option maxRecDepth 100000 in
theorem lifted (os : Os) (started : os.Started) (H : Type) (enc : TypeId × Value → H) :
    ReturnsInHanded {} Try.checked os 7 .any (Rows.placesOwnSpec.pre6 enc Try.prog Try.f7 Rows.placesOwnRow.domain false) (Rows.placesOwnSpec.post enc Try.prog Try.f7 false true false false) := by
  refine returnsInHanded_of_change_sized (C := Try.checked) own started (by kernel_rfl) Try.func7
    (ChangeSpec.witness6 (enc := enc) (C := Try.checked) false ⟨#[], #[.slice none 0 0], []⟩ 8 (by kernel_rfl) (by kernel_rfl) (by kernel_rfl) (by kernel_rfl)) ?_
  intro W base args ds gs before hval hW hcnd hsz _
  exact contract H enc W base args ds gs before hval hW hsz

theorem over : Rows.placesOwnRow.holds Try.pinned (OpenSpec.ofChange Rows.placesOwnSpec) :=
  OpenClaim.holds_of_wide 7 Try.f7 rfl rfl rfl rfl rfl rfl rfl ⟨rfl, rfl, rfl, rfl, rfl⟩ rfl rfl rfl rfl rfl (by kernel_rfl) Try.func7 (by kernel_rfl)
    (of_decide_eq_true (by kernel_rfl)) (by unfold Func.isWrapper; first | (rw [if_pos (by decide +kernel)]; kernel_rfl) | (rw [if_neg (by decide +kernel)]; exact ⟨rfl, rfl⟩))
    (fun os started H enc _ => lifted os started H enc)

end Go.Proofs.Ytgdaegmmapljgaa.placesOwn
namespace Go.Proofs.Ytgdaegmmapljgaa
/-- The given statement. -/
theorem placesOwn_holds : Rows.PlacesOwnSaid := placesOwn.over
#print axioms placesOwn_holds
end Go.Proofs.Ytgdaegmmapljgaa
