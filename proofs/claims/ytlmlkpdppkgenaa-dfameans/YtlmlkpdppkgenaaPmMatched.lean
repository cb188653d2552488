/-
  The contract of pushkeep.matched, for rules that are right and a text that is not too long.
-/
import Derived.Test.YtlmlkpdppkgenaaPmLaw0
import Derived.Test.YtlmlkpdppkgenaaWMx
namespace Go.Proofs.Ytlmlkpdppkgenaa
open Go.RowKit
open Cls Po Rex

set_option maxHeartbeats 8000000 in
set_option maxRecDepth 20000 in
theorem matched_any (vv : Value) (ts : List T) (xs : List Rex.E) (s : ByteArray) (D : Nat → Bool) (w : World) (ht : Rxs w w.heap.size vv ts) (hx : Pm.Rts ts xs) (he : Pm.errL ts = 0) (hl : ts.length ≤ 20) (hs : s.size ≤ 200) (hD : ∀ i (h : i < xs.length), D i = true ↔ Rex.M xs[i] s.data.toList) :
    Calls Try.prog 16 #[vv, .string s] w fun e w' => ∃ vo vn vc, e = .returned (.slice vo vn vc) ∧ Ints w' (.slice vo vn vc) (sel ts.length D) ∧ Below w.heap.size w w' := by
  obtain ⟨i3, hi3, hz3, hs3, hb3⟩ := info_parts iinfo3
  have HTS : Hid (Rxs w w.heap.size vv ts) := ht
  have HXS : Hid (Pm.Rts ts xs) := hx
  have HE : Hid (Pm.errL ts = 0 ∧ s.size ≤ 200) := ⟨he, hs⟩
  have HD : Hid (∀ i (h : i < xs.length), D i = true ↔ Rex.M xs[i] s.data.toList) := hD
  have HL : Hid (ts.length ≤ 20) := hl
  obtain ⟨ao, cap, vals, rfl, hm, -, -⟩ := ht
  clear hx he hs hD
  go_enter Try.func16, Try.ntmps16
  go_wp2_with fail
  go_loopw [5, 12] (fun z i wr => ∃ (q : Nat) (vo : Option Addr) (vn vc : Nat), q ≤ ts.length ∧ z = .slice vo vn vc ∧ i = .int .i64 (q : Int) ∧ Hid (wr.ownsRow w.heap.size 3 1 (.slice vo vn vc) (sel q D).length ((sel q D).map (Value.int .i64)) ∧ Below w.heap.size w wr)) (fun _ i _ => ts.length - (intOf i).toNat)
  case atStart => exact ⟨0, none, 0, 0, by omega, rfl, rfl, World.ownsRow_nil _ _ _ _, Below.refl _ _⟩
  case round =>
    obtain ⟨q, vo, vn, vc, hq, rfl, rfl, HQ⟩ := hrel
    by_cases hlt : q < ts.length
    · obtain ⟨b, o, cap2, k, c, a9, n6, p6, hve, hbB, hrx, x0, x1, x2, x3, x4, x5⟩ := HTS.out.at hlt
      cases hve
      replace x0 := (HQ.out.2.cell (p := ⟨b, o + q * 6, none⟩) hbB).trans x0
      replace x1 := (HQ.out.2.cell (p := ⟨b, o + q * 6 + 1, none⟩) hbB).trans x1
      replace x2 := (HQ.out.2.cell (p := ⟨b, o + q * 6 + 2, none⟩) hbB).trans x2
      replace x3 := (HQ.out.2.cell (p := ⟨b, o + q * 6 + 3, none⟩) hbB).trans x3
      replace x4 := (HQ.out.2.cell (p := ⟨b, o + q * 6 + 4, none⟩) hbB).trans x4
      replace x5 := (HQ.out.2.cell (p := ⟨b, o + q * 6 + 5, none⟩) hbB).trans x5
      have hxl : q < xs.length := by rw [HXS.out.len]; exact hlt
      have hba := below_alloc1 wr (Obj.cells #[.int .i64 k, .int .u64 (c.1.toNat : Int), .int .u64 (c.2.1.toNat : Int), .int .u64 (c.2.2.1.toNat : Int), .int .u64 (c.2.2.2.toNat : Int), .slice a9 n6 p6] 44)
      have hcl := is_any ts[q] _ (wr.alloc (Obj.cells #[.int .i64 k, .int .u64 (c.1.toNat : Int), .int .u64 (c.2.1.toNat : Int), .int .u64 (c.2.2.1.toNat : Int), .int .u64 (c.2.2.2.toNat : Int), .slice a9 n6 p6] 44)).heap.size s _ (((hrx.next HQ.out.2).next (hba.mono HQ.out.2.size)).wide (Nat.le_trans HQ.out.2.size hba.size)) (Nat.le_refl _)
      have hbad : bad ts[q] s = false := by
        unfold bad
        rw [Pm.errL_all HE.out.1 _ (List.getElem_mem hlt)]
        have := HE.out.2
        simp; omega
      rw [hbad] at hcl
      have HMT : Hid (Mt ts[q] s ↔ D q = true) := by
        show _ ↔ _
        rw [HD.out q hxl]
        constructor
        · rintro ⟨x, h1, h2⟩
          rw [is_unique (HXS.out.is q hlt hxl) h1]; exact h2
        · intro h; exact ⟨xs[q], HXS.out.is q hlt hxl, h⟩
      obtain ⟨wb, HWB⟩ : ∃ wb, Hid (wr.alloc (Obj.cells #[.int .i64 k, .int .u64 (c.1.toNat : Int), .int .u64 (c.2.1.toNat : Int), .int .u64 (c.2.2.1.toNat : Int), .int .u64 (c.2.2.2.toNat : Int), .slice a9 n6 p6] 44) = wb) := ⟨_, (rfl : _ = _)⟩
      rw [HWB.out] at hba hcl
      have HQB : Hid (wb.ownsRow w.heap.size 3 1 (.slice vo vn vc) (sel q D).length ((sel q D).map (Value.int .i64)) ∧ Below w.heap.size w wb) := ⟨own_below HQ.out.1 hba, HQ.out.2.trans (hba.mono HQ.out.2.size)⟩
      have hq0 : (0 : Int) ≤ (q : Int) := by omega
      have hq1 : (q : Int) < (ts.length : Int) := by omega
      clear hrx hba HQ hbad
      go_wp2_with fail
      rw [HWB.out]
      clear x0 x1 x2 x3 x4 x5
      refine hcl.mono ?_
      rintro _ w2 ⟨bq, rfl, hbq, hb2⟩
      have HBQ : Hid (bq = D q) := by
        show _ = _
        refine Bool.eq_iff_iff.2 (hbq.trans ?_)
        rw [← HMT.out]
        simp
      have HQ2 : Hid (w2.ownsRow w.heap.size 3 1 (.slice vo vn vc) (sel q D).length ((sel q D).map (Value.int .i64)) ∧ Below w.heap.size w w2) := ⟨own_below HQB.out.1 hb2, HQB.out.2.trans (hb2.mono HQB.out.2.size)⟩
      clear hcl hbq hb2 HQB HWB HMT
      cases bq with
      | false =>
        have HN : Hid (sel (q + 1) D = sel q D) := by show _ = _; rw [sel_step, ← HBQ.out]; simp
        go_wp2_with fail
        go_roundw
        case rel => exact ⟨q + 1, vo, vn, vc, by omega, rfl, by go_num, by rw [HN.out]; exact HQ2.out⟩
        case measure => simp [intOf]; omega
      | true =>
        have HN : Hid (sel (q + 1) D = sel q D ++ [(q : Int)]) := by show _ = _; rw [sel_step, ← HBQ.out]; simp
        obtain ⟨M, HM⟩ : ∃ M, Hid (sel q D = M) := ⟨_, (rfl : _ = _)⟩
        have hml : M.length ≤ 20 := by rw [← HM.out]; have := sel_length q D; have := HL.out; omega
        rw [HM.out] at HQ2 HN
        have hsw : w.heap.size ≤ w2.heap.size := HQ2.out.2.size
        go_wp2_with (at_builtin; refine wpList_append_own _ rfl _ _ 23 rfl w.heap.size 3 i3 (.int .i64 0) 1 8 Try.underlying23 hi3 hz3 hs3 hb3 rfl (by decide) _ _ _ rfl (HQ2.out.1.alloc _) ⟨w2.heap.size, 0, none⟩ 1 1 [.int .i64 (q : Int)] rfl rfl (World.news_of_block (t := 3) (fr := (0, 0)) (heap_new w2 _)) (by simp [Value.oneCell']) (by unfold maxLen; omega) (by omega) (by simp; omega) ?_)
        intro v' w4 hown' hgrow _
        have HQ4 : Hid (w4.ownsRow w.heap.size 3 1 v' (sel (q + 1) D).length ((sel (q + 1) D).map (Value.int .i64)) ∧ Below w.heap.size w w4) := by
          refine ⟨?_, Below.grown (HQ2.out.2.trans ((below_alloc1 w2 _).mono hsw)) hgrow (by simp; omega) (fun k hk => (HQ2.out.1.lt k hk).1)⟩
          rw [HN.out, List.length_append, List.map_append]; exact hown'
        obtain ⟨v'a, v'n, v'c, rfl⟩ := own_form hown'
        clear hown' hgrow HQ2
        go_wp2_with fail
        go_roundw
        case rel => exact ⟨q + 1, v'a, v'n, v'c, by omega, rfl, by go_num, HQ4⟩
        case measure => simp [intOf]; omega
    · obtain rfl : q = ts.length := by omega
      have HFI : Hid (Ints wr (.slice vo vn vc) (sel ts.length D) ∧ Below w.heap.size w wr) := ⟨ints_of_own HQ.out.1 (by have := sel_length ts.length D; omega), HQ.out.2⟩
      clear HQ
      go_wp2_with fail
      go_ret
      exact ⟨vo, vn, vc, by simp, HFI.out.1, HFI.out.2⟩
end Go.Proofs.Ytlmlkpdppkgenaa
