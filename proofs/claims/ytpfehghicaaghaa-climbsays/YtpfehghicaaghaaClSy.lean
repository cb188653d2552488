/-
  The contract of pushlaw.climbed: what a climber answered is what the document says.
-/
import Derived.Test.YtpfehghicaaghaaClCmb
import Derived.Test.YtpfehghicaaghaaClEq
import Derived.Test.YtpfehghicaaghaaClRC
namespace Go.Proofs.Ytpfehghicaaghaa
open Go.RowKit
open Cg

theorem pushR_err {t : Int} {n : Nat} {ps : List Pd} {rows : List (List Int)} {l : List Td} {sn ov : Int} {dn : Bool} {term e : Int} (h : chkC t (n : Int) ps rows l sn ov dn (decide (0 ≤ term) && decide (term < t)) = e) (he : e ≠ 0) : pushR t n ps rows l sn ov dn term = ⟨l, sn, ov, dn, [], e⟩ := by
  unfold pushR; rw [h, if_neg he]
theorem endR_err {t : Int} {n : Nat} {ps : List Pd} {rows : List (List Int)} {l : List Td} {sn ov : Int} {dn : Bool} {e : Int} (h : chkC t (n : Int) ps rows l sn ov dn true = e) (he : e ≠ 0) : endR t n ps rows l sn ov dn = ⟨l, sn, ov, dn, [], e⟩ := by
  unfold endR; rw [h, if_neg he]
theorem pushR_ok {t : Int} {n : Nat} {ps : List Pd} {rows : List (List Int)} {l : List Td} {sn ov : Int} {dn : Bool} {col : Nat} (h : chkC t (n : Int) ps rows l sn ov dn (decide (0 ≤ (col : Int)) && decide ((col : Int) < t)) = 0) : pushR t n ps rows l sn ov dn (col : Int) = clmR t ps rows l sn col := by
  have hc : (col : Int) ≠ t := by have := (chkC_zero h).2.2.2.1; simp at this; omega
  unfold pushR clmR
  rw [h, if_pos rfl, Int.toNat_natCast]
  by_cases h0 : (clm ps (rwF rows col) t (col : Int) sn l.reverse [] false).1 = 0
  · rw [if_pos h0, if_pos h0, if_pos (clm_zero_had hc _ _ _ h0)]
  · rw [if_neg h0, if_neg h0]
theorem endR_ok {col : Nat} {n : Nat} {ps : List Pd} {rows : List (List Int)} {l : List Td} {sn ov : Int} {dn : Bool} {w0 : World} {pv rv : Value} (ho : Ok w0 (col : Int) n pv rv ps rows col) (h : chkC (col : Int) (n : Int) ps rows l sn ov dn true = 0) : endR (col : Int) n ps rows l sn ov dn = clmR (col : Int) ps rows l sn col := by
  have h1 := (okC_zero (chkC_zero h).2.1).1
  unfold endR clmR
  rw [h, if_pos rfl, Int.toNat_natCast]
  by_cases h0 : (clm ps (rwF rows col) (col : Int) (col : Int) sn l.reverse [] false).1 = 0
  · rw [if_pos h0, if_pos h0, if_neg (by rw [clm_end_had h1 ho h0]; decide)]
  · rw [if_neg h0, if_neg h0]
set_option maxHeartbeats 12000000 in
set_option maxRecDepth 20000 in
theorem clawed_err (t n : Int) (pv : Value) (ps : List Pd) (rv tv av : Value) (l : List Td) (sn ov : Int) (dn : Bool) (col e : Int) (ea : Option Addr) (ec : Nat) (w : World) (hp : Pds w pv ps) (hrv : ∃ a m c, rv = .slice a m c) (ht : Tds w tv l) (ha : Tds w av l) (he : e ≠ 0) :
    Calls Try.prog 21 #[.agg #[.int .i64 t, .int .i64 n, pv], rv, .agg #[tv, .int .i64 sn, .int .i64 ov, .bool dn], .int .i64 col, .int .i64 e, .agg #[av, .int .i64 sn, .int .i64 ov, .bool dn], .slice ea 0 ec, .int .i64 e] w fun x w' => x = .returned (.bool true) ∧ Below w.heap.size w w' := by
  have HT : Hid (Tds w tv l) := ht
  have HA : Hid (Tds w av l) := ha
  obtain ⟨po, pc, rfl, -, -⟩ := hp
  obtain ⟨ro, rm, rc, rfl⟩ := hrv
  obtain ⟨ao, c, rfl, -, -⟩ := ht
  obtain ⟨bo, d, rfl, -, -⟩ := ha
  have HB : Hid (Below w.heap.size w ((((w.alloc (Obj.cells #[.int .i64 t, .int .i64 n, .slice po ps.length pc] 24)).alloc (Obj.cells #[.slice ao l.length c, .int .i64 sn, .int .i64 ov, .bool dn] 43))).alloc (Obj.cells #[.slice bo l.length d, .int .i64 sn, .int .i64 ov, .bool dn] 43))) := (below_alloc2 _ _ _).trans ((below_alloc _ _).mono (below_alloc2 _ _ _).size)
  have c1 : ((((w.alloc (Obj.cells #[.int .i64 t, .int .i64 n, .slice po ps.length pc] 24)).alloc (Obj.cells #[.slice ao l.length c, .int .i64 sn, .int .i64 ov, .bool dn] 43))).alloc (Obj.cells #[.slice bo l.length d, .int .i64 sn, .int .i64 ov, .bool dn] 43)).heap[w.heap.size + 1]? = some (.cells #[.slice ao l.length c, .int .i64 sn, .int .i64 ov, .bool dn] 43) := tbox_next (heap_alloc2_new w _ _) (below_alloc _ _)
  have c2 : ((((w.alloc (Obj.cells #[.int .i64 t, .int .i64 n, .slice po ps.length pc] 24)).alloc (Obj.cells #[.slice ao l.length c, .int .i64 sn, .int .i64 ov, .bool dn] 43))).alloc (Obj.cells #[.slice bo l.length d, .int .i64 sn, .int .i64 ov, .bool dn] 43)).heap[w.heap.size + 1 + 1]? = some (.cells #[.slice bo l.length d, .int .i64 sn, .int .i64 ov, .bool dn] 43) := by
    have := heap_alloc_new ((w.alloc (Obj.cells #[.int .i64 t, .int .i64 n, .slice po ps.length pc] 24)).alloc (Obj.cells #[.slice ao l.length c, .int .i64 sn, .int .i64 ov, .bool dn] 43)) (Obj.cells #[.slice bo l.length d, .int .i64 sn, .int .i64 ov, .bool dn] 43)
    simpa using this
  go_enter Try.func21, Try.ntmps21
  go_upto_region 1 with fail
  generalize ((((w.alloc (Obj.cells #[.int .i64 t, .int .i64 n, .slice po ps.length pc] 24)).alloc (Obj.cells #[.slice ao l.length c, .int .i64 sn, .int .i64 ov, .bool dn] 43))).alloc (Obj.cells #[.slice bo l.length d, .int .i64 sn, .int .i64 ov, .bool dn] 43)) = w1 at HB c1 c2 ⊢
  obtain ⟨g, HG⟩ : ∃ g, Hid (w.heap.size = g) := ⟨_, (rfl : w.heap.size = w.heap.size)⟩
  rw [HG.out] at c1 c2 ⊢
  have hcall := sameClimber_same (.slice bo l.length d) (.slice ao l.length c) l sn ov dn w1 (HA.out.below HB.out) (HT.out.below HB.out)
  have p0 := tcell_blk c1 0
  have p1 := tcell_blk c1 1
  have p2 := tcell_blk c1 2
  have p3 := tcell_blk c1 3
  have q0 := tcell_blk c2 0
  have q1 := tcell_blk c2 1
  have q2 := tcell_blk c2 2
  have q3 := tcell_blk c2 3
  simp only [List.getElem?_toArray, List.getElem?_cons_zero, List.getElem?_cons_succ] at p0 p1 p2 p3 q0 q1 q2 q3
  have he1 : (e != 0) = true := by simpa using he
  have he2 : (e == e) = true := by simp
  clear c1 c2 he
  go_wp2_with fail
  refine hcall.mono ?_
  rintro _ w2 ⟨rfl, hb2⟩
  have HB2 : Hid (Below w.heap.size w w2) := HB.out.trans (hb2.mono HB.out.size)
  clear hcall hb2 p0 p1 p2 p3 q0 q1 q2 q3
  go_wp2_with fail
  go_ret
  exact ⟨rfl, HB2.out⟩
set_option maxHeartbeats 12000000 in
set_option maxRecDepth 20000 in
theorem clawed_ok (t : Int) (n : Nat) (pv : Value) (ps : List Pd) (rv : Value) (rows : List (List Int)) (tv av lv : Value) (l : List Td) (sn ov : Int) (dn : Bool) (col : Nat) (w : World) (ht : Tds w tv l) (ho : Ok w t n pv rv ps rows col) (htd : ∀ y ∈ l, okT t (n : Int) ps y = true) (hlen : l.length ≤ 60) (hsn : 0 ≤ sn ∧ sn ≤ 1099511627776)
    (X : Cres) (hX : X = clmR t ps rows l sn col) (ha : Tds w av X.l) (hl : Evs w lv X.ev) :
    Calls Try.prog 21 #[.agg #[.int .i64 t, .int .i64 (n : Int), pv], rv, .agg #[tv, .int .i64 sn, .int .i64 ov, .bool dn], .int .i64 (col : Int), .int .i64 0, .agg #[av, .int .i64 X.sn, .int .i64 X.ov, .bool X.dn], lv, .int .i64 X.er] w fun x w' => x = .returned (.bool true) ∧ Below w.heap.size w w' := by
  have HT : Hid (Tds w tv l) := ht
  have HA : Hid (Tds w av X.l) := ha
  have HL : Hid (Evs w lv X.ev) := hl
  have HO : Hid _ := ho
  have HOK : Hid ((∀ y ∈ l, okT t (n : Int) ps y = true) ∧ l.length ≤ 60 ∧ (0 ≤ sn ∧ sn ≤ 1099511627776)) := ⟨htd, hlen, hsn⟩
  have HX : Hid (X = clmR t ps rows l sn col) := hX
  obtain ⟨po, pc, hpe, -, -⟩ := ho.pd
  subst hpe
  obtain ⟨ro, rc, hre, -, -⟩ := ho.rw
  subst hre
  obtain ⟨ao, c, rfl, -, -⟩ := ht
  obtain ⟨bo, d, rfl, -, -⟩ := ha
  obtain ⟨eo, ec, rfl, -, -⟩ := hl
  obtain ⟨X1, X2, X3, X4, X5, X6⟩ := X
  simp only at HA HL ⊢
  have HB : Hid (Below w.heap.size w ((((w.alloc (Obj.cells #[.int .i64 t, .int .i64 (n : Int), .slice po ps.length pc] 24)).alloc (Obj.cells #[.slice ao l.length c, .int .i64 sn, .int .i64 ov, .bool dn] 43))).alloc (Obj.cells #[.slice bo X1.length d, .int .i64 X2, .int .i64 X3, .bool X4] 43))) := (below_alloc2 _ _ _).trans ((below_alloc _ _).mono (below_alloc2 _ _ _).size)
  have c0 : ((((w.alloc (Obj.cells #[.int .i64 t, .int .i64 (n : Int), .slice po ps.length pc] 24)).alloc (Obj.cells #[.slice ao l.length c, .int .i64 sn, .int .i64 ov, .bool dn] 43))).alloc (Obj.cells #[.slice bo X1.length d, .int .i64 X2, .int .i64 X3, .bool X4] 43)).heap[w.heap.size]? = some (.cells #[.int .i64 t, .int .i64 (n : Int), .slice po ps.length pc] 24) := tbox_next (tbox_next (heap_alloc_new w _) (below_alloc _ _)) (below_alloc _ _)
  have c1 : ((((w.alloc (Obj.cells #[.int .i64 t, .int .i64 (n : Int), .slice po ps.length pc] 24)).alloc (Obj.cells #[.slice ao l.length c, .int .i64 sn, .int .i64 ov, .bool dn] 43))).alloc (Obj.cells #[.slice bo X1.length d, .int .i64 X2, .int .i64 X3, .bool X4] 43)).heap[w.heap.size + 1]? = some (.cells #[.slice ao l.length c, .int .i64 sn, .int .i64 ov, .bool dn] 43) := tbox_next (heap_alloc2_new w _ _) (below_alloc _ _)
  have c2 : ((((w.alloc (Obj.cells #[.int .i64 t, .int .i64 (n : Int), .slice po ps.length pc] 24)).alloc (Obj.cells #[.slice ao l.length c, .int .i64 sn, .int .i64 ov, .bool dn] 43))).alloc (Obj.cells #[.slice bo X1.length d, .int .i64 X2, .int .i64 X3, .bool X4] 43)).heap[w.heap.size + 1 + 1]? = some (.cells #[.slice bo X1.length d, .int .i64 X2, .int .i64 X3, .bool X4] 43) := by
    have := heap_alloc_new ((w.alloc (Obj.cells #[.int .i64 t, .int .i64 (n : Int), .slice po ps.length pc] 24)).alloc (Obj.cells #[.slice ao l.length c, .int .i64 sn, .int .i64 ov, .bool dn] 43)) (Obj.cells #[.slice bo X1.length d, .int .i64 X2, .int .i64 X3, .bool X4] 43)
    simpa using this
  clear ho htd hlen hsn hX
  go_enter Try.func21, Try.ntmps21
  go_upto_region 1 with fail
  generalize ((((w.alloc (Obj.cells #[.int .i64 t, .int .i64 (n : Int), .slice po ps.length pc] 24)).alloc (Obj.cells #[.slice ao l.length c, .int .i64 sn, .int .i64 ov, .bool dn] 43))).alloc (Obj.cells #[.slice bo X1.length d, .int .i64 X2, .int .i64 X3, .bool X4] 43)) = w1 at HB c0 c1 c2 ⊢
  obtain ⟨g, HG⟩ : ∃ g, Hid (w.heap.size = g) := ⟨_, (rfl : w.heap.size = w.heap.size)⟩
  rw [HG.out] at c0 c1 c2 ⊢
  have HC : Hid (w1.heap[g + 1 + 1]? = some (.cells #[.slice bo X1.length d, .int .i64 X2, .int .i64 X3, .bool X4] 43)) := c2
  have HO1 : Hid (Ok w1 t n (.slice po ps.length pc) (.slice ro rows.length rc) ps rows col) := ⟨HO.out.pd.below HB.out, HO.out.bl, HO.out.bo, HO.out.rw.below HB.out, HO.out.rl, HO.out.cl, HO.out.ro⟩
  have hcall := Climb_any t n (.slice po ps.length pc) ps (.slice ro rows.length rc) rows (.slice ao l.length c) l sn ov dn col w1 (HT.out.below HB.out) HO1.out HOK.out.1 HOK.out.2.1 HOK.out.2.2
  rw [← HX.out] at hcall
  have z0 := tcell_blk c0 0
  have z1 := tcell_blk c0 1
  have z2 := tcell_blk c0 2
  have p0 := tcell_blk c1 0
  have p1 := tcell_blk c1 1
  have p2 := tcell_blk c1 2
  have p3 := tcell_blk c1 3
  simp only [List.getElem?_toArray, List.getElem?_cons_zero, List.getElem?_cons_succ] at z0 z1 z2 p0 p1 p2 p3
  clear c0 c1 c2
  go_wp2_with fail
  refine hcall.mono ?_
  rintro _ w2 ⟨ra, rn, rk, ea, en, ek, rfl, hdq, hdn⟩
  have HBA : Hid (Below w2.heap.size w2 (w2.alloc (Obj.cells #[.slice ra rn rk, .int .i64 X2, .int .i64 X3, .bool X4] 43))) := below_alloc _ _
  have HQ : Hid _ := hdq.next HBA.out
  have HE : Hid _ := hdn.next HBA.out
  have HC2 : Hid _ := tbox_next (tbox_next HC.out hdq.bel) HBA.out
  have HN : Hid _ := heap_alloc_new w2 (Obj.cells #[.slice ra rn rk, .int .i64 X2, .int .i64 X3, .bool X4] 43)
  clear hcall hdq hdn z0 z1 z2 p0 p1 p2 p3 HC
  go_upto_region 4 with fail
  obtain ⟨kb, HKB⟩ : ∃ kb, Hid (w2.heap.size = kb) := ⟨_, (rfl : w2.heap.size = _)⟩
  generalize w2.alloc (Obj.cells #[.slice ra rn rk, .int .i64 X2, .int .i64 X3, .bool X4] 43) = w3 at HQ HE HC2 HN ⊢
  rw [HKB.out] at HN ⊢
  have HB3 : Hid (Below w.heap.size w w3) := HB.out.trans (HQ.out.bel.mono HB.out.size)
  have hA3 := HA.out.below HB3.out
  have hL3 := HL.out.below HB3.out
  obtain ⟨_, _, ea1, ⟨hl1, -, -⟩, -⟩ := hA3
  obtain ⟨_, _, ea2, hl2, -⟩ := hL3
  have hcall := sameClimber_same (.slice bo X1.length d) (.slice ra rn rk) X1 X2 X3 X4 w3 (HA.out.below HB3.out) (tds_of_own HQ.out.own hl1)
  have q0 := tcell_blk HC2.out 0
  have q1 := tcell_blk HC2.out 1
  have q2 := tcell_blk HC2.out 2
  have q3 := tcell_blk HC2.out 3
  have p0 := tcell_blk HN.out 0
  have p1 := tcell_blk HN.out 1
  have p2 := tcell_blk HN.out 2
  have p3 := tcell_blk HN.out 3
  simp only [List.getElem?_toArray, List.getElem?_cons_zero, List.getElem?_cons_succ] at q0 q1 q2 q3 p0 p1 p2 p3
  have HL2 : Hid (X5.length ≤ 9223372036854775807) := hl2
  clear ea1 ea2 hl1 hl2
  go_wp2_with fail
  refine hcall.mono ?_
  rintro _ w4 ⟨rfl, hb4⟩
  have HB4 : Hid (Below w.heap.size w w4) := HB3.out.trans (hb4.mono HB3.out.size)
  have HE4 : Hid _ := HE.out.next hb4
  clear hcall hb4 q0 q1 q2 q3 p0 p1 p2 p3
  have hcall := equalE_same (.slice eo X5.length ec) (.slice ea en ek) X5 w4 (HL.out.below HB4.out) (evs_of_own HE4.out.own HL2.out)
  go_wp2_with fail
  refine hcall.mono ?_
  rintro _ w5 ⟨rfl, hb5⟩
  have HB5 : Hid (Below w.heap.size w w5) := HB4.out.trans (hb5.mono HB4.out.size)
  have he2 : (X6 == X6) = true := by simp
  clear hcall hb5
  go_wp2_with fail
  go_ret
  exact ⟨by simp, HB5.out⟩
end Go.Proofs.Ytpfehghicaaghaa
