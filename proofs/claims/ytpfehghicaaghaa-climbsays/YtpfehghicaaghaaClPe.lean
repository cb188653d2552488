/-
  climb.Push and climb.End where the check finds something: the climber as it was, no event, the error.
-/
import Derived.Test.YtpfehghicaaghaaClD
namespace Go.Proofs.Ytpfehghicaaghaa
open Go.RowKit
open Cg

set_option maxHeartbeats 12000000 in
set_option maxRecDepth 20000 in
theorem Push_err (t : Int) (n : Int) (pv : Value) (ps : List Pd) (rv : Value) (rows : List (List Int)) (tv : Value) (l : List Td) (sn ov : Int) (dn : Bool) (term : Int) (w : World) (hp : Pds w pv ps) (hr : Rws w rv rows) (ht : Tds w tv l) (hl : l.length ≤ 4398046511104) (e : Int) (hee : chkC t n ps rows l sn ov dn (decide (0 ≤ term) && decide (term < t)) = e) (he : e ≠ 0) :
    Calls Try.prog 19 #[.agg #[.int .i64 t, .int .i64 (n : Int), pv], rv, .agg #[tv, .int .i64 sn, .int .i64 ov, .bool dn], .int .i64 term] w fun e1 w' => ResP w ⟨l, sn, ov, dn, [], e⟩ e1 w' := by
  have HEE : Hid (chkC t n ps rows l sn ov dn (decide (0 ≤ term) && decide (term < t)) = e) := hee
  have HE0 : Hid (e ≠ 0) := he
  clear hee he
  have HC0 : Hid _ := Clb.box hp ht t (n : Int) sn ov dn
  have HPV : Hid (Pds w pv ps) := hp
  have HRW : Hid (Rws w rv rows) := hr
  have HTV : Hid (Tds w tv l) := ht
  have HLL : Hid (l.length ≤ 4398046511104) := hl
  obtain ⟨ao, c, rfl, hm, -⟩ := ht
  obtain ⟨po, pc, rfl, hpm, -⟩ := hp
  obtain ⟨ro, rc, rfl, hrm, -⟩ := hr
  clear hl
  have HB1 : Hid (Below w.heap.size w ((((w.alloc (Obj.cells #[.int .i64 t, .int .i64 (n : Int), .slice po ps.length pc] 24)).alloc (Obj.cells #[.slice ao l.length c, .int .i64 sn, .int .i64 ov, .bool dn] 43))).alloc (Obj.cells #[.slice none 0 0, .int .i64 0, .int .i64 0, .bool false] 43))) := (below_alloc2 _ _ _).trans ((below_alloc _ _).mono (below_alloc2 _ _ _).size)
  have HC1 : Hid _ := HC0.out.next (below_alloc _ (Obj.cells #[.slice none 0 0, .int .i64 0, .int .i64 0, .bool false] 43))
  have HN1 : Hid ((((w.alloc (Obj.cells #[.int .i64 t, .int .i64 (n : Int), .slice po ps.length pc] 24)).alloc (Obj.cells #[.slice ao l.length c, .int .i64 sn, .int .i64 ov, .bool dn] 43)).alloc (Obj.cells #[.slice none 0 0, .int .i64 0, .int .i64 0, .bool false] 43)).heap[w.heap.size + 1 + 1]? = some (.cells #[.slice none 0 0, .int .i64 0, .int .i64 0, .bool false] 43)) := by
    have := heap_alloc_new ((w.alloc (Obj.cells #[.int .i64 t, .int .i64 (n : Int), .slice po ps.length pc] 24)).alloc (Obj.cells #[.slice ao l.length c, .int .i64 sn, .int .i64 ov, .bool dn] 43)) (Obj.cells #[.slice none 0 0, .int .i64 0, .int .i64 0, .bool false] 43)
    show _ = _
    simpa using this
  clear HC0
  obtain ⟨X, HXX⟩ : ∃ X : Cres, Hid ((⟨l, sn, ov, dn, [], e⟩ : Cres) = X) := ⟨_, rfl⟩
  rw [HXX.out]
  go_enter Try.func19, Try.ntmps19
  go_upto_region 1 with fail
  generalize (((w.alloc (Obj.cells #[.int .i64 t, .int .i64 (n : Int), .slice po ps.length pc] 24)).alloc (Obj.cells #[.slice ao l.length c, .int .i64 sn, .int .i64 ov, .bool dn] 43))).alloc (Obj.cells #[.slice none 0 0, .int .i64 0, .int .i64 0, .bool false] 43) = w1 at HC1 HN1 HB1 ⊢
  obtain ⟨g, HG⟩ : ∃ g, Hid (w.heap.size = g) := ⟨_, (rfl : w.heap.size = w.heap.size)⟩
  rw [HG.out] at HC1 HN1 ⊢
  obtain ⟨okb, HOK⟩ : ∃ okb, Hid ((decide (0 ≤ term) && decide (term < t)) = okb) := ⟨_, rfl⟩
  have hcall := clmCheck_any t (n : Int) (.slice po ps.length pc) ps (.slice ro rows.length rc) rows (.slice ao l.length c) l sn ov dn okb w1 HC1.out.gb.pds (HRW.out.below HB1.out) HC1.out.td
  obtain ⟨ce, HCE⟩ : ∃ ce, Hid (chkC t (n : Int) ps rows l sn ov dn okb = ce) := ⟨_, rfl⟩
  rw [HCE.out] at hcall
  have z0 := HC1.out.gb.c0
  have z1 := HC1.out.gb.c1
  have z2 := HC1.out.gb.c2
  have q0 := tcell_blk HC1.out.c 0
  have q1 := tcell_blk HC1.out.c 1
  have q2 := tcell_blk HC1.out.c 2
  have q3 := tcell_blk HC1.out.c 3
  simp only [List.getElem?_toArray, List.getElem?_cons_zero, List.getElem?_cons_succ] at q0 q1 q2 q3
  by_cases a1 : 0 ≤ term
  · by_cases a2 : term < t
    · obtain rfl : okb = true := by rw [← HOK.out]; simp [a1, a2]
      go_wp2_with fail
      clear a1 a2
      refine hcall.mono ?_
      rintro _ w2 ⟨rfl, hb2⟩
      have HC2 : Hid (Clb w g (g + 1) t (n : Int) (.slice po ps.length pc) ps (.slice ao l.length c) l sn ov dn w2) := HC1.out.next hb2
      have HN2 : Hid (w2.heap[g + 1 + 1]? = some (.cells #[.slice none 0 0, .int .i64 0, .int .i64 0, .bool false] 43)) := tbox_next HN1.out hb2
      clear hcall hb2 z0 z1 z2 q0 q1 q2 q3 HC1 HN1 HB1
      by_cases hce : ce = 0
      · subst hce; exact absurd (by rw [← HEE.out, HOK.out]; exact HCE.out) HE0.out
      · have HCN : Hid (ce ≠ 0) := hce
        have hne : (ce != 0) = true := by simpa using hce
        obtain rfl : (⟨l, sn, ov, dn, [], ce⟩ : Cres) = X := by
          have hce2 : ce = e := by rw [← HCE.out, ← HOK.out]; exact HEE.out
          rw [← HXX.out, hce2]
        have hcall := asItWas_any (.slice ao l.length c) l sn ov dn w2 HC2.out.td HLL.out
        have z0 := HC2.out.gb.c0
        have z1 := HC2.out.gb.c1
        have z2 := HC2.out.gb.c2
        have q0 := tcell_blk HC2.out.c 0
        have q1 := tcell_blk HC2.out.c 1
        have q2 := tcell_blk HC2.out.c 2
        have q3 := tcell_blk HC2.out.c 3
        simp only [List.getElem?_toArray, List.getElem?_cons_zero, List.getElem?_cons_succ] at q0 q1 q2 q3
        go_wp2_with fail
        refine hcall.mono ?_
        rintro _ w3 ⟨ra, rn, rq, rfl, hd⟩
        have HD : Hid _ := hd
        have BN : w3.heap[g + 1 + 1]? = _ := tbox_next HN2.out hd.bel
        clear hcall hd z0 z1 z2 q0 q1 q2 q3 hne hce
        have p0 := tcell_blk BN 0
        have p1 := tcell_blk BN 1
        have p2 := tcell_blk BN 2
        have p3 := tcell_blk BN 3
        have f0 := tfrozen_blk BN 0
        have f1 := tfrozen_blk BN 1
        have f2 := tfrozen_blk BN 2
        have f3 := tfrozen_blk BN 3
        simp only [List.getElem?_toArray, List.getElem?_cons_zero, List.getElem?_cons_succ] at p0 p1 p2 p3
        go_wp2_with fail
        rw [← set4_eq]
        have z := set4_blk BN (.slice ra rn rq) (.int .i64 sn) (.int .i64 ov) (.bool dn)
        have z0 := tcell_blk z 0
        have z1 := tcell_blk z 1
        have z2 := tcell_blk z 2
        have z3 := tcell_blk z 3
        simp only [List.getElem?_toArray, List.getElem?_cons_zero, List.getElem?_cons_succ] at z0 z1 z2 z3
        have HFB : Hid (Below w.heap.size w (set4 w3 (g + 1 + 1) (.slice ra rn rq) (.int .i64 sn) (.int .i64 ov) (.bool dn))) := set4_bel (HC2.out.gb.below.trans (HD.out.bel.mono HC2.out.gb.below.size)) (by have := HG.out; omega)
        have HFIN : Hid (Dq w (.slice ra rn rq) l (set4 w3 (g + 1 + 1) (.slice ra rn rq) (.int .i64 sn) (.int .i64 ov) (.bool dn))) := by
          refine ⟨?_, HFB.out⟩
          have h2 := heap_lt3 HN2.out
          have := town_keep (w' := set4 w3 (g + 1 + 1) (.slice ra rn rq) (.int .i64 sn) (.int .i64 ov) (.bool dn)) HD.out.own fun b hb => set4_other (own_ne HD.out.own (by omega) b hb)
          exact own_less this HC2.out.gb.below.size
        exact bodyPost_ret (v := .tuple #[.agg #[.slice ra rn rq, .int .i64 sn, .int .i64 ov, .bool dn], .slice none 0 0, .int .i64 ce]) (by simp [results, Try.results19, go_sem, z0, z1, z2, z3]) rfl ⟨_, _, _, _, _, _, rfl, HFIN.out, Dn.nil _ HFB.out⟩
    · obtain rfl : okb = false := by rw [← HOK.out]; simp [a2]
      have hnz : ce ≠ 0 := fun e => by have := (chkC_zero (HCE.out.trans e)).2.2.2.1; cases this
      go_wp2_with fail
      clear a1 a2
      refine hcall.mono ?_
      rintro _ w2 ⟨rfl, hb2⟩
      have HC2 : Hid (Clb w g (g + 1) t (n : Int) (.slice po ps.length pc) ps (.slice ao l.length c) l sn ov dn w2) := HC1.out.next hb2
      have HN2 : Hid (w2.heap[g + 1 + 1]? = some (.cells #[.slice none 0 0, .int .i64 0, .int .i64 0, .bool false] 43)) := tbox_next HN1.out hb2
      clear hcall hb2 z0 z1 z2 q0 q1 q2 q3 HC1 HN1 HB1
      by_cases hce : ce = 0
      · subst hce
        exact absurd rfl hnz
      · have HCN : Hid (ce ≠ 0) := hce
        have hne : (ce != 0) = true := by simpa using hce
        obtain rfl : (⟨l, sn, ov, dn, [], ce⟩ : Cres) = X := by
          have hce2 : ce = e := by rw [← HCE.out, ← HOK.out]; exact HEE.out
          rw [← HXX.out, hce2]
        have hcall := asItWas_any (.slice ao l.length c) l sn ov dn w2 HC2.out.td HLL.out
        have z0 := HC2.out.gb.c0
        have z1 := HC2.out.gb.c1
        have z2 := HC2.out.gb.c2
        have q0 := tcell_blk HC2.out.c 0
        have q1 := tcell_blk HC2.out.c 1
        have q2 := tcell_blk HC2.out.c 2
        have q3 := tcell_blk HC2.out.c 3
        simp only [List.getElem?_toArray, List.getElem?_cons_zero, List.getElem?_cons_succ] at q0 q1 q2 q3
        go_wp2_with fail
        refine hcall.mono ?_
        rintro _ w3 ⟨ra, rn, rq, rfl, hd⟩
        have HD : Hid _ := hd
        have BN : w3.heap[g + 1 + 1]? = _ := tbox_next HN2.out hd.bel
        clear hcall hd z0 z1 z2 q0 q1 q2 q3 hne hce
        have p0 := tcell_blk BN 0
        have p1 := tcell_blk BN 1
        have p2 := tcell_blk BN 2
        have p3 := tcell_blk BN 3
        have f0 := tfrozen_blk BN 0
        have f1 := tfrozen_blk BN 1
        have f2 := tfrozen_blk BN 2
        have f3 := tfrozen_blk BN 3
        simp only [List.getElem?_toArray, List.getElem?_cons_zero, List.getElem?_cons_succ] at p0 p1 p2 p3
        go_wp2_with fail
        rw [← set4_eq]
        have z := set4_blk BN (.slice ra rn rq) (.int .i64 sn) (.int .i64 ov) (.bool dn)
        have z0 := tcell_blk z 0
        have z1 := tcell_blk z 1
        have z2 := tcell_blk z 2
        have z3 := tcell_blk z 3
        simp only [List.getElem?_toArray, List.getElem?_cons_zero, List.getElem?_cons_succ] at z0 z1 z2 z3
        have HFB : Hid (Below w.heap.size w (set4 w3 (g + 1 + 1) (.slice ra rn rq) (.int .i64 sn) (.int .i64 ov) (.bool dn))) := set4_bel (HC2.out.gb.below.trans (HD.out.bel.mono HC2.out.gb.below.size)) (by have := HG.out; omega)
        have HFIN : Hid (Dq w (.slice ra rn rq) l (set4 w3 (g + 1 + 1) (.slice ra rn rq) (.int .i64 sn) (.int .i64 ov) (.bool dn))) := by
          refine ⟨?_, HFB.out⟩
          have h2 := heap_lt3 HN2.out
          have := town_keep (w' := set4 w3 (g + 1 + 1) (.slice ra rn rq) (.int .i64 sn) (.int .i64 ov) (.bool dn)) HD.out.own fun b hb => set4_other (own_ne HD.out.own (by omega) b hb)
          exact own_less this HC2.out.gb.below.size
        exact bodyPost_ret (v := .tuple #[.agg #[.slice ra rn rq, .int .i64 sn, .int .i64 ov, .bool dn], .slice none 0 0, .int .i64 ce]) (by simp [results, Try.results19, go_sem, z0, z1, z2, z3]) rfl ⟨_, _, _, _, _, _, rfl, HFIN.out, Dn.nil _ HFB.out⟩
  · obtain rfl : okb = false := by rw [← HOK.out]; simp [a1]
    have hnz : ce ≠ 0 := fun e => by have := (chkC_zero (HCE.out.trans e)).2.2.2.1; cases this
    go_wp2_with fail
    clear a1
    refine hcall.mono ?_
    rintro _ w2 ⟨rfl, hb2⟩
    have HC2 : Hid (Clb w g (g + 1) t (n : Int) (.slice po ps.length pc) ps (.slice ao l.length c) l sn ov dn w2) := HC1.out.next hb2
    have HN2 : Hid (w2.heap[g + 1 + 1]? = some (.cells #[.slice none 0 0, .int .i64 0, .int .i64 0, .bool false] 43)) := tbox_next HN1.out hb2
    clear hcall hb2 z0 z1 z2 q0 q1 q2 q3 HC1 HN1 HB1
    by_cases hce : ce = 0
    · subst hce
      exact absurd rfl hnz
    · have HCN : Hid (ce ≠ 0) := hce
      have hne : (ce != 0) = true := by simpa using hce
      obtain rfl : (⟨l, sn, ov, dn, [], ce⟩ : Cres) = X := by
        have hce2 : ce = e := by rw [← HCE.out, ← HOK.out]; exact HEE.out
        rw [← HXX.out, hce2]
      have hcall := asItWas_any (.slice ao l.length c) l sn ov dn w2 HC2.out.td HLL.out
      have z0 := HC2.out.gb.c0
      have z1 := HC2.out.gb.c1
      have z2 := HC2.out.gb.c2
      have q0 := tcell_blk HC2.out.c 0
      have q1 := tcell_blk HC2.out.c 1
      have q2 := tcell_blk HC2.out.c 2
      have q3 := tcell_blk HC2.out.c 3
      simp only [List.getElem?_toArray, List.getElem?_cons_zero, List.getElem?_cons_succ] at q0 q1 q2 q3
      go_wp2_with fail
      refine hcall.mono ?_
      rintro _ w3 ⟨ra, rn, rq, rfl, hd⟩
      have HD : Hid _ := hd
      have BN : w3.heap[g + 1 + 1]? = _ := tbox_next HN2.out hd.bel
      clear hcall hd z0 z1 z2 q0 q1 q2 q3 hne hce
      have p0 := tcell_blk BN 0
      have p1 := tcell_blk BN 1
      have p2 := tcell_blk BN 2
      have p3 := tcell_blk BN 3
      have f0 := tfrozen_blk BN 0
      have f1 := tfrozen_blk BN 1
      have f2 := tfrozen_blk BN 2
      have f3 := tfrozen_blk BN 3
      simp only [List.getElem?_toArray, List.getElem?_cons_zero, List.getElem?_cons_succ] at p0 p1 p2 p3
      go_wp2_with fail
      rw [← set4_eq]
      have z := set4_blk BN (.slice ra rn rq) (.int .i64 sn) (.int .i64 ov) (.bool dn)
      have z0 := tcell_blk z 0
      have z1 := tcell_blk z 1
      have z2 := tcell_blk z 2
      have z3 := tcell_blk z 3
      simp only [List.getElem?_toArray, List.getElem?_cons_zero, List.getElem?_cons_succ] at z0 z1 z2 z3
      have HFB : Hid (Below w.heap.size w (set4 w3 (g + 1 + 1) (.slice ra rn rq) (.int .i64 sn) (.int .i64 ov) (.bool dn))) := set4_bel (HC2.out.gb.below.trans (HD.out.bel.mono HC2.out.gb.below.size)) (by have := HG.out; omega)
      have HFIN : Hid (Dq w (.slice ra rn rq) l (set4 w3 (g + 1 + 1) (.slice ra rn rq) (.int .i64 sn) (.int .i64 ov) (.bool dn))) := by
        refine ⟨?_, HFB.out⟩
        have h2 := heap_lt3 HN2.out
        have := town_keep (w' := set4 w3 (g + 1 + 1) (.slice ra rn rq) (.int .i64 sn) (.int .i64 ov) (.bool dn)) HD.out.own fun b hb => set4_other (own_ne HD.out.own (by omega) b hb)
        exact own_less this HC2.out.gb.below.size
      exact bodyPost_ret (v := .tuple #[.agg #[.slice ra rn rq, .int .i64 sn, .int .i64 ov, .bool dn], .slice none 0 0, .int .i64 ce]) (by simp [results, Try.results19, go_sem, z0, z1, z2, z3]) rfl ⟨_, _, _, _, _, _, rfl, HFIN.out, Dn.nil _ HFB.out⟩
set_option maxHeartbeats 12000000 in
set_option maxRecDepth 20000 in
theorem End_err (t : Int) (n : Int) (pv : Value) (ps : List Pd) (rv : Value) (rows : List (List Int)) (tv : Value) (l : List Td) (sn ov : Int) (dn : Bool) (w : World) (hp : Pds w pv ps) (hr : Rws w rv rows) (ht : Tds w tv l) (hl : l.length ≤ 4398046511104) (e : Int) (hee : chkC t n ps rows l sn ov dn true = e) (he : e ≠ 0) :
    Calls Try.prog 20 #[.agg #[.int .i64 t, .int .i64 (n : Int), pv], rv, .agg #[tv, .int .i64 sn, .int .i64 ov, .bool dn]] w fun e1 w' => ResP w ⟨l, sn, ov, dn, [], e⟩ e1 w' := by
  have HEE : Hid (chkC t n ps rows l sn ov dn true = e) := hee
  have HE0 : Hid (e ≠ 0) := he
  clear hee he
  have HC0 : Hid _ := Clb.box hp ht t (n : Int) sn ov dn
  have HPV : Hid (Pds w pv ps) := hp
  have HRW : Hid (Rws w rv rows) := hr
  have HTV : Hid (Tds w tv l) := ht
  have HLL : Hid (l.length ≤ 4398046511104) := hl
  obtain ⟨ao, c, rfl, hm, -⟩ := ht
  obtain ⟨po, pc, rfl, hpm, -⟩ := hp
  obtain ⟨ro, rc, rfl, hrm, -⟩ := hr
  clear hl
  have HB1 : Hid (Below w.heap.size w ((((w.alloc (Obj.cells #[.int .i64 t, .int .i64 (n : Int), .slice po ps.length pc] 24)).alloc (Obj.cells #[.slice ao l.length c, .int .i64 sn, .int .i64 ov, .bool dn] 43))).alloc (Obj.cells #[.slice none 0 0, .int .i64 0, .int .i64 0, .bool false] 43))) := (below_alloc2 _ _ _).trans ((below_alloc _ _).mono (below_alloc2 _ _ _).size)
  have HC1 : Hid _ := HC0.out.next (below_alloc _ (Obj.cells #[.slice none 0 0, .int .i64 0, .int .i64 0, .bool false] 43))
  have HN1 : Hid ((((w.alloc (Obj.cells #[.int .i64 t, .int .i64 (n : Int), .slice po ps.length pc] 24)).alloc (Obj.cells #[.slice ao l.length c, .int .i64 sn, .int .i64 ov, .bool dn] 43)).alloc (Obj.cells #[.slice none 0 0, .int .i64 0, .int .i64 0, .bool false] 43)).heap[w.heap.size + 1 + 1]? = some (.cells #[.slice none 0 0, .int .i64 0, .int .i64 0, .bool false] 43)) := by
    have := heap_alloc_new ((w.alloc (Obj.cells #[.int .i64 t, .int .i64 (n : Int), .slice po ps.length pc] 24)).alloc (Obj.cells #[.slice ao l.length c, .int .i64 sn, .int .i64 ov, .bool dn] 43)) (Obj.cells #[.slice none 0 0, .int .i64 0, .int .i64 0, .bool false] 43)
    show _ = _
    simpa using this
  clear HC0
  obtain ⟨X, HXX⟩ : ∃ X : Cres, Hid ((⟨l, sn, ov, dn, [], e⟩ : Cres) = X) := ⟨_, rfl⟩
  rw [HXX.out]
  go_enter Try.func20, Try.ntmps20
  go_upto_region 1 with fail
  generalize (((w.alloc (Obj.cells #[.int .i64 t, .int .i64 (n : Int), .slice po ps.length pc] 24)).alloc (Obj.cells #[.slice ao l.length c, .int .i64 sn, .int .i64 ov, .bool dn] 43))).alloc (Obj.cells #[.slice none 0 0, .int .i64 0, .int .i64 0, .bool false] 43) = w1 at HC1 HN1 HB1 ⊢
  obtain ⟨g, HG⟩ : ∃ g, Hid (w.heap.size = g) := ⟨_, (rfl : w.heap.size = w.heap.size)⟩
  rw [HG.out] at HC1 HN1 ⊢
  have hcall := clmCheck_any t (n : Int) (.slice po ps.length pc) ps (.slice ro rows.length rc) rows (.slice ao l.length c) l sn ov dn true w1 HC1.out.gb.pds (HRW.out.below HB1.out) HC1.out.td
  obtain ⟨ce, HCE⟩ : ∃ ce, Hid (chkC t (n : Int) ps rows l sn ov dn true = ce) := ⟨_, rfl⟩
  rw [HCE.out] at hcall
  have z0 := HC1.out.gb.c0
  have z1 := HC1.out.gb.c1
  have z2 := HC1.out.gb.c2
  have q0 := tcell_blk HC1.out.c 0
  have q1 := tcell_blk HC1.out.c 1
  have q2 := tcell_blk HC1.out.c 2
  have q3 := tcell_blk HC1.out.c 3
  simp only [List.getElem?_toArray, List.getElem?_cons_zero, List.getElem?_cons_succ] at q0 q1 q2 q3
  go_wp2_with fail
  refine hcall.mono ?_
  rintro _ w2 ⟨rfl, hb2⟩
  have HC2 : Hid (Clb w g (g + 1) t (n : Int) (.slice po ps.length pc) ps (.slice ao l.length c) l sn ov dn w2) := HC1.out.next hb2
  have HN2 : Hid (w2.heap[g + 1 + 1]? = some (.cells #[.slice none 0 0, .int .i64 0, .int .i64 0, .bool false] 43)) := tbox_next HN1.out hb2
  clear hcall hb2 z0 z1 z2 q0 q1 q2 q3 HC1 HN1 HB1
  by_cases hce : ce = 0
  · subst hce; exact absurd (by rw [← HEE.out]; exact HCE.out) HE0.out
  · have HCN : Hid (ce ≠ 0) := hce
    have hne : (ce != 0) = true := by simpa using hce
    obtain rfl : (⟨l, sn, ov, dn, [], ce⟩ : Cres) = X := by
      have hce2 : ce = e := by rw [← HCE.out]; exact HEE.out
      rw [← HXX.out, hce2]
    have hcall := asItWas_any (.slice ao l.length c) l sn ov dn w2 HC2.out.td HLL.out
    have z0 := HC2.out.gb.c0
    have z1 := HC2.out.gb.c1
    have z2 := HC2.out.gb.c2
    have q0 := tcell_blk HC2.out.c 0
    have q1 := tcell_blk HC2.out.c 1
    have q2 := tcell_blk HC2.out.c 2
    have q3 := tcell_blk HC2.out.c 3
    simp only [List.getElem?_toArray, List.getElem?_cons_zero, List.getElem?_cons_succ] at q0 q1 q2 q3
    go_wp2_with fail
    refine hcall.mono ?_
    rintro _ w3 ⟨ra, rn, rq, rfl, hd⟩
    have HD : Hid _ := hd
    have BN : w3.heap[g + 1 + 1]? = _ := tbox_next HN2.out hd.bel
    clear hcall hd z0 z1 z2 q0 q1 q2 q3 hne hce
    have p0 := tcell_blk BN 0
    have p1 := tcell_blk BN 1
    have p2 := tcell_blk BN 2
    have p3 := tcell_blk BN 3
    have f0 := tfrozen_blk BN 0
    have f1 := tfrozen_blk BN 1
    have f2 := tfrozen_blk BN 2
    have f3 := tfrozen_blk BN 3
    simp only [List.getElem?_toArray, List.getElem?_cons_zero, List.getElem?_cons_succ] at p0 p1 p2 p3
    go_wp2_with fail
    rw [← set4_eq]
    have z := set4_blk BN (.slice ra rn rq) (.int .i64 sn) (.int .i64 ov) (.bool dn)
    have z0 := tcell_blk z 0
    have z1 := tcell_blk z 1
    have z2 := tcell_blk z 2
    have z3 := tcell_blk z 3
    simp only [List.getElem?_toArray, List.getElem?_cons_zero, List.getElem?_cons_succ] at z0 z1 z2 z3
    have HFB : Hid (Below w.heap.size w (set4 w3 (g + 1 + 1) (.slice ra rn rq) (.int .i64 sn) (.int .i64 ov) (.bool dn))) := set4_bel (HC2.out.gb.below.trans (HD.out.bel.mono HC2.out.gb.below.size)) (by have := HG.out; omega)
    have HFIN : Hid (Dq w (.slice ra rn rq) l (set4 w3 (g + 1 + 1) (.slice ra rn rq) (.int .i64 sn) (.int .i64 ov) (.bool dn))) := by
      refine ⟨?_, HFB.out⟩
      have h2 := heap_lt3 HN2.out
      have := town_keep (w' := set4 w3 (g + 1 + 1) (.slice ra rn rq) (.int .i64 sn) (.int .i64 ov) (.bool dn)) HD.out.own fun b hb => set4_other (own_ne HD.out.own (by omega) b hb)
      exact own_less this HC2.out.gb.below.size
    exact bodyPost_ret (v := .tuple #[.agg #[.slice ra rn rq, .int .i64 sn, .int .i64 ov, .bool dn], .slice none 0 0, .int .i64 ce]) (by simp [results, Try.results20, go_sem, z0, z1, z2, z3]) rfl ⟨_, _, _, _, _, _, rfl, HFIN.out, Dn.nil _ HFB.out⟩
end Go.Proofs.Ytpfehghicaaghaa
