/-
  The contract of places.layNode: at two nodes in a row.
-/
import Derived.Test.YtlmlkpdppkgenaaPmNode2
namespace Go.Proofs.Ytlmlkpdppkgenaa
open Go.RowKit
open Cls Po Rex

set_option maxHeartbeats 8000000 in
set_option maxRecDepth 20000 in
theorem ln_cat {s t : T} {a1 b1 : Rex.E} (h1 : LNP s a1) (h2 : LNP t b1) : LNP (.mk 4 Cls.empty [s, t]) (.cat a1 b1) := by
  intro base gp B v V p ru val w hP hx hB hR
  obtain ⟨b, o, cap, k0, k1, c0, c1, a0, a1', n0, p0, n1, p1, rfl, hbB, r0, r1, x0, x1, x2, x3, x4, x5, x6, x7, x8, x9, x10, x11⟩ := two_kids hx
  have hb0 := ((Below.refl w.heap.size w).alloc (Nat.le_refl _) (Obj.cells #[.int .i64 4, .int .u64 0, .int .u64 0, .int .u64 0, .int .u64 0, .slice (some ⟨b, o, none⟩) 2 cap] 44)).alloc (by simp) (Obj.cells #[.slice none 0 0, .slice none 0 0, .bool false] 137)
  have hg5 : ((w.alloc (Obj.cells #[.int .i64 4, .int .u64 0, .int .u64 0, .int .u64 0, .int .u64 0, .slice (some ⟨b, o, none⟩) 2 cap] 44)).alloc (Obj.cells #[.slice none 0 0, .slice none 0 0, .bool false] 137)).heap[w.heap.size]? = some (.cells #[.int .i64 4, .int .u64 0, .int .u64 0, .int .u64 0, .int .u64 0, .slice (some ⟨b, o, none⟩) 2 cap] 44) := (alloc_old _ _ (by simp)).trans (new_at _ _ rfl)
  have hg6 : ((w.alloc (Obj.cells #[.int .i64 4, .int .u64 0, .int .u64 0, .int .u64 0, .int .u64 0, .slice (some ⟨b, o, none⟩) 2 cap] 44)).alloc (Obj.cells #[.slice none 0 0, .slice none 0 0, .bool false] 137)).heap[w.heap.size + 1]? = some (.cells #[.slice none 0 0, .slice none 0 0, .bool false] 137) := new_at _ _ (by simp)
  have hsz0 : ((w.alloc (Obj.cells #[.int .i64 4, .int .u64 0, .int .u64 0, .int .u64 0, .int .u64 0, .slice (some ⟨b, o, none⟩) 2 cap] 44)).alloc (Obj.cells #[.slice none 0 0, .slice none 0 0, .bool false] 137)).heap.size = w.heap.size + 1 + 1 := by simp
  obtain ⟨w0, HW0⟩ : ∃ w0, Hid ((w.alloc (Obj.cells #[.int .i64 4, .int .u64 0, .int .u64 0, .int .u64 0, .int .u64 0, .slice (some ⟨b, o, none⟩) 2 cap] 44)).alloc (Obj.cells #[.slice none 0 0, .slice none 0 0, .bool false] 137) = w0) := ⟨_, (rfl : _ = _)⟩
  rw [HW0.out] at hb0 hg5 hg6 hsz0
  have HPW : Hid (Pm base gp v V p w) := hP
  have HST0 : Hid (St base gp v V p.follow.length w p v V w0) := (St.refl hP).next hb0
  have HG6 : Hid (w0.heap[w.heap.size + 1]? = some (.cells #[.slice none 0 0, .slice none 0 0, .bool false] 137) ∧ w0.heap.size = w.heap.size + 1 + 1 ∧ w0.heap[w.heap.size]? = some (.cells #[.int .i64 4, .int .u64 0, .int .u64 0, .int .u64 0, .int .u64 0, .slice (some ⟨b, o, none⟩) 2 cap] 44)) := ⟨hg6, hsz0, hg5⟩
  have HNG : Hid (¬ Own gp v V p.follow.length (w.heap.size + 1) ∧ ¬ Own gp v V p.follow.length w.heap.size) := ⟨fun ho => by have := hP.own_lt ho; omega, fun ho => by have := hP.own_lt ho; omega⟩
  have HRD : Hid (Pm.Rdy p (Rex.E.nodes _)) := hR
  have HBG : Hid (B ≤ gp ∧ b < B ∧ gp < w.heap.size) := ⟨hB, hbB, hP.box.lt⟩
  have HR1 : Hid (Pm.Rdy p (a1.nodes + b1.nodes)) := hR.less (by simp only [Rex.E.nodes]; omega)
  have hcall := h1 base gp B v V p ru (.agg #[.int .i64 k0, .int .u64 (c0.1.toNat : Int), .int .u64 (c0.2.1.toNat : Int), .int .u64 (c0.2.2.1.toNat : Int), .int .u64 (c0.2.2.2.toNat : Int), .slice a0 n0 p0]) w0 HST0.out.pm (r0.next (HST0.out.below hP hB)) hB (HR1.out.less (by omega))
  have hkb := HST0.out.below hP hB
  have HXC : Hid (w.cell? ⟨b, o + 6, none⟩ = some (.int .i64 k1) ∧ w.cell? ⟨b, o + 6 + 1, none⟩ = some (.int .u64 (c1.1.toNat : Int)) ∧ w.cell? ⟨b, o + 6 + 2, none⟩ = some (.int .u64 (c1.2.1.toNat : Int)) ∧ w.cell? ⟨b, o + 6 + 3, none⟩ = some (.int .u64 (c1.2.2.1.toNat : Int)) ∧ w.cell? ⟨b, o + 6 + 4, none⟩ = some (.int .u64 (c1.2.2.2.toNat : Int)) ∧ w.cell? ⟨b, o + 6 + 5, none⟩ = some (.slice a1' n1 p1)) := ⟨x6, x7, x8, x9, x10, x11⟩
  have HRX : Hid (Rx w B (.agg #[.int .i64 k1, .int .u64 (c1.1.toNat : Int), .int .u64 (c1.2.1.toNat : Int), .int .u64 (c1.2.2.1.toNat : Int), .int .u64 (c1.2.2.2.toNat : Int), .slice a1' n1 p1]) t) := r1
  replace x0 := (hkb.cell (p := ⟨b, o, none⟩) hbB).trans x0
  replace x1 := (hkb.cell (p := ⟨b, o + 1, none⟩) hbB).trans x1
  replace x2 := (hkb.cell (p := ⟨b, o + 2, none⟩) hbB).trans x2
  replace x3 := (hkb.cell (p := ⟨b, o + 3, none⟩) hbB).trans x3
  replace x4 := (hkb.cell (p := ⟨b, o + 4, none⟩) hbB).trans x4
  replace x5 := (hkb.cell (p := ⟨b, o + 5, none⟩) hbB).trans x5
  rw [← HW0.out] at x0 x1 x2 x3 x4 x5
  have hgd := Pm.layX_good a1 ⟨p.cls, p.follow⟩ hR.ok
  have hgd2 := Pm.layX_good b1 (Pm.layX a1 ⟨p.cls, p.follow⟩).2 hgd.ok
  have hfn := Pm.layX_fine a1 ⟨p.cls, p.follow⟩ hR.ok hR.fine (by have := HR1.out.room; simp only; omega)
  have hfn2 := Pm.layX_fine b1 (Pm.layX a1 ⟨p.cls, p.follow⟩).2 hgd.ok hfn (by have := HR1.out.room; have := hgd.few; simp only at this; omega)
  have hr2 : Pm.Rdy (Pm.pos p (Pm.layX a1 ⟨p.cls, p.follow⟩).2 ru) b1.nodes := HR1.out.next a1
  have hpp : Pm.pos (Pm.pos p (Pm.layX a1 ⟨p.cls, p.follow⟩).2 ru) (Pm.layX b1 (Pm.layX a1 ⟨p.cls, p.follow⟩).2).2 ru = Pm.pos p (Pm.layX b1 (Pm.layX a1 ⟨p.cls, p.follow⟩).2).2 ru := Pm.pos_pos _ _ _ _ hgd.le hgd2.le
  obtain ⟨e1, HE1⟩ : ∃ e1, Hid ((Pm.layX a1 ⟨p.cls, p.follow⟩).1 = e1) := ⟨_, (rfl : _ = _)⟩
  obtain ⟨s1, HS1⟩ : ∃ s1, Hid ((Pm.layX a1 ⟨p.cls, p.follow⟩).2 = s1) := ⟨_, (rfl : _ = _)⟩
  obtain ⟨e2, HE2⟩ : ∃ e2, Hid ((Pm.layX b1 s1).1 = e2) := ⟨_, (rfl : _ = _)⟩
  obtain ⟨s2, HS2⟩ : ∃ s2, Hid ((Pm.layX b1 s1).2 = s2) := ⟨_, (rfl : _ = _)⟩
  have HX : Hid ((Pm.layX (.cat a1 b1) ⟨p.cls, p.follow⟩).1 = Pm.inRow e1 e2 ∧ Pm.pos p (Pm.layX (.cat a1 b1) ⟨p.cls, p.follow⟩).2 ru = (⟨(Pm.pos p s2 ru).cls, (Pm.pos p s2 ru).rules, (Pm.pos p s2 ru).first, Pm.link e2.first e1.last (Pm.pos p s2 ru).follow, (Pm.pos p s2 ru).last, (Pm.pos p s2 ru).empty⟩ : P)) := by
    rw [← HE2.out, ← HS2.out, ← HE1.out, ← HS1.out]; exact ⟨rfl, rfl⟩
  rw [HX.out.1, HX.out.2]
  have hcall2 : ∀ (v1 V1 : Nat → Value) (val : Value) (w : World), Pm base gp v1 V1 (Pm.pos p s1 ru) w → Rx w B val t → Calls Try.prog 74 #[.pointer (some ⟨gp, 0, none⟩), val, .int .i64 ru] w fun e w' => ∃ v' V' fo fn fc lo ln lc, e = .returned (.agg #[.slice fo fn fc, .slice lo ln lc, .bool e2.empty]) ∧ NO base gp v1 V1 (Pm.pos p s1 ru).follow.length w (Pm.pos p s2 ru) v' V' (.slice fo fn fc) (.slice lo ln lc) e2.first e2.last w' := fun v1 V1 val w hp hx => by
    have := h2 base gp B v1 V1 (Pm.pos p s1 ru) ru val w hp hx hB (by rw [← HS1.out]; exact hr2)
    have es : (⟨(Pm.pos p s1 ru).cls, (Pm.pos p s1 ru).follow⟩ : Pm.S) = s1 := rfl
    rw [es, HE2.out, HS2.out] at this
    rw [HS1.out, HS2.out] at hpp
    rw [hpp] at this
    exact this
  rw [HE1.out, HS1.out] at hcall hgd
  rw [HS1.out] at hgd2 hfn hfn2 hr2
  rw [HE2.out, HS2.out] at hgd2
  rw [HS2.out] at hfn2
  have HGD : Hid (Pm.Gx a1.nodes ⟨p.cls, p.follow⟩ e1 s1 ∧ Pm.Gx b1.nodes s1 e2 s2 ∧ Pm.Fine 3000 s2.fol) := ⟨hgd, hgd2, hfn2⟩
  obtain ⟨P1, HP1⟩ : ∃ P1, Hid (Pm.pos p s1 ru = P1) := ⟨_, (rfl : _ = _)⟩
  obtain ⟨P2, HP2⟩ : ∃ P2, Hid (Pm.pos p s2 ru = P2) := ⟨_, (rfl : _ = _)⟩
  have HPF : Hid (P2.follow = s2.fol) := by show _ = _; rw [← HP2.out]; rfl
  rw [HP1.out] at hcall hcall2
  rw [HP2.out] at hcall2
  rw [HP2.out]
  have HC2 : Hid (∀ (v1 V1 : Nat → Value) (val : Value) (w : World), Pm base gp v1 V1 P1 w → Rx w B val t → Calls Try.prog 74 #[.pointer (some ⟨gp, 0, none⟩), val, .int .i64 ru] w fun e w' => ∃ v' V' fo fn fc lo ln lc, e = .returned (.agg #[.slice fo fn fc, .slice lo ln lc, .bool e2.empty]) ∧ NO base gp v1 V1 P1.follow.length w P2 v' V' (.slice fo fn fc) (.slice lo ln lc) e2.first e2.last w') := hcall2
  clear hR hx hb0 hg5 hg6 hsz0 hkb hgd hgd2 hfn hfn2 hr2 hpp HX HE1 HS1 HE2 HS2 HP1 HP2 r0 r1 hcall2 x6 x7 x8 x9 x10 x11
  try simp only
  go_enter Try.func74, Try.ntmps74
  go_wp2_with fail
  rw [HW0.out]
  clear x0 x1 x2 x3 x4 x5
  refine hcall.mono ?_
  rintro _ w1 ⟨v1, V1, fo, fn, fc, lo, ln, lc, rfl, hno⟩
  obtain ⟨em, HEM⟩ : ∃ em, Hid (e1.empty = em) := ⟨_, (rfl : e1.empty = e1.empty)⟩
  rw [HEM.out]
  have hb1 := below_alloc1 w1 (Obj.cells #[.slice fo fn fc, .slice lo ln lc, .bool em] 137)
  have hbx := new_at w1 (Obj.cells #[.slice fo fn fc, .slice lo ln lc, .bool em] 137) rfl
  obtain ⟨w2, HW2⟩ : ∃ w2, Hid (w1.alloc (Obj.cells #[.slice fo fn fc, .slice lo ln lc, .bool em] 137) = w2) := ⟨_, (rfl : _ = _)⟩
  rw [HW2.out] at hb1 hbx
  have hk6 := box_kept hno.st HG6.out.1 HNG.out.1
  have hk5 := box_kept hno.st HG6.out.2.2 HNG.out.2
  have hst2 := hno.st.next hb1
  have HNX : Hid (¬ Own gp v1 V1 P1.follow.length w1.heap.size) := fun ho => by have := hno.st.pm.own_lt ho; omega
  have HK6 : Hid (w2.heap[w.heap.size + 1]? = some (.cells #[.slice none 0 0, .slice none 0 0, .bool false] 137) ∧ ¬ Own gp v1 V1 P1.follow.length (w.heap.size + 1)) := ⟨(hb1.block _ ((Array.getElem?_eq_some_iff.1 hk6.1).1)).trans hk6.1, hk6.2⟩
  have hk5b := (hb1.block _ ((Array.getElem?_eq_some_iff.1 hk5.1).1)).trans hk5.1
  have HS0 : Hid (St base gp v V p.follow.length w P1 v1 V1 w2) := HST0.out.trans hst2
  have HX2 : Hid (Rk gp v1 V1 P1.follow.length w0.heap.size (.slice fo fn fc) e1.first w2 ∧ Rk gp v1 V1 P1.follow.length w0.heap.size (.slice lo ln lc) e1.last w2) := ⟨hno.f.next hb1, hno.l.next hb1⟩
  have HSB : Hid (w0.heap.size ≤ w1.heap.size) := hno.st.fm.size
  have HBX : Hid (w2.heap[w1.heap.size]? = some (.cells #[.slice fo fn fc, .slice lo ln lc, .bool em] 137)) := hbx
  have hcl2 := HC2.out v1 V1 (.agg #[.int .i64 k1, .int .u64 (c1.1.toNat : Int), .int .u64 (c1.2.1.toNat : Int), .int .u64 (c1.2.2.1.toNat : Int), .int .u64 (c1.2.2.2.toNat : Int), .slice a1' n1 p1]) w2 hst2.pm (HRX.out.next (HS0.out.below hP hB))
  have hkb := HS0.out.below hP hB
  obtain ⟨x0, x1, x2, x3, x4, x5⟩ := HXC.out
  replace x0 := (hkb.cell (p := ⟨b, o + 6, none⟩) hbB).trans x0
  replace x1 := (hkb.cell (p := ⟨b, o + 6 + 1, none⟩) hbB).trans x1
  replace x2 := (hkb.cell (p := ⟨b, o + 6 + 2, none⟩) hbB).trans x2
  replace x3 := (hkb.cell (p := ⟨b, o + 6 + 3, none⟩) hbB).trans x3
  replace x4 := (hkb.cell (p := ⟨b, o + 6 + 4, none⟩) hbB).trans x4
  replace x5 := (hkb.cell (p := ⟨b, o + 6 + 5, none⟩) hbB).trans x5
  have y5 : w2.cell? ⟨w.heap.size, 5, none⟩ = some (.slice (some ⟨b, o, none⟩) 2 cap) := by simp [World.cell?, hk5b]
  clear hno hb1 hbx hk6 hk5 hk5b hst2 hcall hkb hP
  rw [← HW2.out] at x0 x1 x2 x3 x4 x5 y5
  go_wp2_with fail
  rw [HW2.out]
  clear x0 x1 x2 x3 x4 x5 y5 HW2
  refine hcl2.mono ?_
  rintro _ w3 ⟨v3, V3, go_, gn, gc, ho_, hn, hc, rfl, hno⟩
  obtain ⟨em2, HEM2⟩ : ∃ em, Hid (e2.empty = em) := ⟨_, (rfl : e2.empty = e2.empty)⟩
  rw [HEM2.out]
  have hb1 := below_alloc1 w3 (Obj.cells #[.slice go_ gn gc, .slice ho_ hn hc, .bool em2] 137)
  have hby := new_at w3 (Obj.cells #[.slice go_ gn gc, .slice ho_ hn hc, .bool em2] 137) rfl
  obtain ⟨w4, HW4⟩ : ∃ w4, Hid (w3.alloc (Obj.cells #[.slice go_ gn gc, .slice ho_ hn hc, .bool em2] 137) = w4) := ⟨_, (rfl : _ = _)⟩
  rw [HW4.out] at hb1 hby
  have hk6 := box_kept hno.st HK6.out.1 HK6.out.2
  have hkx := box_kept hno.st HBX.out HNX.out
  have HS4 : Hid (St base gp v V p.follow.length w P2 v3 V3 w4) := (HS0.out.trans hno.st).next hb1
  have HR4 : Hid ((Rk gp v3 V3 P2.follow.length w0.heap.size (.slice fo fn fc) e1.first w4 ∧ Rk gp v3 V3 P2.follow.length w0.heap.size (.slice lo ln lc) e1.last w4) ∧ Rk gp v3 V3 P2.follow.length w0.heap.size (.slice go_ gn gc) e2.first w4 ∧ Rk gp v3 V3 P2.follow.length w0.heap.size (.slice ho_ hn hc) e2.last w4) :=
    ⟨⟨(HX2.out.1.step hno.st).next hb1, (HX2.out.2.step hno.st).next hb1⟩, (hno.f.next hb1).less (by have := HSB.out; have := (Array.getElem?_eq_some_iff.1 HBX.out).1; omega), (hno.l.next hb1).less (by have := HSB.out; have := (Array.getElem?_eq_some_iff.1 HBX.out).1; omega)⟩
  have HK4 : Hid ((w4.heap[w.heap.size + 1]? = some (.cells #[.slice none 0 0, .slice none 0 0, .bool false] 137) ∧ ¬ Own gp v3 V3 P2.follow.length (w.heap.size + 1)) ∧ (w4.heap[w1.heap.size]? = some (.cells #[.slice fo fn fc, .slice lo ln lc, .bool em] 137) ∧ ¬ Own gp v3 V3 P2.follow.length w1.heap.size) ∧ (w4.heap[w3.heap.size]? = some (.cells #[.slice go_ gn gc, .slice ho_ hn hc, .bool em2] 137) ∧ ¬ Own gp v3 V3 P2.follow.length w3.heap.size)) :=
    ⟨⟨(hb1.block _ ((Array.getElem?_eq_some_iff.1 hk6.1).1)).trans hk6.1, hk6.2⟩, ⟨(hb1.block _ ((Array.getElem?_eq_some_iff.1 hkx.1).1)).trans hkx.1, hkx.2⟩, hby, fun ho => by have := hno.st.pm.own_lt ho; omega⟩
  clear hno hb1 hby hk6 hkx hcl2 HS0 HX2 HK6 HBX HNX
  have HLK : Hid (Calls Try.prog 84 #[(.pointer (some ⟨gp, 0, none⟩)), .slice lo ln lc, .slice go_ gn gc] w4 fun e w' => e = .returned (.tuple #[]) ∧ ∃ V', St base gp v3 V3 P2.follow.length w4 (⟨P2.cls, P2.rules, P2.first, Pm.link e2.first e1.last P2.follow, P2.last, P2.empty⟩ : P) v3 V' w') := by
    have g := HGD.out.1
    have k := HGD.out.2.1
    have go := k.ok; unfold Pm.Ok at go
    have g3 := g.few; have g4 := HR1.out.room; have g5 := k.few; have g6 := k.le
    simp only at g3
    refine link_st HS4.out.pm HR4.out.1.2 HR4.out.2.1 (fun x hx => ?_) (k.first.fine (by omega)) (by rw [HPF.out]; exact HGD.out.2.2) (by rw [HPF.out]; omega) (by have := g.ll; omega) (by have := k.fl; omega)
    have := g.last x hx
    rw [HPF.out, go]
    omega
  have HLN : Hid (e1.first.length + e2.first.length ≤ 100000 ∧ e1.last.length + e2.last.length ≤ 100000) := by
    have g1 := HGD.out.1.fl; have g2 := HGD.out.1.ll; have g3 := HGD.out.2.1.fl; have g4 := HGD.out.2.1.ll; have g5 := HR1.out.room
    exact ⟨by omega, by omega⟩
  obtain ⟨y0, y1, y2, -⟩ := cells3 HK4.out.2.1.1
  obtain ⟨z0, z1, z2, -⟩ := cells3 HK4.out.2.2.1
  rw [← HW4.out] at y0 y1 y2 z0 z1 z2
  go_wp2_with fail
  rw [HW4.out]
  clear y0 y1 y2 z0 z1 z2 HW4
  refine HLK.out.mono ?_
  rintro _ w5 ⟨rfl, V5, hst5⟩
  have hx5 := box_kept hst5 HK4.out.2.1.1 HK4.out.2.1.2
  have hy5 := box_kept hst5 HK4.out.2.2.1 HK4.out.2.2.2
  have h65 := box_kept hst5 HK4.out.1.1 HK4.out.1.2
  have HS5 : Hid (St base gp v V p.follow.length w (⟨P2.cls, P2.rules, P2.first, Pm.link e2.first e1.last P2.follow, P2.last, P2.empty⟩ : P) v3 V5 w5) := HS4.out.trans hst5
  have HR5 : Hid ((Rk gp v3 V5 (⟨P2.cls, P2.rules, P2.first, Pm.link e2.first e1.last P2.follow, P2.last, P2.empty⟩ : P).follow.length w0.heap.size (.slice fo fn fc) e1.first w5 ∧ Rk gp v3 V5 (⟨P2.cls, P2.rules, P2.first, Pm.link e2.first e1.last P2.follow, P2.last, P2.empty⟩ : P).follow.length w0.heap.size (.slice lo ln lc) e1.last w5) ∧ Rk gp v3 V5 (⟨P2.cls, P2.rules, P2.first, Pm.link e2.first e1.last P2.follow, P2.last, P2.empty⟩ : P).follow.length w0.heap.size (.slice go_ gn gc) e2.first w5 ∧ Rk gp v3 V5 (⟨P2.cls, P2.rules, P2.first, Pm.link e2.first e1.last P2.follow, P2.last, P2.empty⟩ : P).follow.length w0.heap.size (.slice ho_ hn hc) e2.last w5) := ⟨⟨HR4.out.1.1.step hst5, HR4.out.1.2.step hst5⟩, HR4.out.2.1.step hst5, HR4.out.2.2.step hst5⟩
  have H65 : Hid (w5.heap[w.heap.size + 1]? = some (.cells #[.slice none 0 0, .slice none 0 0, .bool false] 137) ∧ ¬ Own gp v3 V5 (⟨P2.cls, P2.rules, P2.first, Pm.link e2.first e1.last P2.follow, P2.last, P2.empty⟩ : P).follow.length (w.heap.size + 1)) := h65
  have HSZ5 : Hid (w0.heap.size ≤ w5.heap.size) := by have h1 := hst5.fm.size; have h2 := (Array.getElem?_eq_some_iff.1 HK4.out.2.1.1).1; have h3 := HSB.out; show _ ≤ _; omega
  obtain ⟨y0, y1, y2, -⟩ := cells3 hx5.1
  obtain ⟨z0, z1, z2, -⟩ := cells3 hy5.1
  clear hst5 hx5 hy5 h65 HS4 HR4 HK4 HLK
  go_wp2_with fail
  clear y0 y1 y2 z0 z1 z2
  refine (inRow_any fo lo go_ ho_ fn ln gn hn fc lc gc hc em em2 e1.first e1.last e2.first e2.last w5 HR5.out.1.1.i HR5.out.1.2.i HR5.out.2.1.i HR5.out.2.2.i HLN.out.1 HLN.out.2).mono ?_
  rintro _ w6 ⟨o1, j1, q1, o2, j2, q2, rfl, hir⟩
  have h66 := (hir.bl.block _ ((Array.getElem?_eq_some_iff.1 H65.out.1).1)).trans H65.out.1
  have hs0 := HG6.out.2.1
  have hs5 := HS5.out.fm.size
  have hl6 := (Array.getElem?_eq_some_iff.1 H65.out.1).1
  have hown := fun q (ho : Own gp v3 V5 (⟨P2.cls, P2.rules, P2.first, Pm.link e2.first e1.last P2.follow, P2.last, P2.empty⟩ : P).follow.length q) => HS5.out.pm.own_lt ho
  have hkf : Rk gp v3 V5 (⟨P2.cls, P2.rules, P2.first, Pm.link e2.first e1.last P2.follow, P2.last, P2.empty⟩ : P).follow.length w0.heap.size (.slice o1 j1 q1) (if em = true then e1.first ++ e2.first else e1.first) w6 := ⟨hir.f, fun q hq => (hir.fb q hq).elim (fun h => have k := HR5.out.1.1.b q h; ⟨k.1, Nat.lt_of_lt_of_le k.2.1 hir.bl.size, k.2.2⟩) (fun h => ⟨by have := (Array.getElem?_eq_some_iff.1 H65.out.1).1; have := HSZ5.out; omega, h.2, fun ho => by have := hown q ho; omega⟩)⟩
  have hkl : Rk gp v3 V5 (⟨P2.cls, P2.rules, P2.first, Pm.link e2.first e1.last P2.follow, P2.last, P2.empty⟩ : P).follow.length w0.heap.size (.slice o2 j2 q2) (if em2 = true then e1.last ++ e2.last else e2.last) w6 := ⟨hir.l, fun q hq => (hir.lb q hq).elim (fun h => have k := HR5.out.2.2.b q h; ⟨k.1, Nat.lt_of_lt_of_le k.2.1 hir.bl.size, k.2.2⟩) (fun h => ⟨by have := HSZ5.out; omega, h.2, fun ho => by have := hown q ho; omega⟩)⟩
  have HFIN : Hid (NO base gp v V p.follow.length w (⟨P2.cls, P2.rules, P2.first, Pm.link e2.first e1.last P2.follow, P2.last, P2.empty⟩ : P) v3 V5 (.slice o1 j1 q1) (.slice o2 j2 q2) (if em = true then e1.first ++ e2.first else e1.first) (if em2 = true then e1.last ++ e2.last else e2.last) (((w6.setCell ⟨w.heap.size + 1, 0, none⟩ (.slice o1 j1 q1)).setCell ⟨w.heap.size + 1, 1, none⟩ (.slice o2 j2 q2)).setCell ⟨w.heap.size + 1, 2, none⟩ (.bool (em && em2)))) :=
    no_fin (HS5.out.next hir.bl) (hkf.less (by omega)) (hkl.less (by omega)) H65.out.2 (by omega) (fun e => by have := (hkf.b _ e).1; omega) (fun e => by have := (hkl.b _ e).1; omega) _ _ _
  have H66 : Hid (w6.heap[w.heap.size + 1]? = some (.cells #[.slice none 0 0, .slice none 0 0, .bool false] 137)) := h66
  obtain ⟨z0, z1, z2, zf⟩ := cells3 h66
  have HEE : Hid (Pm.inRow e1 e2 = ⟨if em = true then e1.first ++ e2.first else e1.first, if em2 = true then e1.last ++ e2.last else e2.last, em && em2⟩) := by rw [← HEM.out, ← HEM2.out]; exact (rfl : _ = _)
  clear hir h66 hkf hkl hown
  obtain ⟨ea, HEA⟩ : ∃ ea, Hid ((em && em2) = ea) := ⟨_, (rfl : _ = _)⟩
  rw [HEA.out] at HFIN
  rw [HEA.out]
  go_wp2_with fail
  refine bodyPost_ret (v := .agg #[.slice o1 j1 q1, .slice o2 j2 q2, .bool ea]) (results_cell_row results47 _ _ (w.heap.size + 1) 137 #[.slice o1 j1 q1, .slice o2 j2 q2, .bool ea] (0, 0) _ rfl (three H66.out _ _ _) Try.underlying137 rfl (by kernel_rfl)) rfl ⟨v3, V5, _, _, _, _, _, _, by rw [HEE.out, HEA.out], by rw [HEE.out]; exact HFIN.out⟩
end Go.Proofs.Ytlmlkpdppkgenaa
