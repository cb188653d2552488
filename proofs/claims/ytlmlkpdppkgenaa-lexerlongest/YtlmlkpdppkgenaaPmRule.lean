/-
  The contract of places.layRule.
-/
import Derived.Test.YtlmlkpdppkgenaaPmNode4
import Derived.Test.YtlmlkpdppkgenaaPmRule0
import Derived.Maps.AppendAt
namespace Go.Proofs.Ytlmlkpdppkgenaa
open Go.RowKit
open Cls Po Rex

structure RRa (w1 : World) (base gp ge : Nat) (v V : Nat → Value) (p : P) (fo : Option Addr) (fn fc : Nat) (fl : List Int) (ro : Option Addr) (rn : Nat) (rc : Nat) (d : Nat → Bool) (x13 x14 x15 x16 x17 x18 x19 x20 x21 x22 : Value) (W : World) : Prop where
  f0 : d 0 = true → x13 = (.pointer (some ⟨gp, 0, none⟩))
  f1 : d 1 = true → x14 = (.pointer (some ⟨gp, 0, none⟩))
  f2 : d 2 = true → x15 = (.pointer (some ⟨gp, 0, none⟩))
  f3 : d 3 = true → x16 = (.pointer (some ⟨gp, 2, none⟩))
  f4 : d 4 = true → x17 = (v 2)
  f5 : d 5 = true → x18 = (.pointer (some ⟨ge, 0, none⟩))
  f6 : d 6 = true → x19 = (.slice fo fn fc)
  f7 : d 7 = true → x20 = (.slice ro rn rc)
  f8 : d 8 = true → x21 = (.pointer (some ⟨gp, 0, none⟩))
  f9 : d 9 = true → x22 = (.pointer (some ⟨gp, 2, none⟩))
  f10 : d 10 = true → True
  o7_4 : d 7 = true → d 4 = true
  o7_6 : d 7 = true → d 6 = true
  q10_7 : d 10 = true → d 7 = true
  kf : Fm (Own gp v V p.follow.length) w1 W
  pm : d 7 = false → Pm base gp v V p W
  th : d 7 = true → d 10 = false → W.rowIs gp 27 6 v ∧ (St base gp v V p.follow.length w1 ({ cls := p.cls, rules := p.rules, first := p.first ++ fl, follow := p.follow, last := p.last, empty := p.empty } : P) (upd v 2 (.slice ro rn rc)) V (W.setCell ⟨gp, 2, none⟩ (.slice ro rn rc)))
  fin : d 10 = true → St base gp v V p.follow.length w1 ({ cls := p.cls, rules := p.rules, first := p.first ++ fl, follow := p.follow, last := p.last, empty := p.empty } : P) (upd v 2 (.slice ro rn rc)) V W
structure RRb (w1 : World) (base gp ge : Nat) (v V : Nat → Value) (p : P) (em : Bool) (gb : Nat) (ro : Option Addr) (rn : Nat) (rc : Nat) (d : Nat → Bool) (x37 x38 x39 x40 x41 x42 x43 x44 x45 x46 x47 : Value) (W : World) : Prop where
  f0 : d 0 = true → x37 = (.pointer (some ⟨gp, 0, none⟩))
  f1 : d 1 = true → x38 = (.pointer (some ⟨gp, 0, none⟩))
  f2 : d 2 = true → x39 = (.pointer (some ⟨gp, 0, none⟩))
  f3 : d 3 = true → x40 = (.pointer (some ⟨gp, 5, none⟩))
  f4 : d 4 = true → x41 = (v 5)
  f5 : d 5 = true → x42 = (.pointer (some ⟨ge, 2, none⟩))
  f6 : d 6 = true → x43 = (.bool em)
  f7 : d 7 = true → x44 = (.slice (some ⟨gb, 0, none⟩) 1 1)
  f8 : d 8 = true → x45 = (.slice ro rn rc)
  f9 : d 9 = true → x46 = (.pointer (some ⟨gp, 0, none⟩))
  f10 : d 10 = true → x47 = (.pointer (some ⟨gp, 5, none⟩))
  f11 : d 11 = true → True
  o8_4 : d 8 = true → d 4 = true
  o8_7 : d 8 = true → d 7 = true
  q11_8 : d 11 = true → d 8 = true
  kf : Fm (Own gp v V p.follow.length) w1 W
  pm : d 8 = false → Pm base gp v V p W
  bs : d 7 = true → d 8 = false → ∀ j u, ([.bool em] : List Value)[j]? = some u → W.cell? ⟨gb, j, none⟩ = some u
  th : d 8 = true → d 11 = false → W.rowIs gp 27 6 v ∧ (St base gp v V p.follow.length w1 ({ cls := p.cls, rules := p.rules, first := p.first, follow := p.follow, last := p.last, empty := p.empty ++ [em] } : P) (upd v 5 (.slice ro rn rc)) V (W.setCell ⟨gp, 5, none⟩ (.slice ro rn rc)))
  fin : d 11 = true → St base gp v V p.follow.length w1 ({ cls := p.cls, rules := p.rules, first := p.first, follow := p.follow, last := p.last, empty := p.empty ++ [em] } : P) (upd v 5 (.slice ro rn rc)) V W

set_option maxHeartbeats 8000000 in
set_option maxRecDepth 20000 in
theorem layRule_any {t : T} {x : Rex.E} (hx : Is t x) (base gp B : Nat) (v0 V0 : Nat → Value) (p0 : P) (ru : Int) (val : Value) (w : World) (hP : Pm base gp v0 V0 p0 w) (hr : Rx w B val t) (hB : B ≤ gp) (hR : Pm.Rdr p0 x.nodes) :
    Calls Try.prog 60 #[.pointer (some ⟨gp, 0, none⟩), val, .int .i64 ru] w fun e w' => e = .returned (.tuple #[]) ∧ ∃ v' V', St base gp v0 V0 p0.follow.length w (Pm.ruleX p0 ru x) v' V' w' := by
  obtain ⟨i4, q1, q2, q3, q4⟩ := info_parts iinfo4
  have H4 : Hid (Try.prog.info? 4 = some i4 ∧ i4.zero = some (.bool false) ∧ i4.size = 1 ∧ i4.bytes = 1) := ⟨q1, q2, q3, q4⟩
  have hn := x.nodes_pos
  have hb0 := below_alloc1 w (Obj.cells val.cells 44)
  obtain ⟨k, c, ao, cap, kids, vals, rfl, -, -, -⟩ := hr.shape
  simp only [Value.cells] at hb0
  obtain ⟨w0, HW0⟩ : ∃ w0, Hid (w.alloc (Obj.cells #[.int .i64 k, .int .u64 (c.1.toNat : Int), .int .u64 (c.2.1.toNat : Int), .int .u64 (c.2.2.1.toNat : Int), .int .u64 (c.2.2.2.toNat : Int), .slice ao kids.length cap] 44) = w0) := ⟨_, (rfl : _ = _)⟩
  rw [HW0.out] at hb0
  have HST0 : Hid (St base gp v0 V0 p0.follow.length w p0 v0 V0 w0) := (St.refl hP).next hb0
  have hcall := layNode_any hx base gp B v0 V0 p0 ru _ w0 HST0.out.pm (hr.next (HST0.out.below hP hB)) hB hR.r
  have hg := Pm.layX_good x ⟨p0.cls, p0.follow⟩ hR.r.ok
  have hrn := hR.r.next (n := 0) (ru := ru) x
  obtain ⟨e1, HE1⟩ : ∃ e1, Hid ((Pm.layX x ⟨p0.cls, p0.follow⟩).1 = e1) := ⟨_, (rfl : _ = _)⟩
  obtain ⟨s1, HS1⟩ : ∃ s1, Hid ((Pm.layX x ⟨p0.cls, p0.follow⟩).2 = s1) := ⟨_, (rfl : _ = _)⟩
  obtain ⟨p, HP1⟩ : ∃ p, Hid (Pm.pos p0 s1 ru = p) := ⟨_, (rfl : _ = _)⟩
  have HRU : Hid (Pm.ruleX p0 ru x = ({ cls := p.cls, rules := p.rules, first := p.first ++ e1.first, follow := p.follow, last := Pm.markL e1.last p.last, empty := p.empty ++ [e1.empty] } : P)) := by
    rw [← HP1.out, ← HE1.out, ← HS1.out]; exact (rfl : _ = _)
  rw [HE1.out, HS1.out] at hcall hg
  rw [HS1.out] at hrn
  rw [HP1.out] at hcall hrn
  have HSM0 : Hid (p.first.length + e1.first.length ≤ 900000 ∧ p.empty.length ≤ 900000 ∧ e1.last.length ≤ 3000 ∧ (∀ y ∈ e1.last, 0 ≤ y ∧ y < (p.last.length : Int))) := by
    have h1 := hg.fl; have h2 := hg.ll; have h3 := hrn.fi; have h4 := hrn.em; have h5 := hR.r.room; have h6 := hrn.la
    refine ⟨by omega, by omega, by omega, fun y hy => ?_⟩
    have h7 := hg.last y hy
    have h8 : p.cls = s1.cls := by rw [← HP1.out]; rfl
    rw [h6, h8]; simp only at h7; omega
  rw [HRU.out]
  clear hP hr hR hb0 hg hrn HE1 HS1 HP1 HRU hn q1 q2 q3 q4
  go_enter Try.func60, Try.ntmps60
  go_wp2_with fail
  rw [HW0.out]
  clear HW0
  refine hcall.mono ?_
  rintro _ w1 ⟨v, V, fo, fn, fc, lo, ln, lc, rfl, hno⟩
  obtain ⟨em, HEM⟩ : ∃ em, Hid (e1.empty = em) := ⟨_, (rfl : e1.empty = e1.empty)⟩
  rw [HEM.out]
  have hb1 := below_alloc1 w1 (Obj.cells #[.slice fo fn fc, .slice lo ln lc, .bool em] 137)
  have hbx := new_at w1 (Obj.cells #[.slice fo fn fc, .slice lo ln lc, .bool em] 137) rfl
  obtain ⟨w2, HW2⟩ : ∃ w2, Hid (w1.alloc (Obj.cells #[.slice fo fn fc, .slice lo ln lc, .bool em] 137) = w2) := ⟨_, (rfl : _ = _)⟩
  rw [HW2.out] at hb1 hbx
  have HS2 : Hid (St base gp v0 V0 p0.follow.length w p v V w2) := (HST0.out.trans hno.st).next hb1
  have hf2 := hno.f.next hb1
  have HL2 : Hid (Rk gp v V p.follow.length w0.heap.size (.slice lo ln lc) e1.last w2) := hno.l.next hb1
  have hnx : ¬ Own gp v V p.follow.length w1.heap.size := fun ho => by have := hno.st.pm.own_lt ho; omega
  obtain ⟨fl, HFL⟩ : ∃ fl, Hid (e1.first = fl) := ⟨_, (rfl : e1.first = e1.first)⟩
  rw [HFL.out] at hf2 HSM0
  obtain ⟨ge, HGEE⟩ : ∃ ge, Hid (w1.heap.size = ge) := ⟨_, (rfl : w1.heap.size = w1.heap.size)⟩
  rw [HGEE.out] at hbx hnx
  have HGE : Hid (w2.heap[ge]? = some (.cells #[.slice fo fn fc, .slice lo ln lc, .bool em] 137) ∧ ¬ Own gp v V p.follow.length ge) := ⟨hbx, hnx⟩
  have HFI : Hid (Ints w2 (.slice fo fn fc) fl) := hf2.i
  have HFO : Hid (∀ q, (Value.slice fo fn fc).ownBlock = some q → ¬ Own gp v V p.follow.length q) := fun q hq => (hf2.b q hq).2.2
  have HSM : Hid (p.first.length + fl.length ≤ 900000) := HSM0.out.1
  have HPM : Hid (Pm base gp v V p w2) := HS2.out.pm
  clear hno hb1 hbx hf2 hnx hcall HST0
  go_upto_region 2 with (fail)
  rw [HW2.out, HGEE.out]
  clear HW2 HGEE
  obtain ⟨w1', rfl⟩ : ∃ z, z = w2 := ⟨_, rfl⟩
  refine wp_region_free mixed (fun a0 d a W => ∃ (ro : Option Addr) (rn : Nat) (rc : Nat) (x13 x14 x15 x16 x17 x18 x19 x20 x21 x22 : Value), a = ((((((((((a0.put (some 13) x13).put (some 14) x14).put (some 15) x15).put (some 16) x16).put (some 17) x17).put (some 18) x18).put (some 19) x19).put (some 20) x20).put (some 21) x21).put (some 22) x22) ∧ Hid (RRa w1' base gp ge v V p fo fn fc fl ro rn rc d x13 x14 x15 x16 x17 x18 x19 x20 x21 x22 W)) (by kernel_rfl) ⟨none, 0, 0, undef, undef, undef, undef, undef, undef, undef, undef, undef, undef, by simp only [Act.put, List.setIfInBounds_toArray, List.set_cons_zero, List.set_cons_succ], ?_⟩ ?_ ?_
  · exact ⟨fun h => no_way h, fun h => no_way h, fun h => no_way h, fun h => no_way h, fun h => no_way h, fun h => no_way h, fun h => no_way h, fun h => no_way h, fun h => no_way h, fun h => no_way h, fun _ => trivial, fun h => no_way h, fun h => no_way h, fun h => no_way h, (Fm.refl _ _).trans (Fm.below (Below.refl _ _).drew) (fun q _ h => h), fun _ => HPM.out.drew, fun h => no_way h, fun h => no_way h⟩
  · simp only [StepAll, and_true]
    refine ⟨?_, ?_, ?_, ?_, ?_, ?_, ?_, ?_, ?_, ?_, ?_⟩
    · intro d a W hI hd hdep
      obtain ⟨ro, rn, rc, x13, x14, x15, x16, x17, x18, x19, x20, x21, x22, rfl, hF⟩ := hI
      clear hdep hd
      intro K hK
      simp only [Act.put, List.setIfInBounds_toArray, List.set_cons_zero, List.set_cons_succ]
      go_simp
      refine hK.out _ _ ⟨ro, rn, rc, (.pointer (some ⟨gp, 0, none⟩)), x14, x15, x16, x17, x18, x19, x20, x21, x22, by simp only [Act.put, List.setIfInBounds_toArray, List.set_cons_zero, List.set_cons_succ], ?_⟩
      exact ⟨fun _ => rfl, fun h => hF.out.f1 (by simpa using h), fun h => hF.out.f2 (by simpa using h), fun h => hF.out.f3 (by simpa using h), fun h => hF.out.f4 (by simpa using h), fun h => hF.out.f5 (by simpa using h), fun h => hF.out.f6 (by simpa using h), fun h => hF.out.f7 (by simpa using h), fun h => hF.out.f8 (by simpa using h), fun h => hF.out.f9 (by simpa using h), fun h => hF.out.f10 (by simpa using h), fun h => by have := hF.out.o7_4 (by simpa using h); simpa using this, fun h => by have := hF.out.o7_6 (by simpa using h); simpa using this, fun h => by have := hF.out.q10_7 (by simpa using h); simpa using this, hF.out.kf, fun h => hF.out.pm (by simpa using h), fun h h2 => hF.out.th (by simpa using h) (by simpa using h2), fun h => hF.out.fin (by simpa using h)⟩
    · intro d a W hI hd hdep
      obtain ⟨ro, rn, rc, x13, x14, x15, x16, x17, x18, x19, x20, x21, x22, rfl, hF⟩ := hI
      clear hdep hd
      intro K hK
      simp only [Act.put, List.setIfInBounds_toArray, List.set_cons_zero, List.set_cons_succ]
      go_simp
      refine hK.out _ _ ⟨ro, rn, rc, x13, (.pointer (some ⟨gp, 0, none⟩)), x15, x16, x17, x18, x19, x20, x21, x22, by simp only [Act.put, List.setIfInBounds_toArray, List.set_cons_zero, List.set_cons_succ], ?_⟩
      exact ⟨fun h => hF.out.f0 (by simpa using h), fun _ => rfl, fun h => hF.out.f2 (by simpa using h), fun h => hF.out.f3 (by simpa using h), fun h => hF.out.f4 (by simpa using h), fun h => hF.out.f5 (by simpa using h), fun h => hF.out.f6 (by simpa using h), fun h => hF.out.f7 (by simpa using h), fun h => hF.out.f8 (by simpa using h), fun h => hF.out.f9 (by simpa using h), fun h => hF.out.f10 (by simpa using h), fun h => by have := hF.out.o7_4 (by simpa using h); simpa using this, fun h => by have := hF.out.o7_6 (by simpa using h); simpa using this, fun h => by have := hF.out.q10_7 (by simpa using h); simpa using this, hF.out.kf, fun h => hF.out.pm (by simpa using h), fun h h2 => hF.out.th (by simpa using h) (by simpa using h2), fun h => hF.out.fin (by simpa using h)⟩
    · intro d a W hI hd hdep
      obtain ⟨ro, rn, rc, x13, x14, x15, x16, x17, x18, x19, x20, x21, x22, rfl, hF⟩ := hI
      have hd1 : d 1 = true := dep_of hdep 1 (by kernel_rfl)
      obtain rfl := hF.out.f1 hd1
      clear hdep hd hd1
      intro K hK
      simp only [Act.put, List.setIfInBounds_toArray, List.set_cons_zero, List.set_cons_succ]
      go_simp
      refine hK.out _ _ ⟨ro, rn, rc, x13, (.pointer (some ⟨gp, 0, none⟩)), (.pointer (some ⟨gp, 0, none⟩)), x16, x17, x18, x19, x20, x21, x22, by simp only [Act.put, List.setIfInBounds_toArray, List.set_cons_zero, List.set_cons_succ], ?_⟩
      exact ⟨fun h => hF.out.f0 (by simpa using h), fun h => hF.out.f1 (by simpa using h), fun _ => rfl, fun h => hF.out.f3 (by simpa using h), fun h => hF.out.f4 (by simpa using h), fun h => hF.out.f5 (by simpa using h), fun h => hF.out.f6 (by simpa using h), fun h => hF.out.f7 (by simpa using h), fun h => hF.out.f8 (by simpa using h), fun h => hF.out.f9 (by simpa using h), fun h => hF.out.f10 (by simpa using h), fun h => by have := hF.out.o7_4 (by simpa using h); simpa using this, fun h => by have := hF.out.o7_6 (by simpa using h); simpa using this, fun h => by have := hF.out.q10_7 (by simpa using h); simpa using this, hF.out.kf, fun h => hF.out.pm (by simpa using h), fun h h2 => hF.out.th (by simpa using h) (by simpa using h2), fun h => hF.out.fin (by simpa using h)⟩
    · intro d a W hI hd hdep
      obtain ⟨ro, rn, rc, x13, x14, x15, x16, x17, x18, x19, x20, x21, x22, rfl, hF⟩ := hI
      have hd2 : d 2 = true := dep_of hdep 2 (by kernel_rfl)
      obtain rfl := hF.out.f2 hd2
      clear hdep hd hd2
      intro K hK
      simp only [Act.put, List.setIfInBounds_toArray, List.set_cons_zero, List.set_cons_succ]
      go_simp
      refine hK.out _ _ ⟨ro, rn, rc, x13, x14, (.pointer (some ⟨gp, 0, none⟩)), (.pointer (some ⟨gp, 2, none⟩)), x17, x18, x19, x20, x21, x22, by simp only [Act.put, List.setIfInBounds_toArray, List.set_cons_zero, List.set_cons_succ], ?_⟩
      exact ⟨fun h => hF.out.f0 (by simpa using h), fun h => hF.out.f1 (by simpa using h), fun h => hF.out.f2 (by simpa using h), fun _ => rfl, fun h => hF.out.f4 (by simpa using h), fun h => hF.out.f5 (by simpa using h), fun h => hF.out.f6 (by simpa using h), fun h => hF.out.f7 (by simpa using h), fun h => hF.out.f8 (by simpa using h), fun h => hF.out.f9 (by simpa using h), fun h => hF.out.f10 (by simpa using h), fun h => by have := hF.out.o7_4 (by simpa using h); simpa using this, fun h => by have := hF.out.o7_6 (by simpa using h); simpa using this, fun h => by have := hF.out.q10_7 (by simpa using h); simpa using this, hF.out.kf, fun h => hF.out.pm (by simpa using h), fun h h2 => hF.out.th (by simpa using h) (by simpa using h2), fun h => hF.out.fin (by simpa using h)⟩
    · intro d a W hI hd hdep
      obtain ⟨ro, rn, rc, x13, x14, x15, x16, x17, x18, x19, x20, x21, x22, rfl, hF⟩ := hI
      have hd3 : d 3 = true := dep_of hdep 3 (by kernel_rfl)
      obtain rfl := hF.out.f3 hd3
      have HNA : Hid (d 7 = false) := no_later hF.out.o7_4 hd
      have ya := (hF.out.pm HNA.out).box.cell (i := 2) (by omega)
      clear hdep hd hd3
      intro K hK
      simp only [Act.put, List.setIfInBounds_toArray, List.set_cons_zero, List.set_cons_succ]
      go_simp
      refine hK.out _ _ ⟨ro, rn, rc, x13, x14, x15, (.pointer (some ⟨gp, 2, none⟩)), (v 2), x18, x19, x20, x21, x22, by simp only [Act.put, List.setIfInBounds_toArray, List.set_cons_zero, List.set_cons_succ], ?_⟩
      exact ⟨fun h => hF.out.f0 (by simpa using h), fun h => hF.out.f1 (by simpa using h), fun h => hF.out.f2 (by simpa using h), fun h => hF.out.f3 (by simpa using h), fun _ => rfl, fun h => hF.out.f5 (by simpa using h), fun h => hF.out.f6 (by simpa using h), fun h => hF.out.f7 (by simpa using h), fun h => hF.out.f8 (by simpa using h), fun h => hF.out.f9 (by simpa using h), fun h => hF.out.f10 (by simpa using h), fun _ => by simp, fun h => by have := hF.out.o7_6 (by simpa using h); simpa using this, fun h => by have := hF.out.q10_7 (by simpa using h); simpa using this, hF.out.kf, fun h => hF.out.pm (by simpa using h), fun h h2 => hF.out.th (by simpa using h) (by simpa using h2), fun h => hF.out.fin (by simpa using h)⟩
    · intro d a W hI hd hdep
      obtain ⟨ro, rn, rc, x13, x14, x15, x16, x17, x18, x19, x20, x21, x22, rfl, hF⟩ := hI
      clear hdep hd
      intro K hK
      simp only [Act.put, List.setIfInBounds_toArray, List.set_cons_zero, List.set_cons_succ]
      go_simp
      refine hK.out _ _ ⟨ro, rn, rc, x13, x14, x15, x16, x17, (.pointer (some ⟨ge, 0, none⟩)), x19, x20, x21, x22, by simp only [Act.put, List.setIfInBounds_toArray, List.set_cons_zero, List.set_cons_succ], ?_⟩
      exact ⟨fun h => hF.out.f0 (by simpa using h), fun h => hF.out.f1 (by simpa using h), fun h => hF.out.f2 (by simpa using h), fun h => hF.out.f3 (by simpa using h), fun h => hF.out.f4 (by simpa using h), fun _ => rfl, fun h => hF.out.f6 (by simpa using h), fun h => hF.out.f7 (by simpa using h), fun h => hF.out.f8 (by simpa using h), fun h => hF.out.f9 (by simpa using h), fun h => hF.out.f10 (by simpa using h), fun h => by have := hF.out.o7_4 (by simpa using h); simpa using this, fun h => by have := hF.out.o7_6 (by simpa using h); simpa using this, fun h => by have := hF.out.q10_7 (by simpa using h); simpa using this, hF.out.kf, fun h => hF.out.pm (by simpa using h), fun h h2 => hF.out.th (by simpa using h) (by simpa using h2), fun h => hF.out.fin (by simpa using h)⟩
    · intro d a W hI hd hdep
      obtain ⟨ro, rn, rc, x13, x14, x15, x16, x17, x18, x19, x20, x21, x22, rfl, hF⟩ := hI
      have hd5 : d 5 = true := dep_of hdep 5 (by kernel_rfl)
      obtain rfl := hF.out.f5 hd5
      have hz := cells3 ((hF.out.kf.blk _ ((Array.getElem?_eq_some_iff.1 HGE.out.1).1) HGE.out.2).trans HGE.out.1)
      have ya := hz.1
      clear hz
      clear hdep hd hd5
      intro K hK
      simp only [Act.put, List.setIfInBounds_toArray, List.set_cons_zero, List.set_cons_succ]
      go_simp
      refine hK.out _ _ ⟨ro, rn, rc, x13, x14, x15, x16, x17, (.pointer (some ⟨ge, 0, none⟩)), (.slice fo fn fc), x20, x21, x22, by simp only [Act.put, List.setIfInBounds_toArray, List.set_cons_zero, List.set_cons_succ], ?_⟩
      exact ⟨fun h => hF.out.f0 (by simpa using h), fun h => hF.out.f1 (by simpa using h), fun h => hF.out.f2 (by simpa using h), fun h => hF.out.f3 (by simpa using h), fun h => hF.out.f4 (by simpa using h), fun h => hF.out.f5 (by simpa using h), fun _ => rfl, fun h => hF.out.f7 (by simpa using h), fun h => hF.out.f8 (by simpa using h), fun h => hF.out.f9 (by simpa using h), fun h => hF.out.f10 (by simpa using h), fun h => by have := hF.out.o7_4 (by simpa using h); simpa using this, fun _ => by simp, fun h => by have := hF.out.q10_7 (by simpa using h); simpa using this, hF.out.kf, fun h => hF.out.pm (by simpa using h), fun h h2 => hF.out.th (by simpa using h) (by simpa using h2), fun h => hF.out.fin (by simpa using h)⟩
    · intro d a W hI hd hdep
      obtain ⟨ro, rn, rc, x13, x14, x15, x16, x17, x18, x19, x20, x21, x22, rfl, hF⟩ := hI
      have hd4 : d 4 = true := dep_of hdep 4 (by kernel_rfl)
      have hd6 : d 6 = true := dep_of hdep 6 (by kernel_rfl)
      obtain rfl := hF.out.f4 hd4
      obtain rfl := hF.out.f6 hd6
      have hpm := hF.out.pm hd
      have HNS : Hid (d 10 = false) := no_later hF.out.q10_7 hd
      have e7_4 := hd4
      have e7_6 := hd6
      obtain ⟨ro2, rn2, rc2, W1x, hrun, hown, hgrw, hqq⟩ := append_ints (hpm.own 2 (by omega)) (HFI.out.keep hF.out.kf.size fun q hq he => hF.out.kf.blk q hq (HFO.out q he)) (by have := HSM.out; show p.first.length + _ ≤ _; omega) hpm.sz
      have hown2 : W1x.ownsRow base 3 1 (.slice ro2 rn2 rc2) (p.first ++ fl).length ((p.first ++ fl).map (Value.int .i64)) := hown
      have hgr := hpm.grow (f := 2) (p' := ({ cls := p.cls, rules := p.rules, first := p.first ++ fl, follow := p.follow, last := p.last, empty := p.empty } : P)) (by omega) (by omega) hgrw (s := (.slice ro2 rn2 rc2)) hown2 hqq rfl (fun g hg hg2 => by match g, hg, hg2 with | 0, _, _ => exact ⟨rfl, rfl⟩ | 1, _, _ => exact ⟨rfl, rfl⟩ | 2, _, h => exact absurd rfl h | 3, _, _ => exact ⟨rfl, rfl⟩ | 4, _, _ => exact ⟨rfl, rfl⟩ | 5, _, _ => exact ⟨rfl, rfl⟩)
      have HM : Hid (W1x.rowIs gp 27 6 v ∧ (St base gp v V p.follow.length w1' ({ cls := p.cls, rules := p.rules, first := p.first ++ fl, follow := p.follow, last := p.last, empty := p.empty } : P) (upd v 2 (.slice ro2 rn2 rc2)) V (W1x.setCell ⟨gp, 2, none⟩ (.slice ro2 rn2 rc2))) ∧ Fm (Own gp v V p.follow.length) w1' W1x) := ⟨hgr.1, ⟨hgr.2.1, hF.out.kf.trans hgr.2.2.1 (fun q _ h => h), fun q hq => (hgr.2.2.2 q hq).imp id (fun h => Nat.le_trans hF.out.kf.size h)⟩, hF.out.kf.trans ⟨hgrw.os, hgrw.tape, hgrw.output, hgrw.size, fun q hq hn => hgrw.block q hq (fun e => hn (Or.inr (Or.inl ⟨2, by omega, e.symm⟩)))⟩ (fun q _ h => h)⟩
      clear hpm hgr hown hgrw
      clear hdep hd hd4 hd6
      intro K hK
      refine step_call_append (sv := v 2) (xv := (.slice fo fn fc)) (v := (.slice ro2 rn2 rc2)) (W1 := W1x) (by rfl) _ _ 23 (by rfl) (by simp only [Act.put, List.setIfInBounds_toArray, List.set_cons_zero, List.set_cons_succ]; rfl) (by simp only [Act.put, List.setIfInBounds_toArray, List.set_cons_zero, List.set_cons_succ]; rfl) (by exact hrun) ?_
      simp only [Act.put, List.setIfInBounds_toArray, List.set_cons_zero, List.set_cons_succ]
      refine hK.out _ _ ⟨ro2, rn2, rc2, x13, x14, x15, x16, (v 2), x18, (.slice fo fn fc), (.slice ro2 rn2 rc2), x21, x22, by simp only [Act.put, List.setIfInBounds_toArray, List.set_cons_zero, List.set_cons_succ], ?_⟩
      exact ⟨fun h => hF.out.f0 (by simpa using h), fun h => hF.out.f1 (by simpa using h), fun h => hF.out.f2 (by simpa using h), fun h => hF.out.f3 (by simpa using h), fun h => hF.out.f4 (by simpa using h), fun h => hF.out.f5 (by simpa using h), fun h => hF.out.f6 (by simpa using h), fun _ => rfl, fun h => hF.out.f8 (by simpa using h), fun h => hF.out.f9 (by simpa using h), fun h => hF.out.f10 (by simpa using h), fun _ => by simpa using e7_4, fun _ => by simpa using e7_6, fun _ => by simp, HM.out.2.2, fun h => by simp at h, fun _ _ => ⟨HM.out.1, HM.out.2.1⟩, fun h => by have := HNS.out; simp [this] at h⟩
    · intro d a W hI hd hdep
      obtain ⟨ro, rn, rc, x13, x14, x15, x16, x17, x18, x19, x20, x21, x22, rfl, hF⟩ := hI
      have hd0 : d 0 = true := dep_of hdep 0 (by kernel_rfl)
      obtain rfl := hF.out.f0 hd0
      clear hdep hd hd0
      intro K hK
      simp only [Act.put, List.setIfInBounds_toArray, List.set_cons_zero, List.set_cons_succ]
      go_simp
      refine hK.out _ _ ⟨ro, rn, rc, (.pointer (some ⟨gp, 0, none⟩)), x14, x15, x16, x17, x18, x19, x20, (.pointer (some ⟨gp, 0, none⟩)), x22, by simp only [Act.put, List.setIfInBounds_toArray, List.set_cons_zero, List.set_cons_succ], ?_⟩
      exact ⟨fun h => hF.out.f0 (by simpa using h), fun h => hF.out.f1 (by simpa using h), fun h => hF.out.f2 (by simpa using h), fun h => hF.out.f3 (by simpa using h), fun h => hF.out.f4 (by simpa using h), fun h => hF.out.f5 (by simpa using h), fun h => hF.out.f6 (by simpa using h), fun h => hF.out.f7 (by simpa using h), fun _ => rfl, fun h => hF.out.f9 (by simpa using h), fun h => hF.out.f10 (by simpa using h), fun h => by have := hF.out.o7_4 (by simpa using h); simpa using this, fun h => by have := hF.out.o7_6 (by simpa using h); simpa using this, fun h => by have := hF.out.q10_7 (by simpa using h); simpa using this, hF.out.kf, fun h => hF.out.pm (by simpa using h), fun h h2 => hF.out.th (by simpa using h) (by simpa using h2), fun h => hF.out.fin (by simpa using h)⟩
    · intro d a W hI hd hdep
      obtain ⟨ro, rn, rc, x13, x14, x15, x16, x17, x18, x19, x20, x21, x22, rfl, hF⟩ := hI
      have hd8 : d 8 = true := dep_of hdep 8 (by kernel_rfl)
      obtain rfl := hF.out.f8 hd8
      clear hdep hd hd8
      intro K hK
      simp only [Act.put, List.setIfInBounds_toArray, List.set_cons_zero, List.set_cons_succ]
      go_simp
      refine hK.out _ _ ⟨ro, rn, rc, x13, x14, x15, x16, x17, x18, x19, x20, (.pointer (some ⟨gp, 0, none⟩)), (.pointer (some ⟨gp, 2, none⟩)), by simp only [Act.put, List.setIfInBounds_toArray, List.set_cons_zero, List.set_cons_succ], ?_⟩
      exact ⟨fun h => hF.out.f0 (by simpa using h), fun h => hF.out.f1 (by simpa using h), fun h => hF.out.f2 (by simpa using h), fun h => hF.out.f3 (by simpa using h), fun h => hF.out.f4 (by simpa using h), fun h => hF.out.f5 (by simpa using h), fun h => hF.out.f6 (by simpa using h), fun h => hF.out.f7 (by simpa using h), fun h => hF.out.f8 (by simpa using h), fun _ => rfl, fun h => hF.out.f10 (by simpa using h), fun h => by have := hF.out.o7_4 (by simpa using h); simpa using this, fun h => by have := hF.out.o7_6 (by simpa using h); simpa using this, fun h => by have := hF.out.q10_7 (by simpa using h); simpa using this, hF.out.kf, fun h => hF.out.pm (by simpa using h), fun h h2 => hF.out.th (by simpa using h) (by simpa using h2), fun h => hF.out.fin (by simpa using h)⟩
    · intro d a W hI hd hdep
      obtain ⟨ro, rn, rc, x13, x14, x15, x16, x17, x18, x19, x20, x21, x22, rfl, hF⟩ := hI
      have hd9 : d 9 = true := dep_of hdep 9 (by kernel_rfl)
      have hd7 : d 7 = true := dep_of hdep 7 (by kernel_rfl)
      obtain rfl := hF.out.f9 hd9
      obtain rfl := hF.out.f7 hd7
      have e10_7 := hd7
      have hth := hF.out.th hd7 hd
      have ya := hth.1.cell (i := 2) (by omega)
      have yb := hth.1.frozen 2
      have HTH : Hid _ := hth.2
      clear hth
      clear hdep hd hd9 hd7
      intro K hK
      simp only [Act.put, List.setIfInBounds_toArray, List.set_cons_zero, List.set_cons_succ]
      go_simp
      refine hK.out _ _ ⟨ro, rn, rc, x13, x14, x15, x16, x17, x18, x19, (.slice ro rn rc), x21, (.pointer (some ⟨gp, 2, none⟩)), by simp only [Act.put, List.setIfInBounds_toArray, List.set_cons_zero, List.set_cons_succ], ?_⟩
      exact ⟨fun h => hF.out.f0 (by simpa using h), fun h => hF.out.f1 (by simpa using h), fun h => hF.out.f2 (by simpa using h), fun h => hF.out.f3 (by simpa using h), fun h => hF.out.f4 (by simpa using h), fun h => hF.out.f5 (by simpa using h), fun h => hF.out.f6 (by simpa using h), fun h => hF.out.f7 (by simpa using h), fun h => hF.out.f8 (by simpa using h), fun h => hF.out.f9 (by simpa using h), fun _ => trivial, fun h => by have := hF.out.o7_4 (by simpa using h); simpa using this, fun h => by have := hF.out.o7_6 (by simpa using h); simpa using this, fun _ => by simpa using e10_7, HTH.out.fm, fun h => by have := e10_7; simp [this] at h, fun _ h => by simp at h, fun _ => HTH.out⟩
  · intro d a W hI hall
    obtain ⟨ro, rn, rc, x13, x14, x15, x16, x17, x18, x19, x20, x21, x22, rfl, hF⟩ := hI
    simp only [List.length_cons, List.length_nil] at hall
    obtain rfl := hF.out.f0 (hall 0 (by omega))
    obtain rfl := hF.out.f1 (hall 1 (by omega))
    obtain rfl := hF.out.f2 (hall 2 (by omega))
    obtain rfl := hF.out.f3 (hall 3 (by omega))
    obtain rfl := hF.out.f4 (hall 4 (by omega))
    obtain rfl := hF.out.f5 (hall 5 (by omega))
    obtain rfl := hF.out.f6 (hall 6 (by omega))
    obtain rfl := hF.out.f7 (hall 7 (by omega))
    obtain rfl := hF.out.f8 (hall 8 (by omega))
    obtain rfl := hF.out.f9 (hall 9 (by omega))
    have hfin := hF.out.fin (hall 10 (by omega))
    have hge3 := box_kept hfin HGE.out.1 HGE.out.2
    have HS3 : Hid (St base gp v0 V0 p0.follow.length w ({ cls := p.cls, rules := p.rules, first := p.first ++ fl, follow := p.follow, last := p.last, empty := p.empty } : P) (upd v 2 (.slice ro rn rc)) V W) := HS2.out.trans hfin
    have HL3 : Hid (Rk gp (upd v 2 (.slice ro rn rc)) V ({ cls := p.cls, rules := p.rules, first := p.first ++ fl, follow := p.follow, last := p.last, empty := p.empty } : P).follow.length w0.heap.size (.slice lo ln lc) e1.last W) := HL2.out.step hfin
    have HGE3 : Hid (W.heap[ge]? = some (.cells #[.slice fo fn fc, .slice lo ln lc, .bool em] 137) ∧ ¬ Own gp (upd v 2 (.slice ro rn rc)) V ({ cls := p.cls, rules := p.rules, first := p.first ++ fl, follow := p.follow, last := p.last, empty := p.empty } : P).follow.length ge) := hge3
    obtain ⟨y0, y1, y2, -⟩ := cells3 hge3.1
    clear hF hall hfin hge3 HS2 HL2 HGE HFI HFO HPM HSM
    simp only [Act.put, List.setIfInBounds_toArray, List.set_cons_zero, List.set_cons_succ]
    obtain ⟨vq, HV2⟩ : ∃ vq, Hid (upd v 2 (.slice ro rn rc) = vq) := ⟨_, (rfl : _ = _)⟩
    rw [HV2.out] at HS3 HL3 HGE3
    clear HV2
    obtain ⟨w3, rfl⟩ : ∃ z, z = W := ⟨_, rfl⟩
    obtain ⟨lao, lcap, hle, -, hlc⟩ := HL3.out.i
    cases hle
    go_wp2_with fail
    clear y0 y1 y2
    go_loopw [26] (fun i wr => ∃ k : Nat, k ≤ e1.last.length ∧ i = .int .i64 (k : Int) ∧ Hid (St base gp vq V p.follow.length w3 ({ cls := p.cls, rules := p.rules, first := p.first ++ fl, follow := p.follow, last := Pm.markL (e1.last.take k) p.last, empty := p.empty } : P) vq V wr)) (fun i _ => e1.last.length - (intOf i).toNat)
    case atStart => exact ⟨0, by omega, rfl, St.refl HS3.out.pm⟩
    case round =>
      obtain ⟨k, hk, rfl, HK⟩ := hrel
      by_cases hlt : k < e1.last.length
      · obtain ⟨b2, o2, rfl, hb2, hc2⟩ := hlc.resolve_left (by intro e; rw [e] at hlt; simp at hlt)
        have hy := HSM0.out.2.2.2 e1.last[k] (List.getElem_mem hlt)
        obtain ⟨ii, hii⟩ : ∃ ii : Nat, e1.last[k] = (ii : Int) := ⟨e1.last[k].toNat, by omega⟩
        have c0 := hc2 k hlt
        rw [hii] at c0 hy
        have HTK : Hid (Pm.markL (e1.last.take (k + 1)) p.last = (Pm.markL (e1.last.take k) p.last).set ii true) := by show _ = _; rw [Pm.markL_take _ _ k hlt, hii]; rfl
        have hkb := (HK.out.fm.blk b2 hb2 ((HL3.out.b b2 rfl).2.2))
        replace c0 : wr.cell? ⟨b2, o2 + k, none⟩ = some (.int .i64 (ii : Int)) := (cell_as hkb (o2 + k)).trans c0
        have hil : ii < (Pm.markL (e1.last.take k) p.last).length := by rw [Pm.markL_length]; omega
        obtain ⟨g, cap4, hv4, hgl, ⟨z, hz⟩, hzf⟩ := HK.out.pm.lastAt hil
        have y4 := HK.out.pm.box.cell (i := 4) (by omega)
        rw [hv4] at y4
        have HNX : Hid (St base gp vq V p.follow.length w3 ({ cls := p.cls, rules := p.rules, first := p.first ++ fl, follow := p.follow, last := Pm.markL (e1.last.take (k + 1)) p.last, empty := p.empty } : P) vq V (wr.setCell ⟨g, ii, none⟩ (.bool true))) := by
          rw [HTK.out]; exact HK.out.mark hil hv4
        have hk0 : (0 : Int) ≤ (k : Int) := by omega
        have hk1 : (k : Int) < (e1.last.length : Int) := by omega
        have hi0 : (0 : Int) ≤ (ii : Int) := by omega
        have hi1 : (ii : Int) < ((Pm.markL (e1.last.take k) p.last).length : Int) := by omega
        have hl3 := HSM0.out.2.2.1
        clear hlc hc2 hii hkb HTK HK hv4 hgl
        go_wp2_with fail
        go_roundw
        case rel => exact ⟨k + 1, by omega, by go_num, HNX⟩
        case measure => simp [intOf]; omega
      · have HKE : Hid (St base gp vq V p.follow.length w3 ({ cls := p.cls, rules := p.rules, first := p.first ++ fl, follow := p.follow, last := Pm.markL e1.last p.last, empty := p.empty } : P) vq V wr) := by rw [← List.take_of_length_le (i := k) (l := e1.last) (by omega)]; exact HK.out
        have HS4 : Hid (St base gp v0 V0 p0.follow.length w ({ cls := p.cls, rules := p.rules, first := p.first ++ fl, follow := p.follow, last := Pm.markL e1.last p.last, empty := p.empty } : P) vq V wr) := HS3.out.trans HKE.out
        have HGE4 : Hid (wr.heap[ge]? = some (.cells #[.slice fo fn fc, .slice lo e1.last.length lc, .bool em] 137) ∧ ¬ Own gp vq V p.follow.length ge) := by have h9 := box_kept HKE.out HGE3.out.1 HGE3.out.2; exact h9
        have hkn : ¬ (k : Int) < (e1.last.length : Int) := by omega
        have HEMS : Hid (p.empty.length ≤ 900000) := HSM0.out.2.1
        clear hlc HK HKE HS3 HL3 HGE3 HSM0
        go_upto_region 8 with (fail)
        obtain ⟨pq, HP4⟩ : ∃ pq, Hid (({ cls := p.cls, rules := p.rules, first := p.first ++ fl, follow := p.follow, last := Pm.markL e1.last p.last, empty := p.empty } : P) = pq) := ⟨_, (rfl : _ = _)⟩
        have HFIN4 : Hid (({ cls := p.cls, rules := p.rules, first := p.first ++ e1.first, follow := p.follow, last := Pm.markL e1.last p.last, empty := p.empty ++ [e1.empty] } : P) = ({ cls := pq.cls, rules := pq.rules, first := pq.first, follow := pq.follow, last := pq.last, empty := pq.empty ++ [em] } : P)) := by rw [← HP4.out, HFL.out, HEM.out]; exact (rfl : _ = _)
        have HGE5 : Hid (wr.heap[ge]? = some (.cells #[.slice fo fn fc, .slice lo e1.last.length lc, .bool em] 137) ∧ ¬ Own gp vq V pq.follow.length ge) := by rw [← HP4.out]; exact HGE4.out
        have HSM4 : Hid (pq.empty.length ≤ 900000) := by rw [← HP4.out]; exact HEMS.out
        rw [HP4.out] at HS4
        have HPM4 : Hid (Pm base gp vq V pq wr) := HS4.out.pm
        clear HP4 HGE4 HEMS hkn
        have HGE := HGE5
        have HSM := HSM4
        have HPM := HPM4
        clear HGE5 HSM4 HPM4
        refine wp_region_free mixed (fun a0 d a W => ∃ (gb : Nat) (ro : Option Addr) (rn : Nat) (rc : Nat) (x37 x38 x39 x40 x41 x42 x43 x44 x45 x46 x47 : Value), a = (((((((((((a0.put (some 37) x37).put (some 38) x38).put (some 39) x39).put (some 40) x40).put (some 41) x41).put (some 42) x42).put (some 43) x43).put (some 44) x44).put (some 45) x45).put (some 46) x46).put (some 47) x47) ∧ Hid (RRb wr base gp ge vq V pq em gb ro rn rc d x37 x38 x39 x40 x41 x42 x43 x44 x45 x46 x47 W)) (by kernel_rfl) ⟨0, none, 0, 0, undef, undef, undef, undef, undef, undef, undef, undef, undef, undef, undef, by simp only [Act.put, List.setIfInBounds_toArray, List.set_cons_zero, List.set_cons_succ], ?_⟩ ?_ ?_
        · exact ⟨fun h => no_way h, fun h => no_way h, fun h => no_way h, fun h => no_way h, fun h => no_way h, fun h => no_way h, fun h => no_way h, fun h => no_way h, fun h => no_way h, fun h => no_way h, fun h => no_way h, fun _ => trivial, fun h => no_way h, fun h => no_way h, fun h => no_way h, (Fm.refl _ _).trans (Fm.below (Below.refl _ _).drew) (fun q _ h => h), fun _ => HPM.out.drew, fun h => no_way h, fun h => no_way h, fun h => no_way h⟩
        · simp only [StepAll, and_true]
          refine ⟨?_, ?_, ?_, ?_, ?_, ?_, ?_, ?_, ?_, ?_, ?_, ?_⟩
          · intro d a W hI hd hdep
            obtain ⟨gb, ro, rn, rc, x37, x38, x39, x40, x41, x42, x43, x44, x45, x46, x47, rfl, hF⟩ := hI
            clear hdep hd
            intro K hK
            simp only [Act.put, List.setIfInBounds_toArray, List.set_cons_zero, List.set_cons_succ]
            go_simp
            refine hK.out _ _ ⟨gb, ro, rn, rc, (.pointer (some ⟨gp, 0, none⟩)), x38, x39, x40, x41, x42, x43, x44, x45, x46, x47, by simp only [Act.put, List.setIfInBounds_toArray, List.set_cons_zero, List.set_cons_succ], ?_⟩
            exact ⟨fun _ => rfl, fun h => hF.out.f1 (by simpa using h), fun h => hF.out.f2 (by simpa using h), fun h => hF.out.f3 (by simpa using h), fun h => hF.out.f4 (by simpa using h), fun h => hF.out.f5 (by simpa using h), fun h => hF.out.f6 (by simpa using h), fun h => hF.out.f7 (by simpa using h), fun h => hF.out.f8 (by simpa using h), fun h => hF.out.f9 (by simpa using h), fun h => hF.out.f10 (by simpa using h), fun h => hF.out.f11 (by simpa using h), fun h => by have := hF.out.o8_4 (by simpa using h); simpa using this, fun h => by have := hF.out.o8_7 (by simpa using h); simpa using this, fun h => by have := hF.out.q11_8 (by simpa using h); simpa using this, hF.out.kf, fun h => hF.out.pm (by simpa using h), fun h h2 => hF.out.bs (by simpa using h) (by simpa using h2), fun h h2 => hF.out.th (by simpa using h) (by simpa using h2), fun h => hF.out.fin (by simpa using h)⟩
          · intro d a W hI hd hdep
            obtain ⟨gb, ro, rn, rc, x37, x38, x39, x40, x41, x42, x43, x44, x45, x46, x47, rfl, hF⟩ := hI
            clear hdep hd
            intro K hK
            simp only [Act.put, List.setIfInBounds_toArray, List.set_cons_zero, List.set_cons_succ]
            go_simp
            refine hK.out _ _ ⟨gb, ro, rn, rc, x37, (.pointer (some ⟨gp, 0, none⟩)), x39, x40, x41, x42, x43, x44, x45, x46, x47, by simp only [Act.put, List.setIfInBounds_toArray, List.set_cons_zero, List.set_cons_succ], ?_⟩
            exact ⟨fun h => hF.out.f0 (by simpa using h), fun _ => rfl, fun h => hF.out.f2 (by simpa using h), fun h => hF.out.f3 (by simpa using h), fun h => hF.out.f4 (by simpa using h), fun h => hF.out.f5 (by simpa using h), fun h => hF.out.f6 (by simpa using h), fun h => hF.out.f7 (by simpa using h), fun h => hF.out.f8 (by simpa using h), fun h => hF.out.f9 (by simpa using h), fun h => hF.out.f10 (by simpa using h), fun h => hF.out.f11 (by simpa using h), fun h => by have := hF.out.o8_4 (by simpa using h); simpa using this, fun h => by have := hF.out.o8_7 (by simpa using h); simpa using this, fun h => by have := hF.out.q11_8 (by simpa using h); simpa using this, hF.out.kf, fun h => hF.out.pm (by simpa using h), fun h h2 => hF.out.bs (by simpa using h) (by simpa using h2), fun h h2 => hF.out.th (by simpa using h) (by simpa using h2), fun h => hF.out.fin (by simpa using h)⟩
          · intro d a W hI hd hdep
            obtain ⟨gb, ro, rn, rc, x37, x38, x39, x40, x41, x42, x43, x44, x45, x46, x47, rfl, hF⟩ := hI
            have hd1 : d 1 = true := dep_of hdep 1 (by kernel_rfl)
            obtain rfl := hF.out.f1 hd1
            clear hdep hd hd1
            intro K hK
            simp only [Act.put, List.setIfInBounds_toArray, List.set_cons_zero, List.set_cons_succ]
            go_simp
            refine hK.out _ _ ⟨gb, ro, rn, rc, x37, (.pointer (some ⟨gp, 0, none⟩)), (.pointer (some ⟨gp, 0, none⟩)), x40, x41, x42, x43, x44, x45, x46, x47, by simp only [Act.put, List.setIfInBounds_toArray, List.set_cons_zero, List.set_cons_succ], ?_⟩
            exact ⟨fun h => hF.out.f0 (by simpa using h), fun h => hF.out.f1 (by simpa using h), fun _ => rfl, fun h => hF.out.f3 (by simpa using h), fun h => hF.out.f4 (by simpa using h), fun h => hF.out.f5 (by simpa using h), fun h => hF.out.f6 (by simpa using h), fun h => hF.out.f7 (by simpa using h), fun h => hF.out.f8 (by simpa using h), fun h => hF.out.f9 (by simpa using h), fun h => hF.out.f10 (by simpa using h), fun h => hF.out.f11 (by simpa using h), fun h => by have := hF.out.o8_4 (by simpa using h); simpa using this, fun h => by have := hF.out.o8_7 (by simpa using h); simpa using this, fun h => by have := hF.out.q11_8 (by simpa using h); simpa using this, hF.out.kf, fun h => hF.out.pm (by simpa using h), fun h h2 => hF.out.bs (by simpa using h) (by simpa using h2), fun h h2 => hF.out.th (by simpa using h) (by simpa using h2), fun h => hF.out.fin (by simpa using h)⟩
          · intro d a W hI hd hdep
            obtain ⟨gb, ro, rn, rc, x37, x38, x39, x40, x41, x42, x43, x44, x45, x46, x47, rfl, hF⟩ := hI
            have hd2 : d 2 = true := dep_of hdep 2 (by kernel_rfl)
            obtain rfl := hF.out.f2 hd2
            clear hdep hd hd2
            intro K hK
            simp only [Act.put, List.setIfInBounds_toArray, List.set_cons_zero, List.set_cons_succ]
            go_simp
            refine hK.out _ _ ⟨gb, ro, rn, rc, x37, x38, (.pointer (some ⟨gp, 0, none⟩)), (.pointer (some ⟨gp, 5, none⟩)), x41, x42, x43, x44, x45, x46, x47, by simp only [Act.put, List.setIfInBounds_toArray, List.set_cons_zero, List.set_cons_succ], ?_⟩
            exact ⟨fun h => hF.out.f0 (by simpa using h), fun h => hF.out.f1 (by simpa using h), fun h => hF.out.f2 (by simpa using h), fun _ => rfl, fun h => hF.out.f4 (by simpa using h), fun h => hF.out.f5 (by simpa using h), fun h => hF.out.f6 (by simpa using h), fun h => hF.out.f7 (by simpa using h), fun h => hF.out.f8 (by simpa using h), fun h => hF.out.f9 (by simpa using h), fun h => hF.out.f10 (by simpa using h), fun h => hF.out.f11 (by simpa using h), fun h => by have := hF.out.o8_4 (by simpa using h); simpa using this, fun h => by have := hF.out.o8_7 (by simpa using h); simpa using this, fun h => by have := hF.out.q11_8 (by simpa using h); simpa using this, hF.out.kf, fun h => hF.out.pm (by simpa using h), fun h h2 => hF.out.bs (by simpa using h) (by simpa using h2), fun h h2 => hF.out.th (by simpa using h) (by simpa using h2), fun h => hF.out.fin (by simpa using h)⟩
          · intro d a W hI hd hdep
            obtain ⟨gb, ro, rn, rc, x37, x38, x39, x40, x41, x42, x43, x44, x45, x46, x47, rfl, hF⟩ := hI
            have hd3 : d 3 = true := dep_of hdep 3 (by kernel_rfl)
            obtain rfl := hF.out.f3 hd3
            have HNA : Hid (d 8 = false) := no_later hF.out.o8_4 hd
            have ya := (hF.out.pm HNA.out).box.cell (i := 5) (by omega)
            clear hdep hd hd3
            intro K hK
            simp only [Act.put, List.setIfInBounds_toArray, List.set_cons_zero, List.set_cons_succ]
            go_simp
            refine hK.out _ _ ⟨gb, ro, rn, rc, x37, x38, x39, (.pointer (some ⟨gp, 5, none⟩)), (vq 5), x42, x43, x44, x45, x46, x47, by simp only [Act.put, List.setIfInBounds_toArray, List.set_cons_zero, List.set_cons_succ], ?_⟩
            exact ⟨fun h => hF.out.f0 (by simpa using h), fun h => hF.out.f1 (by simpa using h), fun h => hF.out.f2 (by simpa using h), fun h => hF.out.f3 (by simpa using h), fun _ => rfl, fun h => hF.out.f5 (by simpa using h), fun h => hF.out.f6 (by simpa using h), fun h => hF.out.f7 (by simpa using h), fun h => hF.out.f8 (by simpa using h), fun h => hF.out.f9 (by simpa using h), fun h => hF.out.f10 (by simpa using h), fun h => hF.out.f11 (by simpa using h), fun _ => by simp, fun h => by have := hF.out.o8_7 (by simpa using h); simpa using this, fun h => by have := hF.out.q11_8 (by simpa using h); simpa using this, hF.out.kf, fun h => hF.out.pm (by simpa using h), fun h h2 => hF.out.bs (by simpa using h) (by simpa using h2), fun h h2 => hF.out.th (by simpa using h) (by simpa using h2), fun h => hF.out.fin (by simpa using h)⟩
          · intro d a W hI hd hdep
            obtain ⟨gb, ro, rn, rc, x37, x38, x39, x40, x41, x42, x43, x44, x45, x46, x47, rfl, hF⟩ := hI
            clear hdep hd
            intro K hK
            simp only [Act.put, List.setIfInBounds_toArray, List.set_cons_zero, List.set_cons_succ]
            go_simp
            refine hK.out _ _ ⟨gb, ro, rn, rc, x37, x38, x39, x40, x41, (.pointer (some ⟨ge, 2, none⟩)), x43, x44, x45, x46, x47, by simp only [Act.put, List.setIfInBounds_toArray, List.set_cons_zero, List.set_cons_succ], ?_⟩
            exact ⟨fun h => hF.out.f0 (by simpa using h), fun h => hF.out.f1 (by simpa using h), fun h => hF.out.f2 (by simpa using h), fun h => hF.out.f3 (by simpa using h), fun h => hF.out.f4 (by simpa using h), fun _ => rfl, fun h => hF.out.f6 (by simpa using h), fun h => hF.out.f7 (by simpa using h), fun h => hF.out.f8 (by simpa using h), fun h => hF.out.f9 (by simpa using h), fun h => hF.out.f10 (by simpa using h), fun h => hF.out.f11 (by simpa using h), fun h => by have := hF.out.o8_4 (by simpa using h); simpa using this, fun h => by have := hF.out.o8_7 (by simpa using h); simpa using this, fun h => by have := hF.out.q11_8 (by simpa using h); simpa using this, hF.out.kf, fun h => hF.out.pm (by simpa using h), fun h h2 => hF.out.bs (by simpa using h) (by simpa using h2), fun h h2 => hF.out.th (by simpa using h) (by simpa using h2), fun h => hF.out.fin (by simpa using h)⟩
          · intro d a W hI hd hdep
            obtain ⟨gb, ro, rn, rc, x37, x38, x39, x40, x41, x42, x43, x44, x45, x46, x47, rfl, hF⟩ := hI
            have hd5 : d 5 = true := dep_of hdep 5 (by kernel_rfl)
            obtain rfl := hF.out.f5 hd5
            have hz := cells3 ((hF.out.kf.blk _ ((Array.getElem?_eq_some_iff.1 HGE.out.1).1) HGE.out.2).trans HGE.out.1)
            have ya := hz.2.2.1
            clear hz
            clear hdep hd hd5
            intro K hK
            simp only [Act.put, List.setIfInBounds_toArray, List.set_cons_zero, List.set_cons_succ]
            go_simp
            refine hK.out _ _ ⟨gb, ro, rn, rc, x37, x38, x39, x40, x41, (.pointer (some ⟨ge, 2, none⟩)), (.bool em), x44, x45, x46, x47, by simp only [Act.put, List.setIfInBounds_toArray, List.set_cons_zero, List.set_cons_succ], ?_⟩
            exact ⟨fun h => hF.out.f0 (by simpa using h), fun h => hF.out.f1 (by simpa using h), fun h => hF.out.f2 (by simpa using h), fun h => hF.out.f3 (by simpa using h), fun h => hF.out.f4 (by simpa using h), fun h => hF.out.f5 (by simpa using h), fun _ => rfl, fun h => hF.out.f7 (by simpa using h), fun h => hF.out.f8 (by simpa using h), fun h => hF.out.f9 (by simpa using h), fun h => hF.out.f10 (by simpa using h), fun h => hF.out.f11 (by simpa using h), fun h => by have := hF.out.o8_4 (by simpa using h); simpa using this, fun h => by have := hF.out.o8_7 (by simpa using h); simpa using this, fun h => by have := hF.out.q11_8 (by simpa using h); simpa using this, hF.out.kf, fun h => hF.out.pm (by simpa using h), fun h h2 => hF.out.bs (by simpa using h) (by simpa using h2), fun h h2 => hF.out.th (by simpa using h) (by simpa using h2), fun h => hF.out.fin (by simpa using h)⟩
          · intro d a W hI hd hdep
            obtain ⟨gb, ro, rn, rc, x37, x38, x39, x40, x41, x42, x43, x44, x45, x46, x47, rfl, hF⟩ := hI
            have hd6 : d 6 = true := dep_of hdep 6 (by kernel_rfl)
            obtain rfl := hF.out.f6 hd6
            have HNA : Hid (d 8 = false) := no_later hF.out.o8_7 hd
            have HNS : Hid (d 11 = false) := no_later hF.out.q11_8 HNA.out
            have hpm := hF.out.pm HNA.out
            clear hdep hd hd6
            intro K hK
            simp only [Act.put, List.setIfInBounds_toArray, List.set_cons_zero, List.set_cons_succ]
            go_simp
            refine hK.out _ _ ⟨W.heap.size, ro, rn, rc, x37, x38, x39, x40, x41, x42, (.bool em), (.slice (some ⟨W.heap.size, 0, none⟩) 1 1), x45, x46, x47, by simp only [Act.put, List.setIfInBounds_toArray, List.set_cons_zero, List.set_cons_succ], ?_⟩
            have B1 := below_alloc1 W (Obj.cells #[.bool em] 4)
            exact ⟨fun h => hF.out.f0 (by simpa using h), fun h => hF.out.f1 (by simpa using h), fun h => hF.out.f2 (by simpa using h), fun h => hF.out.f3 (by simpa using h), fun h => hF.out.f4 (by simpa using h), fun h => hF.out.f5 (by simpa using h), fun h => hF.out.f6 (by simpa using h), fun _ => rfl, fun h => hF.out.f8 (by simpa using h), fun h => hF.out.f9 (by simpa using h), fun h => hF.out.f10 (by simpa using h), fun h => hF.out.f11 (by simpa using h), fun h => by have := hF.out.o8_4 (by simpa using h); simpa using this, fun _ => by simp, fun h => by have := hF.out.q11_8 (by simpa using h); simpa using this, hF.out.kf.trans (Fm.below B1) (fun q _ h => h), fun _ => hpm.next B1, fun _ _ j u hj => by rw [cell_new W ([.bool em] : List Value) 4 j]; exact hj, fun h => by have := HNA.out; simp [this] at h, fun h => by have := HNS.out; simp [this] at h⟩
          · intro d a W hI hd hdep
            obtain ⟨gb, ro, rn, rc, x37, x38, x39, x40, x41, x42, x43, x44, x45, x46, x47, rfl, hF⟩ := hI
            have hd4 : d 4 = true := dep_of hdep 4 (by kernel_rfl)
            have hd7 : d 7 = true := dep_of hdep 7 (by kernel_rfl)
            obtain rfl := hF.out.f4 hd4
            obtain rfl := hF.out.f7 hd7
            have hpm := hF.out.pm hd
            have HNS : Hid (d 11 = false) := no_later hF.out.q11_8 hd
            have e8_4 := hd4
            have e8_7 := hd7
            have hbk := hF.out.bs hd7 hd
            have ho5 : W.ownsRow base 4 1 (vq 5) pq.empty.length (pq.empty.map Value.bool) := hpm.own 5 (by omega)
            obtain ⟨vv, W1x, hrun, hown, hgrw, -, hor⟩ := run_append_own_at (P := Try.prog) W base 25 25 4 i4 _ 1 1 Try.underlying25 H4.out.1 H4.out.2.1 H4.out.2.2.1 H4.out.2.2.2 rfl (by omega) (vq 5) pq.empty.length (pq.empty.map Value.bool) ho5 ⟨gb, 0, none⟩ 1 1 [.bool em] rfl (fun j u hj => by rw [Addr.add_lit, Nat.zero_add]; exact hbk j u hj) (by intro u hu; simp at hu; subst hu; rfl) (by have := HSM.out; unfold maxLen; omega) (by have := HSM.out; omega) hpm.sz
            obtain ⟨ro2, rn2, rc2, rfl⟩ := own_form hown
            have hgr := hpm.grow (f := 5) (p' := ({ cls := pq.cls, rules := pq.rules, first := pq.first, follow := pq.follow, last := pq.last, empty := pq.empty ++ [em] } : P)) (by omega) (by omega) hgrw (s := (.slice ro2 rn2 rc2)) (by show World.ownsRow W1x base 4 1 _ (pq.empty ++ [em]).length ((pq.empty ++ [em]).map Value.bool); rw [List.length_append, List.map_append]; exact hown) (fun q hq => hor.elim (fun e => Or.inl (by rw [← e]; exact hq)) (fun e => Or.inr (by rw [hq] at e; cases e; exact Nat.le_refl _))) rfl (fun g hg hg2 => by match g, hg, hg2 with | 0, _, _ => exact ⟨rfl, rfl⟩ | 1, _, _ => exact ⟨rfl, rfl⟩ | 2, _, _ => exact ⟨rfl, rfl⟩ | 3, _, _ => exact ⟨rfl, rfl⟩ | 4, _, _ => exact ⟨rfl, rfl⟩ | 5, _, h => exact absurd rfl h)
            have HM : Hid (W1x.rowIs gp 27 6 vq ∧ (St base gp vq V pq.follow.length wr ({ cls := pq.cls, rules := pq.rules, first := pq.first, follow := pq.follow, last := pq.last, empty := pq.empty ++ [em] } : P) (upd vq 5 (.slice ro2 rn2 rc2)) V (W1x.setCell ⟨gp, 5, none⟩ (.slice ro2 rn2 rc2))) ∧ Fm (Own gp vq V pq.follow.length) wr W1x) := ⟨hgr.1, ⟨hgr.2.1, hF.out.kf.trans hgr.2.2.1 (fun q _ h => h), fun q hq => (hgr.2.2.2 q hq).imp id (fun h => Nat.le_trans hF.out.kf.size h)⟩, hF.out.kf.trans ⟨hgrw.os, hgrw.tape, hgrw.output, hgrw.size, fun q hq hn => hgrw.block q hq (fun e => hn (Or.inr (Or.inl ⟨5, by omega, e.symm⟩)))⟩ (fun q _ h => h)⟩
            clear hpm hgr hown hgrw
            clear hdep hd hd4 hd7
            intro K hK
            refine step_call_append (sv := vq 5) (xv := (.slice (some ⟨gb, 0, none⟩) 1 1)) (v := (.slice ro2 rn2 rc2)) (W1 := W1x) (by rfl) _ _ 25 (by rfl) (by simp only [Act.put, List.setIfInBounds_toArray, List.set_cons_zero, List.set_cons_succ]; rfl) (by simp only [Act.put, List.setIfInBounds_toArray, List.set_cons_zero, List.set_cons_succ]; rfl) (by exact hrun) ?_
            simp only [Act.put, List.setIfInBounds_toArray, List.set_cons_zero, List.set_cons_succ]
            refine hK.out _ _ ⟨gb, ro2, rn2, rc2, x37, x38, x39, x40, (vq 5), x42, x43, (.slice (some ⟨gb, 0, none⟩) 1 1), (.slice ro2 rn2 rc2), x46, x47, by simp only [Act.put, List.setIfInBounds_toArray, List.set_cons_zero, List.set_cons_succ], ?_⟩
            exact ⟨fun h => hF.out.f0 (by simpa using h), fun h => hF.out.f1 (by simpa using h), fun h => hF.out.f2 (by simpa using h), fun h => hF.out.f3 (by simpa using h), fun h => hF.out.f4 (by simpa using h), fun h => hF.out.f5 (by simpa using h), fun h => hF.out.f6 (by simpa using h), fun h => hF.out.f7 (by simpa using h), fun _ => rfl, fun h => hF.out.f9 (by simpa using h), fun h => hF.out.f10 (by simpa using h), fun h => hF.out.f11 (by simpa using h), fun _ => by simpa using e8_4, fun _ => by simpa using e8_7, fun _ => by simp, HM.out.2.2, fun h => by simp at h, fun _ h => by simp at h, fun _ _ => ⟨HM.out.1, HM.out.2.1⟩, fun h => by have := HNS.out; simp [this] at h⟩
          · intro d a W hI hd hdep
            obtain ⟨gb, ro, rn, rc, x37, x38, x39, x40, x41, x42, x43, x44, x45, x46, x47, rfl, hF⟩ := hI
            have hd0 : d 0 = true := dep_of hdep 0 (by kernel_rfl)
            obtain rfl := hF.out.f0 hd0
            clear hdep hd hd0
            intro K hK
            simp only [Act.put, List.setIfInBounds_toArray, List.set_cons_zero, List.set_cons_succ]
            go_simp
            refine hK.out _ _ ⟨gb, ro, rn, rc, (.pointer (some ⟨gp, 0, none⟩)), x38, x39, x40, x41, x42, x43, x44, x45, (.pointer (some ⟨gp, 0, none⟩)), x47, by simp only [Act.put, List.setIfInBounds_toArray, List.set_cons_zero, List.set_cons_succ], ?_⟩
            exact ⟨fun h => hF.out.f0 (by simpa using h), fun h => hF.out.f1 (by simpa using h), fun h => hF.out.f2 (by simpa using h), fun h => hF.out.f3 (by simpa using h), fun h => hF.out.f4 (by simpa using h), fun h => hF.out.f5 (by simpa using h), fun h => hF.out.f6 (by simpa using h), fun h => hF.out.f7 (by simpa using h), fun h => hF.out.f8 (by simpa using h), fun _ => rfl, fun h => hF.out.f10 (by simpa using h), fun h => hF.out.f11 (by simpa using h), fun h => by have := hF.out.o8_4 (by simpa using h); simpa using this, fun h => by have := hF.out.o8_7 (by simpa using h); simpa using this, fun h => by have := hF.out.q11_8 (by simpa using h); simpa using this, hF.out.kf, fun h => hF.out.pm (by simpa using h), fun h h2 => hF.out.bs (by simpa using h) (by simpa using h2), fun h h2 => hF.out.th (by simpa using h) (by simpa using h2), fun h => hF.out.fin (by simpa using h)⟩
          · intro d a W hI hd hdep
            obtain ⟨gb, ro, rn, rc, x37, x38, x39, x40, x41, x42, x43, x44, x45, x46, x47, rfl, hF⟩ := hI
            have hd9 : d 9 = true := dep_of hdep 9 (by kernel_rfl)
            obtain rfl := hF.out.f9 hd9
            clear hdep hd hd9
            intro K hK
            simp only [Act.put, List.setIfInBounds_toArray, List.set_cons_zero, List.set_cons_succ]
            go_simp
            refine hK.out _ _ ⟨gb, ro, rn, rc, x37, x38, x39, x40, x41, x42, x43, x44, x45, (.pointer (some ⟨gp, 0, none⟩)), (.pointer (some ⟨gp, 5, none⟩)), by simp only [Act.put, List.setIfInBounds_toArray, List.set_cons_zero, List.set_cons_succ], ?_⟩
            exact ⟨fun h => hF.out.f0 (by simpa using h), fun h => hF.out.f1 (by simpa using h), fun h => hF.out.f2 (by simpa using h), fun h => hF.out.f3 (by simpa using h), fun h => hF.out.f4 (by simpa using h), fun h => hF.out.f5 (by simpa using h), fun h => hF.out.f6 (by simpa using h), fun h => hF.out.f7 (by simpa using h), fun h => hF.out.f8 (by simpa using h), fun h => hF.out.f9 (by simpa using h), fun _ => rfl, fun h => hF.out.f11 (by simpa using h), fun h => by have := hF.out.o8_4 (by simpa using h); simpa using this, fun h => by have := hF.out.o8_7 (by simpa using h); simpa using this, fun h => by have := hF.out.q11_8 (by simpa using h); simpa using this, hF.out.kf, fun h => hF.out.pm (by simpa using h), fun h h2 => hF.out.bs (by simpa using h) (by simpa using h2), fun h h2 => hF.out.th (by simpa using h) (by simpa using h2), fun h => hF.out.fin (by simpa using h)⟩
          · intro d a W hI hd hdep
            obtain ⟨gb, ro, rn, rc, x37, x38, x39, x40, x41, x42, x43, x44, x45, x46, x47, rfl, hF⟩ := hI
            have hd10 : d 10 = true := dep_of hdep 10 (by kernel_rfl)
            have hd8 : d 8 = true := dep_of hdep 8 (by kernel_rfl)
            obtain rfl := hF.out.f10 hd10
            obtain rfl := hF.out.f8 hd8
            have e11_8 := hd8
            have hth := hF.out.th hd8 hd
            have ya := hth.1.cell (i := 5) (by omega)
            have yb := hth.1.frozen 5
            have HTH : Hid _ := hth.2
            clear hth
            clear hdep hd hd10 hd8
            intro K hK
            simp only [Act.put, List.setIfInBounds_toArray, List.set_cons_zero, List.set_cons_succ]
            go_simp
            refine hK.out _ _ ⟨gb, ro, rn, rc, x37, x38, x39, x40, x41, x42, x43, x44, (.slice ro rn rc), x46, (.pointer (some ⟨gp, 5, none⟩)), by simp only [Act.put, List.setIfInBounds_toArray, List.set_cons_zero, List.set_cons_succ], ?_⟩
            exact ⟨fun h => hF.out.f0 (by simpa using h), fun h => hF.out.f1 (by simpa using h), fun h => hF.out.f2 (by simpa using h), fun h => hF.out.f3 (by simpa using h), fun h => hF.out.f4 (by simpa using h), fun h => hF.out.f5 (by simpa using h), fun h => hF.out.f6 (by simpa using h), fun h => hF.out.f7 (by simpa using h), fun h => hF.out.f8 (by simpa using h), fun h => hF.out.f9 (by simpa using h), fun h => hF.out.f10 (by simpa using h), fun _ => trivial, fun h => by have := hF.out.o8_4 (by simpa using h); simpa using this, fun h => by have := hF.out.o8_7 (by simpa using h); simpa using this, fun _ => by simpa using e11_8, HTH.out.fm, fun h => by have := e11_8; simp [this] at h, fun _ h => by have := e11_8; simp [this] at h, fun _ h => by simp at h, fun _ => HTH.out⟩
        · intro d a W hI hall
          obtain ⟨gb, ro, rn, rc, x37, x38, x39, x40, x41, x42, x43, x44, x45, x46, x47, rfl, hF⟩ := hI
          simp only [List.length_cons, List.length_nil] at hall
          obtain rfl := hF.out.f0 (hall 0 (by omega))
          obtain rfl := hF.out.f1 (hall 1 (by omega))
          obtain rfl := hF.out.f2 (hall 2 (by omega))
          obtain rfl := hF.out.f3 (hall 3 (by omega))
          obtain rfl := hF.out.f4 (hall 4 (by omega))
          obtain rfl := hF.out.f5 (hall 5 (by omega))
          obtain rfl := hF.out.f6 (hall 6 (by omega))
          obtain rfl := hF.out.f7 (hall 7 (by omega))
          obtain rfl := hF.out.f8 (hall 8 (by omega))
          obtain rfl := hF.out.f9 (hall 9 (by omega))
          obtain rfl := hF.out.f10 (hall 10 (by omega))
          have hfin := hF.out.fin (hall 11 (by omega))
          have HS5 : Hid (St base gp v0 V0 p0.follow.length w ({ cls := pq.cls, rules := pq.rules, first := pq.first, follow := pq.follow, last := pq.last, empty := pq.empty ++ [em] } : P) (upd vq 5 (.slice ro rn rc)) V W) := HS4.out.trans hfin
          clear hF hall hfin
          simp only [Act.put, List.setIfInBounds_toArray, List.set_cons_zero, List.set_cons_succ]
          go_wp2_with fail
          go_end0
          rw [HFIN4.out]
          exact ⟨rfl, _, _, HS5.out⟩
end Go.Proofs.Ytlmlkpdppkgenaa
