/-
  The contract of places.layNode: at two nodes of which one is taken; and at every right tree.
-/
import Derived.Test.YtlmlkpdppkgenaaPmNode3
import Derived.Test.YtlmlkpdppkgenaaPoRun
namespace Go.Proofs.Ytlmlkpdppkgenaa
open Go.RowKit
open Cls Po Rex

theorem St.wroteF {base gp : Nat} {v V v1 V1 : Nat → Value} {m : Nat} {w w1 w2 : World} {p1 : P} (h : St base gp v V m w p1 v1 V1 w1) {g : Nat} (hf : Fm (fun k => k = g) w1 w2) (hg : ¬ Own gp v1 V1 p1.follow.length g) (hw : w.heap.size ≤ g) : St base gp v V m w p1 v1 V1 w2 :=
  ⟨h.pm.keep hf.size fun q hq => hf.blk q (h.pm.own_lt hq) (fun e => hg (e ▸ hq)), h.fm.trans hf (fun q hq e => by omega), h.ow⟩
structure RAt (w w1 w3 w4 : World) (fo lo go_ ho_ : Option Addr) (fn ln gn hn fc lc gc hc : Nat) (em2 : Bool) (e1 e2 : Pm.E) (ga : Nat) (o1 : Option Addr) (j1 : Nat) (q1 : Nat) (gb : Nat) (o2 : Option Addr) (j2 : Nat) (q2 : Nat) (d : Nat → Bool) (x71 x72 x73 x74 x75 x76 x77 x78 x79 x80 x81 x82 x83 x84 x85 x86 x87 x88 x89 : Value) (W : World) : Prop where
  f0 : d 0 = true → x71 = (.pointer (some ⟨w1.heap.size, 0, none⟩))
  f1 : d 1 = true → x72 = (.slice fo fn fc)
  f2 : d 2 = true → x73 = (.pointer (some ⟨w3.heap.size, 0, none⟩))
  f3 : d 3 = true → x74 = (.slice go_ gn gc)
  f4 : d 4 = true → x75 = (.slice (some ⟨ga, 0, none⟩) 2 2)
  f5 : d 5 = true → x76 = (.slice o1 j1 q1)
  f6 : d 6 = true → x77 = (.pointer (some ⟨w1.heap.size, 1, none⟩))
  f7 : d 7 = true → x78 = (.slice lo ln lc)
  f8 : d 8 = true → x79 = (.pointer (some ⟨w3.heap.size, 1, none⟩))
  f9 : d 9 = true → x80 = (.slice ho_ hn hc)
  f10 : d 10 = true → x81 = (.slice (some ⟨gb, 0, none⟩) 2 2)
  f11 : d 11 = true → x82 = (.slice o2 j2 q2)
  f12 : d 12 = true → x83 = (.pointer (some ⟨w1.heap.size, 2, none⟩))
  f13 : d 13 = true → x84 = (.bool true)
  f14 : d 14 = true → x85 = (.bool true)
  f15 : d 15 = true → x86 = undef
  f16 : d 16 = true → x87 = undef
  f17 : d 17 = true → x88 = (.bool true)
  f18 : d 18 = true → x89 = (.agg #[(.slice o1 j1 q1), (.slice o2 j2 q2), (.bool true)])
  f19 : d 19 = true → True
  kp : Fm (fun k => k = w.heap.size + 1) w4 W
  c4 : d 4 = true → W.cell? ⟨ga, 0, none⟩ = some (.slice fo fn fc) ∧ W.cell? ⟨ga, 1, none⟩ = some (.slice go_ gn gc) ∧ ga < W.heap.size ∧ w4.heap.size ≤ ga
  c10 : d 10 = true → W.cell? ⟨gb, 0, none⟩ = some (.slice lo ln lc) ∧ W.cell? ⟨gb, 1, none⟩ = some (.slice ho_ hn hc) ∧ gb < W.heap.size ∧ w4.heap.size ≤ gb
  r5 : d 5 = true → W.ownsRow w4.heap.size 3 1 (.slice o1 j1 q1) (e1.first ++ e2.first).length ((e1.first ++ e2.first).map (Value.int .i64))
  r11 : d 11 = true → W.ownsRow w4.heap.size 3 1 (.slice o2 j2 q2) (e1.last ++ e2.last).length ((e1.last ++ e2.last).map (Value.int .i64))
  o5 : d 18 = true → d 5 = true
  o11 : d 18 = true → d 11 = true
  o18 : d 19 = true → d 18 = true
  g0 : d 19 = false → W.heap[w.heap.size + 1]? = some (.cells #[.slice none 0 0, .slice none 0 0, .bool false] 137)
  g1 : d 19 = true → W.heap[w.heap.size + 1]? = some (.cells #[(.slice o1 j1 q1), (.slice o2 j2 q2), (.bool true)] 137)
structure RAf (w w1 w3 w4 : World) (fo lo go_ ho_ : Option Addr) (fn ln gn hn fc lc gc hc : Nat) (em2 : Bool) (e1 e2 : Pm.E) (ga : Nat) (o1 : Option Addr) (j1 : Nat) (q1 : Nat) (gb : Nat) (o2 : Option Addr) (j2 : Nat) (q2 : Nat) (d : Nat → Bool) (x71 x72 x73 x74 x75 x76 x77 x78 x79 x80 x81 x82 x83 x84 x85 x86 x87 x88 x89 : Value) (W : World) : Prop where
  f0 : d 0 = true → x71 = (.pointer (some ⟨w1.heap.size, 0, none⟩))
  f1 : d 1 = true → x72 = (.slice fo fn fc)
  f2 : d 2 = true → x73 = (.pointer (some ⟨w3.heap.size, 0, none⟩))
  f3 : d 3 = true → x74 = (.slice go_ gn gc)
  f4 : d 4 = true → x75 = (.slice (some ⟨ga, 0, none⟩) 2 2)
  f5 : d 5 = true → x76 = (.slice o1 j1 q1)
  f6 : d 6 = true → x77 = (.pointer (some ⟨w1.heap.size, 1, none⟩))
  f7 : d 7 = true → x78 = (.slice lo ln lc)
  f8 : d 8 = true → x79 = (.pointer (some ⟨w3.heap.size, 1, none⟩))
  f9 : d 9 = true → x80 = (.slice ho_ hn hc)
  f10 : d 10 = true → x81 = (.slice (some ⟨gb, 0, none⟩) 2 2)
  f11 : d 11 = true → x82 = (.slice o2 j2 q2)
  f12 : d 12 = true → x83 = (.pointer (some ⟨w1.heap.size, 2, none⟩))
  f13 : d 13 = true → x84 = (.bool false)
  f14 : d 14 = true → x85 = (.bool false)
  f15 : d 15 = true → x86 = (.pointer (some ⟨w3.heap.size, 2, none⟩))
  f16 : d 16 = true → x87 = (.bool em2)
  f17 : d 17 = true → x88 = (.bool em2)
  f18 : d 18 = true → x89 = (.agg #[(.slice o1 j1 q1), (.slice o2 j2 q2), (.bool em2)])
  f19 : d 19 = true → True
  kp : Fm (fun k => k = w.heap.size + 1) w4 W
  c4 : d 4 = true → W.cell? ⟨ga, 0, none⟩ = some (.slice fo fn fc) ∧ W.cell? ⟨ga, 1, none⟩ = some (.slice go_ gn gc) ∧ ga < W.heap.size ∧ w4.heap.size ≤ ga
  c10 : d 10 = true → W.cell? ⟨gb, 0, none⟩ = some (.slice lo ln lc) ∧ W.cell? ⟨gb, 1, none⟩ = some (.slice ho_ hn hc) ∧ gb < W.heap.size ∧ w4.heap.size ≤ gb
  r5 : d 5 = true → W.ownsRow w4.heap.size 3 1 (.slice o1 j1 q1) (e1.first ++ e2.first).length ((e1.first ++ e2.first).map (Value.int .i64))
  r11 : d 11 = true → W.ownsRow w4.heap.size 3 1 (.slice o2 j2 q2) (e1.last ++ e2.last).length ((e1.last ++ e2.last).map (Value.int .i64))
  o5 : d 18 = true → d 5 = true
  o11 : d 18 = true → d 11 = true
  o18 : d 19 = true → d 18 = true
  g0 : d 19 = false → W.heap[w.heap.size + 1]? = some (.cells #[.slice none 0 0, .slice none 0 0, .bool false] 137)
  g1 : d 19 = true → W.heap[w.heap.size + 1]? = some (.cells #[(.slice o1 j1 q1), (.slice o2 j2 q2), (.bool em2)] 137)
set_option maxHeartbeats 8000000 in
set_option maxRecDepth 20000 in
theorem ln_alt {s t : T} {a1 b1 : Rex.E} (h1 : LNP s a1) (h2 : LNP t b1) : LNP (.mk 5 Cls.empty [s, t]) (.alt a1 b1) := by
  intro base gp B v V p ru val w hP hx hB hR
  obtain ⟨b, o, cap, k0, k1, c0, c1, a0, a1', n0, p0, n1, p1, rfl, hbB, r0, r1, x0, x1, x2, x3, x4, x5, x6, x7, x8, x9, x10, x11⟩ := two_kids hx
  have hb0 := ((Below.refl w.heap.size w).alloc (Nat.le_refl _) (Obj.cells #[.int .i64 5, .int .u64 0, .int .u64 0, .int .u64 0, .int .u64 0, .slice (some ⟨b, o, none⟩) 2 cap] 44)).alloc (by simp) (Obj.cells #[.slice none 0 0, .slice none 0 0, .bool false] 137)
  have hg5 : ((w.alloc (Obj.cells #[.int .i64 5, .int .u64 0, .int .u64 0, .int .u64 0, .int .u64 0, .slice (some ⟨b, o, none⟩) 2 cap] 44)).alloc (Obj.cells #[.slice none 0 0, .slice none 0 0, .bool false] 137)).heap[w.heap.size]? = some (.cells #[.int .i64 5, .int .u64 0, .int .u64 0, .int .u64 0, .int .u64 0, .slice (some ⟨b, o, none⟩) 2 cap] 44) := (alloc_old _ _ (by simp)).trans (new_at _ _ rfl)
  have hg6 : ((w.alloc (Obj.cells #[.int .i64 5, .int .u64 0, .int .u64 0, .int .u64 0, .int .u64 0, .slice (some ⟨b, o, none⟩) 2 cap] 44)).alloc (Obj.cells #[.slice none 0 0, .slice none 0 0, .bool false] 137)).heap[w.heap.size + 1]? = some (.cells #[.slice none 0 0, .slice none 0 0, .bool false] 137) := new_at _ _ (by simp)
  have hsz0 : ((w.alloc (Obj.cells #[.int .i64 5, .int .u64 0, .int .u64 0, .int .u64 0, .int .u64 0, .slice (some ⟨b, o, none⟩) 2 cap] 44)).alloc (Obj.cells #[.slice none 0 0, .slice none 0 0, .bool false] 137)).heap.size = w.heap.size + 1 + 1 := by simp
  obtain ⟨w0, HW0⟩ : ∃ w0, Hid ((w.alloc (Obj.cells #[.int .i64 5, .int .u64 0, .int .u64 0, .int .u64 0, .int .u64 0, .slice (some ⟨b, o, none⟩) 2 cap] 44)).alloc (Obj.cells #[.slice none 0 0, .slice none 0 0, .bool false] 137) = w0) := ⟨_, (rfl : _ = _)⟩
  rw [HW0.out] at hb0 hg5 hg6 hsz0
  have HPW : Hid (Pm base gp v V p w) := hP
  have HST0 : Hid (St base gp v V p.follow.length w p v V w0) := (St.refl hP).next hb0
  have HG6 : Hid (w0.heap[w.heap.size + 1]? = some (.cells #[.slice none 0 0, .slice none 0 0, .bool false] 137) ∧ w0.heap.size = w.heap.size + 1 + 1 ∧ w0.heap[w.heap.size]? = some (.cells #[.int .i64 5, .int .u64 0, .int .u64 0, .int .u64 0, .int .u64 0, .slice (some ⟨b, o, none⟩) 2 cap] 44)) := ⟨hg6, hsz0, hg5⟩
  have HNG : Hid (¬ Own gp v V p.follow.length (w.heap.size + 1) ∧ ¬ Own gp v V p.follow.length w.heap.size) := ⟨fun ho => by have := hP.own_lt ho; omega, fun ho => by have := hP.own_lt ho; omega⟩
  have HRD : Hid (Pm.Rdy p (Rex.E.nodes _)) := hR
  have HBG : Hid (B ≤ gp ∧ b < B ∧ gp < w.heap.size) := ⟨hB, hbB, hP.box.lt⟩
  have HR1 : Hid (Pm.Rdy p (a1.nodes + b1.nodes)) := hR.less (by simp only [Rex.E.nodes]; omega)
  have hcall := h1 base gp B v V p ru (.agg #[.int .i64 k0, .int .u64 (c0.1.toNat : Int), .int .u64 (c0.2.1.toNat : Int), .int .u64 (c0.2.2.1.toNat : Int), .int .u64 (c0.2.2.2.toNat : Int), .slice a0 n0 p0]) w0 HST0.out.pm (r0.next (HST0.out.below hP hB)) hB (HR1.out.less (by omega))
  have hkb := HST0.out.below hP hB
  have HXC : Hid (w.cell? ⟨b, o + 6, none⟩ = some (.int .i64 k1) ∧ w.cell? ⟨b, o + 6 + 1, none⟩ = some (.int .u64 (c1.1.toNat : Int)) ∧ w.cell? ⟨b, o + 6 + 2, none⟩ = some (.int .u64 (c1.2.1.toNat : Int)) ∧ w.cell? ⟨b, o + 6 + 3, none⟩ = some (.int .u64 (c1.2.2.1.toNat : Int)) ∧ w.cell? ⟨b, o + 6 + 4, none⟩ = some (.int .u64 (c1.2.2.2.toNat : Int)) ∧ w.cell? ⟨b, o + 6 + 5, none⟩ = some (.slice a1' n1 p1)) := ⟨x6, x7, x8, x9, x10, x11⟩
  have HRX : Hid (Rx w B (.agg #[.int .i64 k1, .int .u64 (c1.1.toNat : Int), .int .u64 (c1.2.1.toNat : Int), .int .u64 (c1.2.2.1.toNat : Int), .int .u64 (c1.2.2.2.toNat : Int), .slice a1' n1 p1]) t) := r1
  replace x0 := (hkb.cell (p := ⟨b, o, none⟩) hbB).trans x0
  replace x1 := (hkb.cell (p := ⟨b, o + 1, none⟩) hbB).trans x1
  replace x2 := (hkb.cell (p := ⟨b, o + 2, none⟩) hbB).trans x2
  replace x3 := (hkb.cell (p := ⟨b, o + 3, none⟩) hbB).trans x3
  replace x4 := (hkb.cell (p := ⟨b, o + 4, none⟩) hbB).trans x4
  replace x5 := (hkb.cell (p := ⟨b, o + 5, none⟩) hbB).trans x5
  rw [← HW0.out] at x0 x1 x2 x3 x4 x5
  have hgd := Pm.layX_good a1 ⟨p.cls, p.follow⟩ hR.ok
  have hgd2 := Pm.layX_good b1 (Pm.layX a1 ⟨p.cls, p.follow⟩).2 hgd.ok
  have hfn := Pm.layX_fine a1 ⟨p.cls, p.follow⟩ hR.ok hR.fine (by have := HR1.out.room; simp only; omega)
  have hfn2 := Pm.layX_fine b1 (Pm.layX a1 ⟨p.cls, p.follow⟩).2 hgd.ok hfn (by have := HR1.out.room; have := hgd.few; simp only at this; omega)
  have hr2 : Pm.Rdy (Pm.pos p (Pm.layX a1 ⟨p.cls, p.follow⟩).2 ru) b1.nodes := HR1.out.next a1
  have hpp : Pm.pos (Pm.pos p (Pm.layX a1 ⟨p.cls, p.follow⟩).2 ru) (Pm.layX b1 (Pm.layX a1 ⟨p.cls, p.follow⟩).2).2 ru = Pm.pos p (Pm.layX b1 (Pm.layX a1 ⟨p.cls, p.follow⟩).2).2 ru := Pm.pos_pos _ _ _ _ hgd.le hgd2.le
  obtain ⟨e1, HE1⟩ : ∃ e1, Hid ((Pm.layX a1 ⟨p.cls, p.follow⟩).1 = e1) := ⟨_, (rfl : _ = _)⟩
  obtain ⟨s1, HS1⟩ : ∃ s1, Hid ((Pm.layX a1 ⟨p.cls, p.follow⟩).2 = s1) := ⟨_, (rfl : _ = _)⟩
  obtain ⟨e2, HE2⟩ : ∃ e2, Hid ((Pm.layX b1 s1).1 = e2) := ⟨_, (rfl : _ = _)⟩
  obtain ⟨s2, HS2⟩ : ∃ s2, Hid ((Pm.layX b1 s1).2 = s2) := ⟨_, (rfl : _ = _)⟩
  have HX : Hid ((Pm.layX (.alt a1 b1) ⟨p.cls, p.follow⟩).1 = (⟨e1.first ++ e2.first, e1.last ++ e2.last, e1.empty || e2.empty⟩ : Pm.E) ∧ Pm.pos p (Pm.layX (.alt a1 b1) ⟨p.cls, p.follow⟩).2 ru = Pm.pos p s2 ru) := by
    rw [← HE2.out, ← HS2.out, ← HE1.out, ← HS1.out]; exact ⟨rfl, rfl⟩
  rw [HX.out.1, HX.out.2]
  have hcall2 : ∀ (v1 V1 : Nat → Value) (val : Value) (w : World), Pm base gp v1 V1 (Pm.pos p s1 ru) w → Rx w B val t → Calls Try.prog 74 #[.pointer (some ⟨gp, 0, none⟩), val, .int .i64 ru] w fun e w' => ∃ v' V' fo fn fc lo ln lc, e = .returned (.agg #[.slice fo fn fc, .slice lo ln lc, .bool e2.empty]) ∧ NO base gp v1 V1 (Pm.pos p s1 ru).follow.length w (Pm.pos p s2 ru) v' V' (.slice fo fn fc) (.slice lo ln lc) e2.first e2.last w' := fun v1 V1 val w hp hx => by
    have := h2 base gp B v1 V1 (Pm.pos p s1 ru) ru val w hp hx hB (by rw [← HS1.out]; exact hr2)
    have es : (⟨(Pm.pos p s1 ru).cls, (Pm.pos p s1 ru).follow⟩ : Pm.S) = s1 := rfl
    rw [es, HE2.out, HS2.out] at this
    rw [HS1.out, HS2.out] at hpp
    rw [hpp] at this
    exact this
  rw [HE1.out, HS1.out] at hcall hgd
  rw [HS1.out] at hgd2 hfn hfn2 hr2
  rw [HE2.out, HS2.out] at hgd2
  rw [HS2.out] at hfn2
  have HGD : Hid (Pm.Gx a1.nodes ⟨p.cls, p.follow⟩ e1 s1 ∧ Pm.Gx b1.nodes s1 e2 s2 ∧ Pm.Fine 3000 s2.fol) := ⟨hgd, hgd2, hfn2⟩
  obtain ⟨P1, HP1⟩ : ∃ P1, Hid (Pm.pos p s1 ru = P1) := ⟨_, (rfl : _ = _)⟩
  obtain ⟨P2, HP2⟩ : ∃ P2, Hid (Pm.pos p s2 ru = P2) := ⟨_, (rfl : _ = _)⟩
  have HPF : Hid (P2.follow = s2.fol) := by show _ = _; rw [← HP2.out]; rfl
  rw [HP1.out] at hcall hcall2
  rw [HP2.out] at hcall2
  rw [HP2.out]
  have HC2 : Hid (∀ (v1 V1 : Nat → Value) (val : Value) (w : World), Pm base gp v1 V1 P1 w → Rx w B val t → Calls Try.prog 74 #[.pointer (some ⟨gp, 0, none⟩), val, .int .i64 ru] w fun e w' => ∃ v' V' fo fn fc lo ln lc, e = .returned (.agg #[.slice fo fn fc, .slice lo ln lc, .bool e2.empty]) ∧ NO base gp v1 V1 P1.follow.length w P2 v' V' (.slice fo fn fc) (.slice lo ln lc) e2.first e2.last w') := hcall2
  clear hR hx hb0 hg5 hg6 hsz0 hkb hgd hgd2 hfn hfn2 hr2 hpp HX HE1 HS1 HE2 HS2 HP1 HP2 r0 r1 hcall2 x6 x7 x8 x9 x10 x11
  try simp only
  go_enter Try.func74, Try.ntmps74
  go_wp2_with fail
  rw [HW0.out]
  clear x0 x1 x2 x3 x4 x5
  refine hcall.mono ?_
  rintro _ w1 ⟨v1, V1, fo, fn, fc, lo, ln, lc, rfl, hno⟩
  obtain ⟨em, HEM⟩ : ∃ em, Hid (e1.empty = em) := ⟨_, (rfl : e1.empty = e1.empty)⟩
  rw [HEM.out]
  have hb1 := below_alloc1 w1 (Obj.cells #[.slice fo fn fc, .slice lo ln lc, .bool em] 137)
  have hbx := new_at w1 (Obj.cells #[.slice fo fn fc, .slice lo ln lc, .bool em] 137) rfl
  obtain ⟨w2, HW2⟩ : ∃ w2, Hid (w1.alloc (Obj.cells #[.slice fo fn fc, .slice lo ln lc, .bool em] 137) = w2) := ⟨_, (rfl : _ = _)⟩
  rw [HW2.out] at hb1 hbx
  have hk6 := box_kept hno.st HG6.out.1 HNG.out.1
  have hk5 := box_kept hno.st HG6.out.2.2 HNG.out.2
  have hst2 := hno.st.next hb1
  have HNX : Hid (¬ Own gp v1 V1 P1.follow.length w1.heap.size) := fun ho => by have := hno.st.pm.own_lt ho; omega
  have HK6 : Hid (w2.heap[w.heap.size + 1]? = some (.cells #[.slice none 0 0, .slice none 0 0, .bool false] 137) ∧ ¬ Own gp v1 V1 P1.follow.length (w.heap.size + 1)) := ⟨(hb1.block _ ((Array.getElem?_eq_some_iff.1 hk6.1).1)).trans hk6.1, hk6.2⟩
  have hk5b := (hb1.block _ ((Array.getElem?_eq_some_iff.1 hk5.1).1)).trans hk5.1
  have HS0 : Hid (St base gp v V p.follow.length w P1 v1 V1 w2) := HST0.out.trans hst2
  have HX2 : Hid (Rk gp v1 V1 P1.follow.length w0.heap.size (.slice fo fn fc) e1.first w2 ∧ Rk gp v1 V1 P1.follow.length w0.heap.size (.slice lo ln lc) e1.last w2) := ⟨hno.f.next hb1, hno.l.next hb1⟩
  have HSB : Hid (w0.heap.size ≤ w1.heap.size) := hno.st.fm.size
  have HBX : Hid (w2.heap[w1.heap.size]? = some (.cells #[.slice fo fn fc, .slice lo ln lc, .bool em] 137)) := hbx
  have hcl2 := HC2.out v1 V1 (.agg #[.int .i64 k1, .int .u64 (c1.1.toNat : Int), .int .u64 (c1.2.1.toNat : Int), .int .u64 (c1.2.2.1.toNat : Int), .int .u64 (c1.2.2.2.toNat : Int), .slice a1' n1 p1]) w2 hst2.pm (HRX.out.next (HS0.out.below hP hB))
  have hkb := HS0.out.below hP hB
  obtain ⟨x0, x1, x2, x3, x4, x5⟩ := HXC.out
  replace x0 := (hkb.cell (p := ⟨b, o + 6, none⟩) hbB).trans x0
  replace x1 := (hkb.cell (p := ⟨b, o + 6 + 1, none⟩) hbB).trans x1
  replace x2 := (hkb.cell (p := ⟨b, o + 6 + 2, none⟩) hbB).trans x2
  replace x3 := (hkb.cell (p := ⟨b, o + 6 + 3, none⟩) hbB).trans x3
  replace x4 := (hkb.cell (p := ⟨b, o + 6 + 4, none⟩) hbB).trans x4
  replace x5 := (hkb.cell (p := ⟨b, o + 6 + 5, none⟩) hbB).trans x5
  have y5 : w2.cell? ⟨w.heap.size, 5, none⟩ = some (.slice (some ⟨b, o, none⟩) 2 cap) := by simp [World.cell?, hk5b]
  clear hno hb1 hbx hk6 hk5 hk5b hst2 hcall hkb hP
  rw [← HW2.out] at x0 x1 x2 x3 x4 x5 y5
  go_wp2_with fail
  rw [HW2.out]
  clear x0 x1 x2 x3 x4 x5 y5 HW2
  refine hcl2.mono ?_
  rintro _ w3 ⟨v3, V3, go_, gn, gc, ho_, hn, hc, rfl, hno⟩
  obtain ⟨em2, HEM2⟩ : ∃ em, Hid (e2.empty = em) := ⟨_, (rfl : e2.empty = e2.empty)⟩
  rw [HEM2.out]
  have hb1 := below_alloc1 w3 (Obj.cells #[.slice go_ gn gc, .slice ho_ hn hc, .bool em2] 137)
  have hby := new_at w3 (Obj.cells #[.slice go_ gn gc, .slice ho_ hn hc, .bool em2] 137) rfl
  obtain ⟨w4, HW4⟩ : ∃ w4, Hid (w3.alloc (Obj.cells #[.slice go_ gn gc, .slice ho_ hn hc, .bool em2] 137) = w4) := ⟨_, (rfl : _ = _)⟩
  rw [HW4.out] at hb1 hby
  have hk6 := box_kept hno.st HK6.out.1 HK6.out.2
  have hkx := box_kept hno.st HBX.out HNX.out
  have HS4 : Hid (St base gp v V p.follow.length w P2 v3 V3 w4) := (HS0.out.trans hno.st).next hb1
  have HR4 : Hid ((Rk gp v3 V3 P2.follow.length w0.heap.size (.slice fo fn fc) e1.first w4 ∧ Rk gp v3 V3 P2.follow.length w0.heap.size (.slice lo ln lc) e1.last w4) ∧ Rk gp v3 V3 P2.follow.length w0.heap.size (.slice go_ gn gc) e2.first w4 ∧ Rk gp v3 V3 P2.follow.length w0.heap.size (.slice ho_ hn hc) e2.last w4) :=
    ⟨⟨(HX2.out.1.step hno.st).next hb1, (HX2.out.2.step hno.st).next hb1⟩, (hno.f.next hb1).less (by have := HSB.out; have := (Array.getElem?_eq_some_iff.1 HBX.out).1; omega), (hno.l.next hb1).less (by have := HSB.out; have := (Array.getElem?_eq_some_iff.1 HBX.out).1; omega)⟩
  have HK4 : Hid ((w4.heap[w.heap.size + 1]? = some (.cells #[.slice none 0 0, .slice none 0 0, .bool false] 137) ∧ ¬ Own gp v3 V3 P2.follow.length (w.heap.size + 1)) ∧ (w4.heap[w1.heap.size]? = some (.cells #[.slice fo fn fc, .slice lo ln lc, .bool em] 137) ∧ ¬ Own gp v3 V3 P2.follow.length w1.heap.size) ∧ (w4.heap[w3.heap.size]? = some (.cells #[.slice go_ gn gc, .slice ho_ hn hc, .bool em2] 137) ∧ ¬ Own gp v3 V3 P2.follow.length w3.heap.size)) :=
    ⟨⟨(hb1.block _ ((Array.getElem?_eq_some_iff.1 hk6.1).1)).trans hk6.1, hk6.2⟩, ⟨(hb1.block _ ((Array.getElem?_eq_some_iff.1 hkx.1).1)).trans hkx.1, hkx.2⟩, hby, fun ho => by have := hno.st.pm.own_lt ho; omega⟩
  have HNE3 : Hid (¬ w3.heap.size = w.heap.size + 1) := fun e => by have := (Array.getElem?_eq_some_iff.1 hk6.1).1; omega
  clear hno hb1 hby hk6 hkx hcl2 HS0 HX2 HK6 HBX HNX
  have HLN : Hid (e1.first.length + e2.first.length ≤ 100000 ∧ e1.last.length + e2.last.length ≤ 100000) := by
    have g1 := HGD.out.1.fl; have g2 := HGD.out.1.ll; have g3 := HGD.out.2.1.fl; have g4 := HGD.out.2.1.ll; have g5 := HR1.out.room
    exact ⟨by omega, by omega⟩
  have HL6 : Hid (w.heap.size + 1 < w4.heap.size) := (Array.getElem?_eq_some_iff.1 HK4.out.1.1).1
  have HBXX : Hid (w4.heap[w1.heap.size]? = some (.cells #[(.slice fo fn fc), (.slice lo ln lc), .bool em] 137) ∧ ¬ w1.heap.size = w.heap.size + 1) := ⟨HK4.out.2.1.1, by have := HSB.out; have := HG6.out.2.1; omega⟩
  have HBYY : Hid (w4.heap[w3.heap.size]? = some (.cells #[(.slice go_ gn gc), (.slice ho_ hn hc), .bool em2] 137) ∧ ¬ w3.heap.size = w.heap.size + 1) := ⟨HK4.out.2.2.1, HNE3.out⟩
  have HFB : Hid ((∀ q, Value.ownBlock (.slice fo fn fc) = some q → w.heap.size + 1 < q) ∧ (∀ q, Value.ownBlock (.slice lo ln lc) = some q → w.heap.size + 1 < q) ∧ (∀ q, Value.ownBlock (.slice go_ gn gc) = some q → w.heap.size + 1 < q) ∧ ∀ q, Value.ownBlock (.slice ho_ hn hc) = some q → w.heap.size + 1 < q) := by
    have hs := HG6.out.2.1
    exact ⟨fun q hq => by have := (HR4.out.1.1.b q hq).1; omega, fun q hq => by have := (HR4.out.1.2.b q hq).1; omega, fun q hq => by have := (HR4.out.2.1.b q hq).1; omega, fun q hq => by have := (HR4.out.2.2.b q hq).1; omega⟩
  cases em with
  | true =>
    go_upto_region 15 with (fail)
    rw [HW4.out]
    clear HW4
    refine wp_region_free mixed (fun a0 d a W => ∃ (ga : Nat) (o1 : Option Addr) (j1 : Nat) (q1 : Nat) (gb : Nat) (o2 : Option Addr) (j2 : Nat) (q2 : Nat) (x71 x72 x73 x74 x75 x76 x77 x78 x79 x80 x81 x82 x83 x84 x85 x86 x87 x88 x89 : Value), a = (((((((((((((((((((a0.put (some 71) x71).put (some 72) x72).put (some 73) x73).put (some 74) x74).put (some 75) x75).put (some 76) x76).put (some 77) x77).put (some 78) x78).put (some 79) x79).put (some 80) x80).put (some 81) x81).put (some 82) x82).put (some 83) x83).put (some 84) x84).put (some 85) x85).put (some 86) x86).put (some 87) x87).put (some 88) x88).put (some 89) x89) ∧ Hid (RAt w w1 w3 w4 fo lo go_ ho_ fn ln gn hn fc lc gc hc em2 e1 e2 ga o1 j1 q1 gb o2 j2 q2 d x71 x72 x73 x74 x75 x76 x77 x78 x79 x80 x81 x82 x83 x84 x85 x86 x87 x88 x89 W)) (by kernel_rfl) ⟨0, none, 0, 0, 0, none, 0, 0, undef, undef, undef, undef, undef, undef, undef, undef, undef, undef, undef, undef, undef, undef, undef, undef, undef, undef, undef, by simp only [Act.put, List.setIfInBounds_toArray, List.set_cons_zero, List.set_cons_succ], ?_⟩ ?_ ?_
    · exact ⟨fun h => no_way h, fun h => no_way h, fun h => no_way h, fun h => no_way h, fun h => no_way h, fun h => no_way h, fun h => no_way h, fun h => no_way h, fun h => no_way h, fun h => no_way h, fun h => no_way h, fun h => no_way h, fun h => no_way h, fun h => no_way h, fun h => no_way h, fun h => no_way h, fun h => no_way h, fun h => no_way h, fun h => no_way h, fun _ => trivial, ⟨rfl, rfl, rfl, Nat.le_refl _, fun _ _ _ => rfl⟩, fun h => no_way h, fun h => no_way h, fun h => no_way h, fun h => no_way h, fun h => no_way h, fun h => no_way h, fun h => no_way h, fun _ => HK4.out.1.1, fun h => no_way h⟩
    · simp only [StepAll, and_true]
      refine ⟨?_, ?_, ?_, ?_, ?_, ?_, ?_, ?_, ?_, ?_, ?_, ?_, ?_, ?_, ?_, ?_, ?_, ?_, ?_, ?_⟩
      · intro d a W hI hd hdep
        obtain ⟨ga, o1, j1, q1, gb, o2, j2, q2, x71, x72, x73, x74, x75, x76, x77, x78, x79, x80, x81, x82, x83, x84, x85, x86, x87, x88, x89, rfl, hF⟩ := hI
        clear hdep hd
        intro K hK
        simp only [Act.put, List.setIfInBounds_toArray, List.set_cons_zero, List.set_cons_succ]
        go_simp
        refine hK.out _ _ ⟨ga, o1, j1, q1, gb, o2, j2, q2, (.pointer (some ⟨w1.heap.size, 0, none⟩)), x72, x73, x74, x75, x76, x77, x78, x79, x80, x81, x82, x83, x84, x85, x86, x87, x88, x89, by simp only [Act.put, List.setIfInBounds_toArray, List.set_cons_zero, List.set_cons_succ], ?_⟩
        exact ⟨fun _ => rfl, fun h => hF.out.f1 (by simpa using h), fun h => hF.out.f2 (by simpa using h), fun h => hF.out.f3 (by simpa using h), fun h => hF.out.f4 (by simpa using h), fun h => hF.out.f5 (by simpa using h), fun h => hF.out.f6 (by simpa using h), fun h => hF.out.f7 (by simpa using h), fun h => hF.out.f8 (by simpa using h), fun h => hF.out.f9 (by simpa using h), fun h => hF.out.f10 (by simpa using h), fun h => hF.out.f11 (by simpa using h), fun h => hF.out.f12 (by simpa using h), fun h => hF.out.f13 (by simpa using h), fun h => hF.out.f14 (by simpa using h), fun h => hF.out.f15 (by simpa using h), fun h => hF.out.f16 (by simpa using h), fun h => hF.out.f17 (by simpa using h), fun h => hF.out.f18 (by simpa using h), fun h => hF.out.f19 (by simpa using h), hF.out.kp, fun h => hF.out.c4 (by simpa using h), fun h => hF.out.c10 (by simpa using h), fun h => hF.out.r5 (by simpa using h), fun h => hF.out.r11 (by simpa using h), fun h => by have := hF.out.o5 (by simpa using h); simpa using this, fun h => by have := hF.out.o11 (by simpa using h); simpa using this, fun h => by have := hF.out.o18 (by simpa using h); simpa using this, fun h => hF.out.g0 (by simpa using h), fun h => hF.out.g1 (by simpa using h)⟩
      · intro d a W hI hd hdep
        obtain ⟨ga, o1, j1, q1, gb, o2, j2, q2, x71, x72, x73, x74, x75, x76, x77, x78, x79, x80, x81, x82, x83, x84, x85, x86, x87, x88, x89, rfl, hF⟩ := hI
        have hd0 : d 0 = true := dep_of hdep 0 (by kernel_rfl)
        obtain rfl := hF.out.f0 hd0
        have HKP : Hid (Fm (fun k => k = w.heap.size + 1) w4 W) := hF.out.kp
        have a0 := ((cells3 ((HKP.out.blk _ ((Array.getElem?_eq_some_iff.1 HBXX.out.1).1) HBXX.out.2).trans HBXX.out.1))).1
        clear hdep hd hd0
        intro K hK
        simp only [Act.put, List.setIfInBounds_toArray, List.set_cons_zero, List.set_cons_succ]
        go_simp
        refine hK.out _ _ ⟨ga, o1, j1, q1, gb, o2, j2, q2, (.pointer (some ⟨w1.heap.size, 0, none⟩)), (.slice fo fn fc), x73, x74, x75, x76, x77, x78, x79, x80, x81, x82, x83, x84, x85, x86, x87, x88, x89, by simp only [Act.put, List.setIfInBounds_toArray, List.set_cons_zero, List.set_cons_succ], ?_⟩
        exact ⟨fun h => hF.out.f0 (by simpa using h), fun _ => rfl, fun h => hF.out.f2 (by simpa using h), fun h => hF.out.f3 (by simpa using h), fun h => hF.out.f4 (by simpa using h), fun h => hF.out.f5 (by simpa using h), fun h => hF.out.f6 (by simpa using h), fun h => hF.out.f7 (by simpa using h), fun h => hF.out.f8 (by simpa using h), fun h => hF.out.f9 (by simpa using h), fun h => hF.out.f10 (by simpa using h), fun h => hF.out.f11 (by simpa using h), fun h => hF.out.f12 (by simpa using h), fun h => hF.out.f13 (by simpa using h), fun h => hF.out.f14 (by simpa using h), fun h => hF.out.f15 (by simpa using h), fun h => hF.out.f16 (by simpa using h), fun h => hF.out.f17 (by simpa using h), fun h => hF.out.f18 (by simpa using h), fun h => hF.out.f19 (by simpa using h), hF.out.kp, fun h => hF.out.c4 (by simpa using h), fun h => hF.out.c10 (by simpa using h), fun h => hF.out.r5 (by simpa using h), fun h => hF.out.r11 (by simpa using h), fun h => by have := hF.out.o5 (by simpa using h); simpa using this, fun h => by have := hF.out.o11 (by simpa using h); simpa using this, fun h => by have := hF.out.o18 (by simpa using h); simpa using this, fun h => hF.out.g0 (by simpa using h), fun h => hF.out.g1 (by simpa using h)⟩
      · intro d a W hI hd hdep
        obtain ⟨ga, o1, j1, q1, gb, o2, j2, q2, x71, x72, x73, x74, x75, x76, x77, x78, x79, x80, x81, x82, x83, x84, x85, x86, x87, x88, x89, rfl, hF⟩ := hI
        clear hdep hd
        intro K hK
        simp only [Act.put, List.setIfInBounds_toArray, List.set_cons_zero, List.set_cons_succ]
        go_simp
        refine hK.out _ _ ⟨ga, o1, j1, q1, gb, o2, j2, q2, x71, x72, (.pointer (some ⟨w3.heap.size, 0, none⟩)), x74, x75, x76, x77, x78, x79, x80, x81, x82, x83, x84, x85, x86, x87, x88, x89, by simp only [Act.put, List.setIfInBounds_toArray, List.set_cons_zero, List.set_cons_succ], ?_⟩
        exact ⟨fun h => hF.out.f0 (by simpa using h), fun h => hF.out.f1 (by simpa using h), fun _ => rfl, fun h => hF.out.f3 (by simpa using h), fun h => hF.out.f4 (by simpa using h), fun h => hF.out.f5 (by simpa using h), fun h => hF.out.f6 (by simpa using h), fun h => hF.out.f7 (by simpa using h), fun h => hF.out.f8 (by simpa using h), fun h => hF.out.f9 (by simpa using h), fun h => hF.out.f10 (by simpa using h), fun h => hF.out.f11 (by simpa using h), fun h => hF.out.f12 (by simpa using h), fun h => hF.out.f13 (by simpa using h), fun h => hF.out.f14 (by simpa using h), fun h => hF.out.f15 (by simpa using h), fun h => hF.out.f16 (by simpa using h), fun h => hF.out.f17 (by simpa using h), fun h => hF.out.f18 (by simpa using h), fun h => hF.out.f19 (by simpa using h), hF.out.kp, fun h => hF.out.c4 (by simpa using h), fun h => hF.out.c10 (by simpa using h), fun h => hF.out.r5 (by simpa using h), fun h => hF.out.r11 (by simpa using h), fun h => by have := hF.out.o5 (by simpa using h); simpa using this, fun h => by have := hF.out.o11 (by simpa using h); simpa using this, fun h => by have := hF.out.o18 (by simpa using h); simpa using this, fun h => hF.out.g0 (by simpa using h), fun h => hF.out.g1 (by simpa using h)⟩
      · intro d a W hI hd hdep
        obtain ⟨ga, o1, j1, q1, gb, o2, j2, q2, x71, x72, x73, x74, x75, x76, x77, x78, x79, x80, x81, x82, x83, x84, x85, x86, x87, x88, x89, rfl, hF⟩ := hI
        have hd2 : d 2 = true := dep_of hdep 2 (by kernel_rfl)
        obtain rfl := hF.out.f2 hd2
        have HKP : Hid (Fm (fun k => k = w.heap.size + 1) w4 W) := hF.out.kp
        have a0 := ((cells3 ((HKP.out.blk _ ((Array.getElem?_eq_some_iff.1 HBYY.out.1).1) HBYY.out.2).trans HBYY.out.1))).1
        clear hdep hd hd2
        intro K hK
        simp only [Act.put, List.setIfInBounds_toArray, List.set_cons_zero, List.set_cons_succ]
        go_simp
        refine hK.out _ _ ⟨ga, o1, j1, q1, gb, o2, j2, q2, x71, x72, (.pointer (some ⟨w3.heap.size, 0, none⟩)), (.slice go_ gn gc), x75, x76, x77, x78, x79, x80, x81, x82, x83, x84, x85, x86, x87, x88, x89, by simp only [Act.put, List.setIfInBounds_toArray, List.set_cons_zero, List.set_cons_succ], ?_⟩
        exact ⟨fun h => hF.out.f0 (by simpa using h), fun h => hF.out.f1 (by simpa using h), fun h => hF.out.f2 (by simpa using h), fun _ => rfl, fun h => hF.out.f4 (by simpa using h), fun h => hF.out.f5 (by simpa using h), fun h => hF.out.f6 (by simpa using h), fun h => hF.out.f7 (by simpa using h), fun h => hF.out.f8 (by simpa using h), fun h => hF.out.f9 (by simpa using h), fun h => hF.out.f10 (by simpa using h), fun h => hF.out.f11 (by simpa using h), fun h => hF.out.f12 (by simpa using h), fun h => hF.out.f13 (by simpa using h), fun h => hF.out.f14 (by simpa using h), fun h => hF.out.f15 (by simpa using h), fun h => hF.out.f16 (by simpa using h), fun h => hF.out.f17 (by simpa using h), fun h => hF.out.f18 (by simpa using h), fun h => hF.out.f19 (by simpa using h), hF.out.kp, fun h => hF.out.c4 (by simpa using h), fun h => hF.out.c10 (by simpa using h), fun h => hF.out.r5 (by simpa using h), fun h => hF.out.r11 (by simpa using h), fun h => by have := hF.out.o5 (by simpa using h); simpa using this, fun h => by have := hF.out.o11 (by simpa using h); simpa using this, fun h => by have := hF.out.o18 (by simpa using h); simpa using this, fun h => hF.out.g0 (by simpa using h), fun h => hF.out.g1 (by simpa using h)⟩
      · intro d a W hI hd hdep
        obtain ⟨ga, o1, j1, q1, gb, o2, j2, q2, x71, x72, x73, x74, x75, x76, x77, x78, x79, x80, x81, x82, x83, x84, x85, x86, x87, x88, x89, rfl, hF⟩ := hI
        have hd1 : d 1 = true := dep_of hdep 1 (by kernel_rfl)
        have hd3 : d 3 = true := dep_of hdep 3 (by kernel_rfl)
        obtain rfl := hF.out.f1 hd1
        obtain rfl := hF.out.f3 hd3
        have HKP : Hid (Fm (fun k => k = w.heap.size + 1) w4 W) := hF.out.kp
        clear hdep hd hd1 hd3
        intro K hK
        simp only [Act.put, List.setIfInBounds_toArray, List.set_cons_zero, List.set_cons_succ]
        go_simp
        refine hK.out _ _ ⟨W.heap.size, o1, j1, q1, gb, o2, j2, q2, x71, (.slice fo fn fc), x73, (.slice go_ gn gc), (.slice (some ⟨W.heap.size, 0, none⟩) 2 2), x76, x77, x78, x79, x80, x81, x82, x83, x84, x85, x86, x87, x88, x89, by simp only [Act.put, List.setIfInBounds_toArray, List.set_cons_zero, List.set_cons_succ], ?_⟩
        have hba := below_alloc1 W (Obj.cells #[(.slice fo fn fc), (.slice go_ gn gc)] 23)
        have hcn := cell_new W [(.slice fo fn fc), (.slice go_ gn gc)] 23
        exact ⟨fun h => hF.out.f0 (by simpa using h), fun h => hF.out.f1 (by simpa using h), fun h => hF.out.f2 (by simpa using h), fun h => hF.out.f3 (by simpa using h), fun _ => rfl, fun h => hF.out.f5 (by simpa using h), fun h => hF.out.f6 (by simpa using h), fun h => hF.out.f7 (by simpa using h), fun h => hF.out.f8 (by simpa using h), fun h => hF.out.f9 (by simpa using h), fun h => hF.out.f10 (by simpa using h), fun h => hF.out.f11 (by simpa using h), fun h => hF.out.f12 (by simpa using h), fun h => hF.out.f13 (by simpa using h), fun h => hF.out.f14 (by simpa using h), fun h => hF.out.f15 (by simpa using h), fun h => hF.out.f16 (by simpa using h), fun h => hF.out.f17 (by simpa using h), fun h => hF.out.f18 (by simpa using h), fun h => hF.out.f19 (by simpa using h), HKP.out.trans (Fm.below (X := fun k => k = w.heap.size + 1) hba) (fun _ _ e => e), fun _ => ⟨(hcn 0), (hcn 1), by simp, HKP.out.size⟩, fun h => have z := hF.out.c10 (by simpa using h); ⟨(hba.cell (p := ⟨gb, 0, none⟩) z.2.2.1).trans z.1, (hba.cell (p := ⟨gb, 1, none⟩) z.2.2.1).trans z.2.1, Nat.lt_of_lt_of_le z.2.2.1 hba.size, z.2.2.2⟩, fun h => own_below (hF.out.r5 (by simpa using h)) hba, fun h => own_below (hF.out.r11 (by simpa using h)) hba, fun h => by have := hF.out.o5 (by simpa using h); simpa using this, fun h => by have := hF.out.o11 (by simpa using h); simpa using this, fun h => by have := hF.out.o18 (by simpa using h); simpa using this, fun h => have z := hF.out.g0 (by simpa using h); (hba.block _ ((Array.getElem?_eq_some_iff.1 z).1)).trans z, fun h => have z := hF.out.g1 (by simpa using h); (hba.block _ ((Array.getElem?_eq_some_iff.1 z).1)).trans z⟩
      · intro d a W hI hd hdep
        obtain ⟨ga, o1, j1, q1, gb, o2, j2, q2, x71, x72, x73, x74, x75, x76, x77, x78, x79, x80, x81, x82, x83, x84, x85, x86, x87, x88, x89, rfl, hF⟩ := hI
        have hd4 : d 4 = true := dep_of hdep 4 (by kernel_rfl)
        obtain rfl := hF.out.f4 hd4
        have HKP : Hid (Fm (fun k => k = w.heap.size + 1) w4 W) := hF.out.kp
        have hc4 := hF.out.c4 hd4
        have HN18 : Hid (d 18 = false) := no_later hF.out.o5 hd
        have HN19 : Hid (d 19 = false) := no_later hF.out.o18 HN18.out
        have hcl := concat_any ga 2 (.slice fo fn fc) (.slice go_ gn gc) e1.first e2.first W (HR4.out.1.1.i.keep HKP.out.size fun q hq he => HKP.out.blk q hq (fun e => by have := HFB.out.1 q he; omega)) (HR4.out.2.1.i.keep HKP.out.size fun q hq he => HKP.out.blk q hq (fun e => by have := HFB.out.2.2.1 q he; omega)) hc4.1 hc4.2.1 hc4.2.2.1 HLN.out.1
        have HCL : Hid (Calls Try.prog 86 #[.slice (some ⟨ga, 0, none⟩) 2 2] W fun e w' => ∃ o n c, e = .returned (.slice o n c) ∧ w'.ownsRow W.heap.size 3 1 (.slice o n c) (e1.first ++ e2.first).length ((e1.first ++ e2.first).map (Value.int .i64)) ∧ Below W.heap.size W w') := hcl
        clear hcl hc4
        clear hdep hd hd4
        intro K hK
        simp only [Act.put, List.setIfInBounds_toArray, List.set_cons_zero, List.set_cons_succ]
        go_simp
        refine HCL.out.mono ?_
        rintro _ W1 ⟨o12, j12, q12, rfl, hown, hbl⟩
        have HOW : Hid (W1.ownsRow W.heap.size 3 1 (.slice o12 j12 q12) _ _ ∧ Below W.heap.size W W1) := ⟨hown, hbl⟩
        clear hown hbl HCL
        go_simp
        refine hK.out _ _ ⟨ga, o12, j12, q12, gb, o2, j2, q2, x71, x72, x73, x74, (.slice (some ⟨ga, 0, none⟩) 2 2), (.slice o12 j12 q12), x77, x78, x79, x80, x81, x82, x83, x84, x85, x86, x87, x88, x89, by simp only [Act.put, List.setIfInBounds_toArray, List.set_cons_zero, List.set_cons_succ], ?_⟩
        exact ⟨fun h => hF.out.f0 (by simpa using h), fun h => hF.out.f1 (by simpa using h), fun h => hF.out.f2 (by simpa using h), fun h => hF.out.f3 (by simpa using h), fun h => hF.out.f4 (by simpa using h), fun _ => rfl, fun h => hF.out.f6 (by simpa using h), fun h => hF.out.f7 (by simpa using h), fun h => hF.out.f8 (by simpa using h), fun h => hF.out.f9 (by simpa using h), fun h => hF.out.f10 (by simpa using h), fun h => hF.out.f11 (by simpa using h), fun h => hF.out.f12 (by simpa using h), fun h => hF.out.f13 (by simpa using h), fun h => hF.out.f14 (by simpa using h), fun h => hF.out.f15 (by simpa using h), fun h => hF.out.f16 (by simpa using h), fun h => hF.out.f17 (by simpa using h), fun h => by have := HN18.out; simp [this] at h, fun h => hF.out.f19 (by simpa using h), HKP.out.trans (Fm.below (X := fun k => k = w.heap.size + 1) HOW.out.2) (fun _ _ e => e), fun h => have z := hF.out.c4 (by simpa using h); ⟨(HOW.out.2.cell (p := ⟨ga, 0, none⟩) z.2.2.1).trans z.1, (HOW.out.2.cell (p := ⟨ga, 1, none⟩) z.2.2.1).trans z.2.1, Nat.lt_of_lt_of_le z.2.2.1 HOW.out.2.size, z.2.2.2⟩, fun h => have z := hF.out.c10 (by simpa using h); ⟨(HOW.out.2.cell (p := ⟨gb, 0, none⟩) z.2.2.1).trans z.1, (HOW.out.2.cell (p := ⟨gb, 1, none⟩) z.2.2.1).trans z.2.1, Nat.lt_of_lt_of_le z.2.2.1 HOW.out.2.size, z.2.2.2⟩, fun _ => own_less HOW.out.1 HKP.out.size, fun h => own_below (hF.out.r11 (by simpa using h)) HOW.out.2, fun _ => by simp, fun h => by have := hF.out.o11 (by simpa using h); simpa using this, fun h => by have := hF.out.o18 (by simpa using h); simpa using this, fun h => have z := hF.out.g0 (by simpa using h); (HOW.out.2.block _ ((Array.getElem?_eq_some_iff.1 z).1)).trans z, fun h => by have := HN19.out; simp [this] at h⟩
      · intro d a W hI hd hdep
        obtain ⟨ga, o1, j1, q1, gb, o2, j2, q2, x71, x72, x73, x74, x75, x76, x77, x78, x79, x80, x81, x82, x83, x84, x85, x86, x87, x88, x89, rfl, hF⟩ := hI
        clear hdep hd
        intro K hK
        simp only [Act.put, List.setIfInBounds_toArray, List.set_cons_zero, List.set_cons_succ]
        go_simp
        refine hK.out _ _ ⟨ga, o1, j1, q1, gb, o2, j2, q2, x71, x72, x73, x74, x75, x76, (.pointer (some ⟨w1.heap.size, 1, none⟩)), x78, x79, x80, x81, x82, x83, x84, x85, x86, x87, x88, x89, by simp only [Act.put, List.setIfInBounds_toArray, List.set_cons_zero, List.set_cons_succ], ?_⟩
        exact ⟨fun h => hF.out.f0 (by simpa using h), fun h => hF.out.f1 (by simpa using h), fun h => hF.out.f2 (by simpa using h), fun h => hF.out.f3 (by simpa using h), fun h => hF.out.f4 (by simpa using h), fun h => hF.out.f5 (by simpa using h), fun _ => rfl, fun h => hF.out.f7 (by simpa using h), fun h => hF.out.f8 (by simpa using h), fun h => hF.out.f9 (by simpa using h), fun h => hF.out.f10 (by simpa using h), fun h => hF.out.f11 (by simpa using h), fun h => hF.out.f12 (by simpa using h), fun h => hF.out.f13 (by simpa using h), fun h => hF.out.f14 (by simpa using h), fun h => hF.out.f15 (by simpa using h), fun h => hF.out.f16 (by simpa using h), fun h => hF.out.f17 (by simpa using h), fun h => hF.out.f18 (by simpa using h), fun h => hF.out.f19 (by simpa using h), hF.out.kp, fun h => hF.out.c4 (by simpa using h), fun h => hF.out.c10 (by simpa using h), fun h => hF.out.r5 (by simpa using h), fun h => hF.out.r11 (by simpa using h), fun h => by have := hF.out.o5 (by simpa using h); simpa using this, fun h => by have := hF.out.o11 (by simpa using h); simpa using this, fun h => by have := hF.out.o18 (by simpa using h); simpa using this, fun h => hF.out.g0 (by simpa using h), fun h => hF.out.g1 (by simpa using h)⟩
      · intro d a W hI hd hdep
        obtain ⟨ga, o1, j1, q1, gb, o2, j2, q2, x71, x72, x73, x74, x75, x76, x77, x78, x79, x80, x81, x82, x83, x84, x85, x86, x87, x88, x89, rfl, hF⟩ := hI
        have hd6 : d 6 = true := dep_of hdep 6 (by kernel_rfl)
        obtain rfl := hF.out.f6 hd6
        have HKP : Hid (Fm (fun k => k = w.heap.size + 1) w4 W) := hF.out.kp
        have a0 := ((cells3 ((HKP.out.blk _ ((Array.getElem?_eq_some_iff.1 HBXX.out.1).1) HBXX.out.2).trans HBXX.out.1))).2.1
        clear hdep hd hd6
        intro K hK
        simp only [Act.put, List.setIfInBounds_toArray, List.set_cons_zero, List.set_cons_succ]
        go_simp
        refine hK.out _ _ ⟨ga, o1, j1, q1, gb, o2, j2, q2, x71, x72, x73, x74, x75, x76, (.pointer (some ⟨w1.heap.size, 1, none⟩)), (.slice lo ln lc), x79, x80, x81, x82, x83, x84, x85, x86, x87, x88, x89, by simp only [Act.put, List.setIfInBounds_toArray, List.set_cons_zero, List.set_cons_succ], ?_⟩
        exact ⟨fun h => hF.out.f0 (by simpa using h), fun h => hF.out.f1 (by simpa using h), fun h => hF.out.f2 (by simpa using h), fun h => hF.out.f3 (by simpa using h), fun h => hF.out.f4 (by simpa using h), fun h => hF.out.f5 (by simpa using h), fun h => hF.out.f6 (by simpa using h), fun _ => rfl, fun h => hF.out.f8 (by simpa using h), fun h => hF.out.f9 (by simpa using h), fun h => hF.out.f10 (by simpa using h), fun h => hF.out.f11 (by simpa using h), fun h => hF.out.f12 (by simpa using h), fun h => hF.out.f13 (by simpa using h), fun h => hF.out.f14 (by simpa using h), fun h => hF.out.f15 (by simpa using h), fun h => hF.out.f16 (by simpa using h), fun h => hF.out.f17 (by simpa using h), fun h => hF.out.f18 (by simpa using h), fun h => hF.out.f19 (by simpa using h), hF.out.kp, fun h => hF.out.c4 (by simpa using h), fun h => hF.out.c10 (by simpa using h), fun h => hF.out.r5 (by simpa using h), fun h => hF.out.r11 (by simpa using h), fun h => by have := hF.out.o5 (by simpa using h); simpa using this, fun h => by have := hF.out.o11 (by simpa using h); simpa using this, fun h => by have := hF.out.o18 (by simpa using h); simpa using this, fun h => hF.out.g0 (by simpa using h), fun h => hF.out.g1 (by simpa using h)⟩
      · intro d a W hI hd hdep
        obtain ⟨ga, o1, j1, q1, gb, o2, j2, q2, x71, x72, x73, x74, x75, x76, x77, x78, x79, x80, x81, x82, x83, x84, x85, x86, x87, x88, x89, rfl, hF⟩ := hI
        clear hdep hd
        intro K hK
        simp only [Act.put, List.setIfInBounds_toArray, List.set_cons_zero, List.set_cons_succ]
        go_simp
        refine hK.out _ _ ⟨ga, o1, j1, q1, gb, o2, j2, q2, x71, x72, x73, x74, x75, x76, x77, x78, (.pointer (some ⟨w3.heap.size, 1, none⟩)), x80, x81, x82, x83, x84, x85, x86, x87, x88, x89, by simp only [Act.put, List.setIfInBounds_toArray, List.set_cons_zero, List.set_cons_succ], ?_⟩
        exact ⟨fun h => hF.out.f0 (by simpa using h), fun h => hF.out.f1 (by simpa using h), fun h => hF.out.f2 (by simpa using h), fun h => hF.out.f3 (by simpa using h), fun h => hF.out.f4 (by simpa using h), fun h => hF.out.f5 (by simpa using h), fun h => hF.out.f6 (by simpa using h), fun h => hF.out.f7 (by simpa using h), fun _ => rfl, fun h => hF.out.f9 (by simpa using h), fun h => hF.out.f10 (by simpa using h), fun h => hF.out.f11 (by simpa using h), fun h => hF.out.f12 (by simpa using h), fun h => hF.out.f13 (by simpa using h), fun h => hF.out.f14 (by simpa using h), fun h => hF.out.f15 (by simpa using h), fun h => hF.out.f16 (by simpa using h), fun h => hF.out.f17 (by simpa using h), fun h => hF.out.f18 (by simpa using h), fun h => hF.out.f19 (by simpa using h), hF.out.kp, fun h => hF.out.c4 (by simpa using h), fun h => hF.out.c10 (by simpa using h), fun h => hF.out.r5 (by simpa using h), fun h => hF.out.r11 (by simpa using h), fun h => by have := hF.out.o5 (by simpa using h); simpa using this, fun h => by have := hF.out.o11 (by simpa using h); simpa using this, fun h => by have := hF.out.o18 (by simpa using h); simpa using this, fun h => hF.out.g0 (by simpa using h), fun h => hF.out.g1 (by simpa using h)⟩
      · intro d a W hI hd hdep
        obtain ⟨ga, o1, j1, q1, gb, o2, j2, q2, x71, x72, x73, x74, x75, x76, x77, x78, x79, x80, x81, x82, x83, x84, x85, x86, x87, x88, x89, rfl, hF⟩ := hI
        have hd8 : d 8 = true := dep_of hdep 8 (by kernel_rfl)
        obtain rfl := hF.out.f8 hd8
        have HKP : Hid (Fm (fun k => k = w.heap.size + 1) w4 W) := hF.out.kp
        have a0 := ((cells3 ((HKP.out.blk _ ((Array.getElem?_eq_some_iff.1 HBYY.out.1).1) HBYY.out.2).trans HBYY.out.1))).2.1
        clear hdep hd hd8
        intro K hK
        simp only [Act.put, List.setIfInBounds_toArray, List.set_cons_zero, List.set_cons_succ]
        go_simp
        refine hK.out _ _ ⟨ga, o1, j1, q1, gb, o2, j2, q2, x71, x72, x73, x74, x75, x76, x77, x78, (.pointer (some ⟨w3.heap.size, 1, none⟩)), (.slice ho_ hn hc), x81, x82, x83, x84, x85, x86, x87, x88, x89, by simp only [Act.put, List.setIfInBounds_toArray, List.set_cons_zero, List.set_cons_succ], ?_⟩
        exact ⟨fun h => hF.out.f0 (by simpa using h), fun h => hF.out.f1 (by simpa using h), fun h => hF.out.f2 (by simpa using h), fun h => hF.out.f3 (by simpa using h), fun h => hF.out.f4 (by simpa using h), fun h => hF.out.f5 (by simpa using h), fun h => hF.out.f6 (by simpa using h), fun h => hF.out.f7 (by simpa using h), fun h => hF.out.f8 (by simpa using h), fun _ => rfl, fun h => hF.out.f10 (by simpa using h), fun h => hF.out.f11 (by simpa using h), fun h => hF.out.f12 (by simpa using h), fun h => hF.out.f13 (by simpa using h), fun h => hF.out.f14 (by simpa using h), fun h => hF.out.f15 (by simpa using h), fun h => hF.out.f16 (by simpa using h), fun h => hF.out.f17 (by simpa using h), fun h => hF.out.f18 (by simpa using h), fun h => hF.out.f19 (by simpa using h), hF.out.kp, fun h => hF.out.c4 (by simpa using h), fun h => hF.out.c10 (by simpa using h), fun h => hF.out.r5 (by simpa using h), fun h => hF.out.r11 (by simpa using h), fun h => by have := hF.out.o5 (by simpa using h); simpa using this, fun h => by have := hF.out.o11 (by simpa using h); simpa using this, fun h => by have := hF.out.o18 (by simpa using h); simpa using this, fun h => hF.out.g0 (by simpa using h), fun h => hF.out.g1 (by simpa using h)⟩
      · intro d a W hI hd hdep
        obtain ⟨ga, o1, j1, q1, gb, o2, j2, q2, x71, x72, x73, x74, x75, x76, x77, x78, x79, x80, x81, x82, x83, x84, x85, x86, x87, x88, x89, rfl, hF⟩ := hI
        have hd7 : d 7 = true := dep_of hdep 7 (by kernel_rfl)
        have hd9 : d 9 = true := dep_of hdep 9 (by kernel_rfl)
        obtain rfl := hF.out.f7 hd7
        obtain rfl := hF.out.f9 hd9
        have HKP : Hid (Fm (fun k => k = w.heap.size + 1) w4 W) := hF.out.kp
        clear hdep hd hd7 hd9
        intro K hK
        simp only [Act.put, List.setIfInBounds_toArray, List.set_cons_zero, List.set_cons_succ]
        go_simp
        refine hK.out _ _ ⟨ga, o1, j1, q1, W.heap.size, o2, j2, q2, x71, x72, x73, x74, x75, x76, x77, (.slice lo ln lc), x79, (.slice ho_ hn hc), (.slice (some ⟨W.heap.size, 0, none⟩) 2 2), x82, x83, x84, x85, x86, x87, x88, x89, by simp only [Act.put, List.setIfInBounds_toArray, List.set_cons_zero, List.set_cons_succ], ?_⟩
        have hba := below_alloc1 W (Obj.cells #[(.slice lo ln lc), (.slice ho_ hn hc)] 23)
        have hcn := cell_new W [(.slice lo ln lc), (.slice ho_ hn hc)] 23
        exact ⟨fun h => hF.out.f0 (by simpa using h), fun h => hF.out.f1 (by simpa using h), fun h => hF.out.f2 (by simpa using h), fun h => hF.out.f3 (by simpa using h), fun h => hF.out.f4 (by simpa using h), fun h => hF.out.f5 (by simpa using h), fun h => hF.out.f6 (by simpa using h), fun h => hF.out.f7 (by simpa using h), fun h => hF.out.f8 (by simpa using h), fun h => hF.out.f9 (by simpa using h), fun _ => rfl, fun h => hF.out.f11 (by simpa using h), fun h => hF.out.f12 (by simpa using h), fun h => hF.out.f13 (by simpa using h), fun h => hF.out.f14 (by simpa using h), fun h => hF.out.f15 (by simpa using h), fun h => hF.out.f16 (by simpa using h), fun h => hF.out.f17 (by simpa using h), fun h => hF.out.f18 (by simpa using h), fun h => hF.out.f19 (by simpa using h), HKP.out.trans (Fm.below (X := fun k => k = w.heap.size + 1) hba) (fun _ _ e => e), fun h => have z := hF.out.c4 (by simpa using h); ⟨(hba.cell (p := ⟨ga, 0, none⟩) z.2.2.1).trans z.1, (hba.cell (p := ⟨ga, 1, none⟩) z.2.2.1).trans z.2.1, Nat.lt_of_lt_of_le z.2.2.1 hba.size, z.2.2.2⟩, fun _ => ⟨(hcn 0), (hcn 1), by simp, HKP.out.size⟩, fun h => own_below (hF.out.r5 (by simpa using h)) hba, fun h => own_below (hF.out.r11 (by simpa using h)) hba, fun h => by have := hF.out.o5 (by simpa using h); simpa using this, fun h => by have := hF.out.o11 (by simpa using h); simpa using this, fun h => by have := hF.out.o18 (by simpa using h); simpa using this, fun h => have z := hF.out.g0 (by simpa using h); (hba.block _ ((Array.getElem?_eq_some_iff.1 z).1)).trans z, fun h => have z := hF.out.g1 (by simpa using h); (hba.block _ ((Array.getElem?_eq_some_iff.1 z).1)).trans z⟩
      · intro d a W hI hd hdep
        obtain ⟨ga, o1, j1, q1, gb, o2, j2, q2, x71, x72, x73, x74, x75, x76, x77, x78, x79, x80, x81, x82, x83, x84, x85, x86, x87, x88, x89, rfl, hF⟩ := hI
        have hd10 : d 10 = true := dep_of hdep 10 (by kernel_rfl)
        obtain rfl := hF.out.f10 hd10
        have HKP : Hid (Fm (fun k => k = w.heap.size + 1) w4 W) := hF.out.kp
        have hc4 := hF.out.c10 hd10
        have HN18 : Hid (d 18 = false) := no_later hF.out.o11 hd
        have HN19 : Hid (d 19 = false) := no_later hF.out.o18 HN18.out
        have hcl := concat_any gb 2 (.slice lo ln lc) (.slice ho_ hn hc) e1.last e2.last W (HR4.out.1.2.i.keep HKP.out.size fun q hq he => HKP.out.blk q hq (fun e => by have := HFB.out.2.1 q he; omega)) (HR4.out.2.2.i.keep HKP.out.size fun q hq he => HKP.out.blk q hq (fun e => by have := HFB.out.2.2.2 q he; omega)) hc4.1 hc4.2.1 hc4.2.2.1 HLN.out.2
        have HCL : Hid (Calls Try.prog 86 #[.slice (some ⟨gb, 0, none⟩) 2 2] W fun e w' => ∃ o n c, e = .returned (.slice o n c) ∧ w'.ownsRow W.heap.size 3 1 (.slice o n c) (e1.last ++ e2.last).length ((e1.last ++ e2.last).map (Value.int .i64)) ∧ Below W.heap.size W w') := hcl
        clear hcl hc4
        clear hdep hd hd10
        intro K hK
        simp only [Act.put, List.setIfInBounds_toArray, List.set_cons_zero, List.set_cons_succ]
        go_simp
        refine HCL.out.mono ?_
        rintro _ W1 ⟨o22, j22, q22, rfl, hown, hbl⟩
        have HOW : Hid (W1.ownsRow W.heap.size 3 1 (.slice o22 j22 q22) _ _ ∧ Below W.heap.size W W1) := ⟨hown, hbl⟩
        clear hown hbl HCL
        go_simp
        refine hK.out _ _ ⟨ga, o1, j1, q1, gb, o22, j22, q22, x71, x72, x73, x74, x75, x76, x77, x78, x79, x80, (.slice (some ⟨gb, 0, none⟩) 2 2), (.slice o22 j22 q22), x83, x84, x85, x86, x87, x88, x89, by simp only [Act.put, List.setIfInBounds_toArray, List.set_cons_zero, List.set_cons_succ], ?_⟩
        exact ⟨fun h => hF.out.f0 (by simpa using h), fun h => hF.out.f1 (by simpa using h), fun h => hF.out.f2 (by simpa using h), fun h => hF.out.f3 (by simpa using h), fun h => hF.out.f4 (by simpa using h), fun h => hF.out.f5 (by simpa using h), fun h => hF.out.f6 (by simpa using h), fun h => hF.out.f7 (by simpa using h), fun h => hF.out.f8 (by simpa using h), fun h => hF.out.f9 (by simpa using h), fun h => hF.out.f10 (by simpa using h), fun _ => rfl, fun h => hF.out.f12 (by simpa using h), fun h => hF.out.f13 (by simpa using h), fun h => hF.out.f14 (by simpa using h), fun h => hF.out.f15 (by simpa using h), fun h => hF.out.f16 (by simpa using h), fun h => hF.out.f17 (by simpa using h), fun h => by have := HN18.out; simp [this] at h, fun h => hF.out.f19 (by simpa using h), HKP.out.trans (Fm.below (X := fun k => k = w.heap.size + 1) HOW.out.2) (fun _ _ e => e), fun h => have z := hF.out.c4 (by simpa using h); ⟨(HOW.out.2.cell (p := ⟨ga, 0, none⟩) z.2.2.1).trans z.1, (HOW.out.2.cell (p := ⟨ga, 1, none⟩) z.2.2.1).trans z.2.1, Nat.lt_of_lt_of_le z.2.2.1 HOW.out.2.size, z.2.2.2⟩, fun h => have z := hF.out.c10 (by simpa using h); ⟨(HOW.out.2.cell (p := ⟨gb, 0, none⟩) z.2.2.1).trans z.1, (HOW.out.2.cell (p := ⟨gb, 1, none⟩) z.2.2.1).trans z.2.1, Nat.lt_of_lt_of_le z.2.2.1 HOW.out.2.size, z.2.2.2⟩, fun h => own_below (hF.out.r5 (by simpa using h)) HOW.out.2, fun _ => own_less HOW.out.1 HKP.out.size, fun h => by have := hF.out.o5 (by simpa using h); simpa using this, fun _ => by simp, fun h => by have := hF.out.o18 (by simpa using h); simpa using this, fun h => have z := hF.out.g0 (by simpa using h); (HOW.out.2.block _ ((Array.getElem?_eq_some_iff.1 z).1)).trans z, fun h => by have := HN19.out; simp [this] at h⟩
      · intro d a W hI hd hdep
        obtain ⟨ga, o1, j1, q1, gb, o2, j2, q2, x71, x72, x73, x74, x75, x76, x77, x78, x79, x80, x81, x82, x83, x84, x85, x86, x87, x88, x89, rfl, hF⟩ := hI
        clear hdep hd
        intro K hK
        simp only [Act.put, List.setIfInBounds_toArray, List.set_cons_zero, List.set_cons_succ]
        go_simp
        refine hK.out _ _ ⟨ga, o1, j1, q1, gb, o2, j2, q2, x71, x72, x73, x74, x75, x76, x77, x78, x79, x80, x81, x82, (.pointer (some ⟨w1.heap.size, 2, none⟩)), x84, x85, x86, x87, x88, x89, by simp only [Act.put, List.setIfInBounds_toArray, List.set_cons_zero, List.set_cons_succ], ?_⟩
        exact ⟨fun h => hF.out.f0 (by simpa using h), fun h => hF.out.f1 (by simpa using h), fun h => hF.out.f2 (by simpa using h), fun h => hF.out.f3 (by simpa using h), fun h => hF.out.f4 (by simpa using h), fun h => hF.out.f5 (by simpa using h), fun h => hF.out.f6 (by simpa using h), fun h => hF.out.f7 (by simpa using h), fun h => hF.out.f8 (by simpa using h), fun h => hF.out.f9 (by simpa using h), fun h => hF.out.f10 (by simpa using h), fun h => hF.out.f11 (by simpa using h), fun _ => rfl, fun h => hF.out.f13 (by simpa using h), fun h => hF.out.f14 (by simpa using h), fun h => hF.out.f15 (by simpa using h), fun h => hF.out.f16 (by simpa using h), fun h => hF.out.f17 (by simpa using h), fun h => hF.out.f18 (by simpa using h), fun h => hF.out.f19 (by simpa using h), hF.out.kp, fun h => hF.out.c4 (by simpa using h), fun h => hF.out.c10 (by simpa using h), fun h => hF.out.r5 (by simpa using h), fun h => hF.out.r11 (by simpa using h), fun h => by have := hF.out.o5 (by simpa using h); simpa using this, fun h => by have := hF.out.o11 (by simpa using h); simpa using this, fun h => by have := hF.out.o18 (by simpa using h); simpa using this, fun h => hF.out.g0 (by simpa using h), fun h => hF.out.g1 (by simpa using h)⟩
      · intro d a W hI hd hdep
        obtain ⟨ga, o1, j1, q1, gb, o2, j2, q2, x71, x72, x73, x74, x75, x76, x77, x78, x79, x80, x81, x82, x83, x84, x85, x86, x87, x88, x89, rfl, hF⟩ := hI
        have hd12 : d 12 = true := dep_of hdep 12 (by kernel_rfl)
        obtain rfl := hF.out.f12 hd12
        have HKP : Hid (Fm (fun k => k = w.heap.size + 1) w4 W) := hF.out.kp
        have a0 := ((cells3 ((HKP.out.blk _ ((Array.getElem?_eq_some_iff.1 HBXX.out.1).1) HBXX.out.2).trans HBXX.out.1))).2.2.1
        clear hdep hd hd12
        intro K hK
        simp only [Act.put, List.setIfInBounds_toArray, List.set_cons_zero, List.set_cons_succ]
        go_simp
        refine hK.out _ _ ⟨ga, o1, j1, q1, gb, o2, j2, q2, x71, x72, x73, x74, x75, x76, x77, x78, x79, x80, x81, x82, (.pointer (some ⟨w1.heap.size, 2, none⟩)), (.bool true), x85, x86, x87, x88, x89, by simp only [Act.put, List.setIfInBounds_toArray, List.set_cons_zero, List.set_cons_succ], ?_⟩
        exact ⟨fun h => hF.out.f0 (by simpa using h), fun h => hF.out.f1 (by simpa using h), fun h => hF.out.f2 (by simpa using h), fun h => hF.out.f3 (by simpa using h), fun h => hF.out.f4 (by simpa using h), fun h => hF.out.f5 (by simpa using h), fun h => hF.out.f6 (by simpa using h), fun h => hF.out.f7 (by simpa using h), fun h => hF.out.f8 (by simpa using h), fun h => hF.out.f9 (by simpa using h), fun h => hF.out.f10 (by simpa using h), fun h => hF.out.f11 (by simpa using h), fun h => hF.out.f12 (by simpa using h), fun _ => rfl, fun h => hF.out.f14 (by simpa using h), fun h => hF.out.f15 (by simpa using h), fun h => hF.out.f16 (by simpa using h), fun h => hF.out.f17 (by simpa using h), fun h => hF.out.f18 (by simpa using h), fun h => hF.out.f19 (by simpa using h), hF.out.kp, fun h => hF.out.c4 (by simpa using h), fun h => hF.out.c10 (by simpa using h), fun h => hF.out.r5 (by simpa using h), fun h => hF.out.r11 (by simpa using h), fun h => by have := hF.out.o5 (by simpa using h); simpa using this, fun h => by have := hF.out.o11 (by simpa using h); simpa using this, fun h => by have := hF.out.o18 (by simpa using h); simpa using this, fun h => hF.out.g0 (by simpa using h), fun h => hF.out.g1 (by simpa using h)⟩
      · intro d a W hI hd hdep
        obtain ⟨ga, o1, j1, q1, gb, o2, j2, q2, x71, x72, x73, x74, x75, x76, x77, x78, x79, x80, x81, x82, x83, x84, x85, x86, x87, x88, x89, rfl, hF⟩ := hI
        have hd13 : d 13 = true := dep_of hdep 13 (by kernel_rfl)
        obtain rfl := hF.out.f13 hd13
        clear hdep hd hd13
        intro K hK
        simp only [Act.put, List.setIfInBounds_toArray, List.set_cons_zero, List.set_cons_succ]
        go_simp
        refine hK.out _ _ ⟨ga, o1, j1, q1, gb, o2, j2, q2, x71, x72, x73, x74, x75, x76, x77, x78, x79, x80, x81, x82, x83, (.bool true), (.bool true), x86, x87, x88, x89, by simp only [Act.put, List.setIfInBounds_toArray, List.set_cons_zero, List.set_cons_succ], ?_⟩
        exact ⟨fun h => hF.out.f0 (by simpa using h), fun h => hF.out.f1 (by simpa using h), fun h => hF.out.f2 (by simpa using h), fun h => hF.out.f3 (by simpa using h), fun h => hF.out.f4 (by simpa using h), fun h => hF.out.f5 (by simpa using h), fun h => hF.out.f6 (by simpa using h), fun h => hF.out.f7 (by simpa using h), fun h => hF.out.f8 (by simpa using h), fun h => hF.out.f9 (by simpa using h), fun h => hF.out.f10 (by simpa using h), fun h => hF.out.f11 (by simpa using h), fun h => hF.out.f12 (by simpa using h), fun h => hF.out.f13 (by simpa using h), fun _ => rfl, fun h => hF.out.f15 (by simpa using h), fun h => hF.out.f16 (by simpa using h), fun h => hF.out.f17 (by simpa using h), fun h => hF.out.f18 (by simpa using h), fun h => hF.out.f19 (by simpa using h), hF.out.kp, fun h => hF.out.c4 (by simpa using h), fun h => hF.out.c10 (by simpa using h), fun h => hF.out.r5 (by simpa using h), fun h => hF.out.r11 (by simpa using h), fun h => by have := hF.out.o5 (by simpa using h); simpa using this, fun h => by have := hF.out.o11 (by simpa using h); simpa using this, fun h => by have := hF.out.o18 (by simpa using h); simpa using this, fun h => hF.out.g0 (by simpa using h), fun h => hF.out.g1 (by simpa using h)⟩
      · intro d a W hI hd hdep
        obtain ⟨ga, o1, j1, q1, gb, o2, j2, q2, x71, x72, x73, x74, x75, x76, x77, x78, x79, x80, x81, x82, x83, x84, x85, x86, x87, x88, x89, rfl, hF⟩ := hI
        have hd14 : d 14 = true := dep_of hdep 14 (by kernel_rfl)
        obtain rfl := hF.out.f14 hd14
        clear hdep hd hd14
        intro K hK
        simp only [Act.put, List.setIfInBounds_toArray, List.set_cons_zero, List.set_cons_succ]
        go_simp
        refine hK.out _ _ ⟨ga, o1, j1, q1, gb, o2, j2, q2, x71, x72, x73, x74, x75, x76, x77, x78, x79, x80, x81, x82, x83, x84, (.bool true), undef, x87, x88, x89, by simp only [Act.put, List.setIfInBounds_toArray, List.set_cons_zero, List.set_cons_succ], ?_⟩
        exact ⟨fun h => hF.out.f0 (by simpa using h), fun h => hF.out.f1 (by simpa using h), fun h => hF.out.f2 (by simpa using h), fun h => hF.out.f3 (by simpa using h), fun h => hF.out.f4 (by simpa using h), fun h => hF.out.f5 (by simpa using h), fun h => hF.out.f6 (by simpa using h), fun h => hF.out.f7 (by simpa using h), fun h => hF.out.f8 (by simpa using h), fun h => hF.out.f9 (by simpa using h), fun h => hF.out.f10 (by simpa using h), fun h => hF.out.f11 (by simpa using h), fun h => hF.out.f12 (by simpa using h), fun h => hF.out.f13 (by simpa using h), fun h => hF.out.f14 (by simpa using h), fun _ => rfl, fun h => hF.out.f16 (by simpa using h), fun h => hF.out.f17 (by simpa using h), fun h => hF.out.f18 (by simpa using h), fun h => hF.out.f19 (by simpa using h), hF.out.kp, fun h => hF.out.c4 (by simpa using h), fun h => hF.out.c10 (by simpa using h), fun h => hF.out.r5 (by simpa using h), fun h => hF.out.r11 (by simpa using h), fun h => by have := hF.out.o5 (by simpa using h); simpa using this, fun h => by have := hF.out.o11 (by simpa using h); simpa using this, fun h => by have := hF.out.o18 (by simpa using h); simpa using this, fun h => hF.out.g0 (by simpa using h), fun h => hF.out.g1 (by simpa using h)⟩
      · intro d a W hI hd hdep
        obtain ⟨ga, o1, j1, q1, gb, o2, j2, q2, x71, x72, x73, x74, x75, x76, x77, x78, x79, x80, x81, x82, x83, x84, x85, x86, x87, x88, x89, rfl, hF⟩ := hI
        have hd14 : d 14 = true := dep_of hdep 14 (by kernel_rfl)
        have hd15 : d 15 = true := dep_of hdep 15 (by kernel_rfl)
        obtain rfl := hF.out.f14 hd14
        obtain rfl := hF.out.f15 hd15
        clear hdep hd hd14 hd15
        intro K hK
        simp only [Act.put, List.setIfInBounds_toArray, List.set_cons_zero, List.set_cons_succ]
        go_simp
        refine hK.out _ _ ⟨ga, o1, j1, q1, gb, o2, j2, q2, x71, x72, x73, x74, x75, x76, x77, x78, x79, x80, x81, x82, x83, x84, (.bool true), undef, undef, x88, x89, by simp only [Act.put, List.setIfInBounds_toArray, List.set_cons_zero, List.set_cons_succ], ?_⟩
        exact ⟨fun h => hF.out.f0 (by simpa using h), fun h => hF.out.f1 (by simpa using h), fun h => hF.out.f2 (by simpa using h), fun h => hF.out.f3 (by simpa using h), fun h => hF.out.f4 (by simpa using h), fun h => hF.out.f5 (by simpa using h), fun h => hF.out.f6 (by simpa using h), fun h => hF.out.f7 (by simpa using h), fun h => hF.out.f8 (by simpa using h), fun h => hF.out.f9 (by simpa using h), fun h => hF.out.f10 (by simpa using h), fun h => hF.out.f11 (by simpa using h), fun h => hF.out.f12 (by simpa using h), fun h => hF.out.f13 (by simpa using h), fun h => hF.out.f14 (by simpa using h), fun h => hF.out.f15 (by simpa using h), fun _ => rfl, fun h => hF.out.f17 (by simpa using h), fun h => hF.out.f18 (by simpa using h), fun h => hF.out.f19 (by simpa using h), hF.out.kp, fun h => hF.out.c4 (by simpa using h), fun h => hF.out.c10 (by simpa using h), fun h => hF.out.r5 (by simpa using h), fun h => hF.out.r11 (by simpa using h), fun h => by have := hF.out.o5 (by simpa using h); simpa using this, fun h => by have := hF.out.o11 (by simpa using h); simpa using this, fun h => by have := hF.out.o18 (by simpa using h); simpa using this, fun h => hF.out.g0 (by simpa using h), fun h => hF.out.g1 (by simpa using h)⟩
      · intro d a W hI hd hdep
        obtain ⟨ga, o1, j1, q1, gb, o2, j2, q2, x71, x72, x73, x74, x75, x76, x77, x78, x79, x80, x81, x82, x83, x84, x85, x86, x87, x88, x89, rfl, hF⟩ := hI
        have hd14 : d 14 = true := dep_of hdep 14 (by kernel_rfl)
        have hd16 : d 16 = true := dep_of hdep 16 (by kernel_rfl)
        obtain rfl := hF.out.f14 hd14
        obtain rfl := hF.out.f16 hd16
        clear hdep hd hd14 hd16
        intro K hK
        simp only [Act.put, List.setIfInBounds_toArray, List.set_cons_zero, List.set_cons_succ]
        go_simp
        refine hK.out _ _ ⟨ga, o1, j1, q1, gb, o2, j2, q2, x71, x72, x73, x74, x75, x76, x77, x78, x79, x80, x81, x82, x83, x84, (.bool true), x86, undef, (.bool true), x89, by simp only [Act.put, List.setIfInBounds_toArray, List.set_cons_zero, List.set_cons_succ], ?_⟩
        exact ⟨fun h => hF.out.f0 (by simpa using h), fun h => hF.out.f1 (by simpa using h), fun h => hF.out.f2 (by simpa using h), fun h => hF.out.f3 (by simpa using h), fun h => hF.out.f4 (by simpa using h), fun h => hF.out.f5 (by simpa using h), fun h => hF.out.f6 (by simpa using h), fun h => hF.out.f7 (by simpa using h), fun h => hF.out.f8 (by simpa using h), fun h => hF.out.f9 (by simpa using h), fun h => hF.out.f10 (by simpa using h), fun h => hF.out.f11 (by simpa using h), fun h => hF.out.f12 (by simpa using h), fun h => hF.out.f13 (by simpa using h), fun h => hF.out.f14 (by simpa using h), fun h => hF.out.f15 (by simpa using h), fun h => hF.out.f16 (by simpa using h), fun _ => rfl, fun h => hF.out.f18 (by simpa using h), fun h => hF.out.f19 (by simpa using h), hF.out.kp, fun h => hF.out.c4 (by simpa using h), fun h => hF.out.c10 (by simpa using h), fun h => hF.out.r5 (by simpa using h), fun h => hF.out.r11 (by simpa using h), fun h => by have := hF.out.o5 (by simpa using h); simpa using this, fun h => by have := hF.out.o11 (by simpa using h); simpa using this, fun h => by have := hF.out.o18 (by simpa using h); simpa using this, fun h => hF.out.g0 (by simpa using h), fun h => hF.out.g1 (by simpa using h)⟩
      · intro d a W hI hd hdep
        obtain ⟨ga, o1, j1, q1, gb, o2, j2, q2, x71, x72, x73, x74, x75, x76, x77, x78, x79, x80, x81, x82, x83, x84, x85, x86, x87, x88, x89, rfl, hF⟩ := hI
        have hd5 : d 5 = true := dep_of hdep 5 (by kernel_rfl)
        have hd11 : d 11 = true := dep_of hdep 11 (by kernel_rfl)
        have hd17 : d 17 = true := dep_of hdep 17 (by kernel_rfl)
        obtain rfl := hF.out.f5 hd5
        obtain rfl := hF.out.f11 hd11
        obtain rfl := hF.out.f17 hd17
        have e5 := hd5
        have e11 := hd11
        clear hdep hd hd5 hd11 hd17
        intro K hK
        simp only [Act.put, List.setIfInBounds_toArray, List.set_cons_zero, List.set_cons_succ]
        go_simp
        refine hK.out _ _ ⟨ga, o1, j1, q1, gb, o2, j2, q2, x71, x72, x73, x74, x75, (.slice o1 j1 q1), x77, x78, x79, x80, x81, (.slice o2 j2 q2), x83, x84, x85, x86, x87, (.bool true), (.agg #[(.slice o1 j1 q1), (.slice o2 j2 q2), (.bool true)]), by simp only [Act.put, List.setIfInBounds_toArray, List.set_cons_zero, List.set_cons_succ], ?_⟩
        exact ⟨fun h => hF.out.f0 (by simpa using h), fun h => hF.out.f1 (by simpa using h), fun h => hF.out.f2 (by simpa using h), fun h => hF.out.f3 (by simpa using h), fun h => hF.out.f4 (by simpa using h), fun h => hF.out.f5 (by simpa using h), fun h => hF.out.f6 (by simpa using h), fun h => hF.out.f7 (by simpa using h), fun h => hF.out.f8 (by simpa using h), fun h => hF.out.f9 (by simpa using h), fun h => hF.out.f10 (by simpa using h), fun h => hF.out.f11 (by simpa using h), fun h => hF.out.f12 (by simpa using h), fun h => hF.out.f13 (by simpa using h), fun h => hF.out.f14 (by simpa using h), fun h => hF.out.f15 (by simpa using h), fun h => hF.out.f16 (by simpa using h), fun h => hF.out.f17 (by simpa using h), fun _ => rfl, fun h => hF.out.f19 (by simpa using h), hF.out.kp, fun h => hF.out.c4 (by simpa using h), fun h => hF.out.c10 (by simpa using h), fun h => hF.out.r5 (by simpa using h), fun h => hF.out.r11 (by simpa using h), fun _ => by simpa using e5, fun _ => by simpa using e11, fun _ => by simp, fun h => hF.out.g0 (by simpa using h), fun h => hF.out.g1 (by simpa using h)⟩
      · intro d a W hI hd hdep
        obtain ⟨ga, o1, j1, q1, gb, o2, j2, q2, x71, x72, x73, x74, x75, x76, x77, x78, x79, x80, x81, x82, x83, x84, x85, x86, x87, x88, x89, rfl, hF⟩ := hI
        have hd18 : d 18 = true := dep_of hdep 18 (by kernel_rfl)
        obtain rfl := hF.out.f18 hd18
        have HKP : Hid (Fm (fun k => k = w.heap.size + 1) w4 W) := hF.out.kp
        have e18 := hd18
        have HG0 : Hid (W.heap[w.heap.size + 1]? = some (.cells #[.slice none 0 0, .slice none 0 0, .bool false] 137)) := hF.out.g0 hd
        have zz := cells3 HG0.out
        obtain ⟨z0, z1, z2, zf⟩ := zz
        clear hdep hd hd18
        intro K hK
        simp only [Act.put, List.setIfInBounds_toArray, List.set_cons_zero, List.set_cons_succ]
        go_simp
        refine hK.out _ _ ⟨ga, o1, j1, q1, gb, o2, j2, q2, x71, x72, x73, x74, x75, x76, x77, x78, x79, x80, x81, x82, x83, x84, x85, x86, x87, x88, (.agg #[(.slice o1 j1 q1), (.slice o2 j2 q2), (.bool true)]), by simp only [Act.put, List.setIfInBounds_toArray, List.set_cons_zero, List.set_cons_succ], ?_⟩
        exact ⟨fun h => hF.out.f0 (by simpa using h), fun h => hF.out.f1 (by simpa using h), fun h => hF.out.f2 (by simpa using h), fun h => hF.out.f3 (by simpa using h), fun h => hF.out.f4 (by simpa using h), fun h => hF.out.f5 (by simpa using h), fun h => hF.out.f6 (by simpa using h), fun h => hF.out.f7 (by simpa using h), fun h => hF.out.f8 (by simpa using h), fun h => hF.out.f9 (by simpa using h), fun h => hF.out.f10 (by simpa using h), fun h => hF.out.f11 (by simpa using h), fun h => hF.out.f12 (by simpa using h), fun h => hF.out.f13 (by simpa using h), fun h => hF.out.f14 (by simpa using h), fun h => hF.out.f15 (by simpa using h), fun h => hF.out.f16 (by simpa using h), fun h => hF.out.f17 (by simpa using h), fun h => hF.out.f18 (by simpa using h), fun _ => trivial, ⟨HKP.out.os, HKP.out.tape, HKP.out.output, by rw [three_size]; exact HKP.out.size, fun q hq hn => (three_other _ _ _ _ _ q hn).trans (HKP.out.blk q hq hn)⟩, fun h => have z := hF.out.c4 (by simpa using h); ⟨(cell_as (three_other _ _ _ _ _ ga (by have := HL6.out; omega)) 0).trans z.1, (cell_as (three_other _ _ _ _ _ ga (by have := HL6.out; omega)) 1).trans z.2.1, by rw [three_size]; exact z.2.2.1, z.2.2.2⟩, fun h => have z := hF.out.c10 (by simpa using h); ⟨(cell_as (three_other _ _ _ _ _ gb (by have := HL6.out; omega)) 0).trans z.1, (cell_as (three_other _ _ _ _ _ gb (by have := HL6.out; omega)) 1).trans z.2.1, by rw [three_size]; exact z.2.2.1, z.2.2.2⟩, fun h => have z := hF.out.r5 (by simpa using h); own_keep z fun q hq => three_other _ _ _ _ _ q (by have := (z.lt q hq).1; have := HL6.out; omega), fun h => have z := hF.out.r11 (by simpa using h); own_keep z fun q hq => three_other _ _ _ _ _ q (by have := (z.lt q hq).1; have := HL6.out; omega), fun h => by have := hF.out.o5 (by simpa using h); simpa using this, fun h => by have := hF.out.o11 (by simpa using h); simpa using this, fun _ => by simpa using e18, fun h => by simp at h, fun _ => three HG0.out _ _ _⟩
    · intro d a W hI hall
      obtain ⟨ga, o1, j1, q1, gb, o2, j2, q2, x71, x72, x73, x74, x75, x76, x77, x78, x79, x80, x81, x82, x83, x84, x85, x86, x87, x88, x89, rfl, hF⟩ := hI
      simp only [List.length_cons, List.length_nil] at hall
      obtain rfl := hF.out.f0 (hall 0 (by omega))
      obtain rfl := hF.out.f1 (hall 1 (by omega))
      obtain rfl := hF.out.f2 (hall 2 (by omega))
      obtain rfl := hF.out.f3 (hall 3 (by omega))
      obtain rfl := hF.out.f4 (hall 4 (by omega))
      obtain rfl := hF.out.f5 (hall 5 (by omega))
      obtain rfl := hF.out.f6 (hall 6 (by omega))
      obtain rfl := hF.out.f7 (hall 7 (by omega))
      obtain rfl := hF.out.f8 (hall 8 (by omega))
      obtain rfl := hF.out.f9 (hall 9 (by omega))
      obtain rfl := hF.out.f10 (hall 10 (by omega))
      obtain rfl := hF.out.f11 (hall 11 (by omega))
      obtain rfl := hF.out.f12 (hall 12 (by omega))
      obtain rfl := hF.out.f13 (hall 13 (by omega))
      obtain rfl := hF.out.f14 (hall 14 (by omega))
      obtain rfl := hF.out.f15 (hall 15 (by omega))
      obtain rfl := hF.out.f16 (hall 16 (by omega))
      obtain rfl := hF.out.f17 (hall 17 (by omega))
      obtain rfl := hF.out.f18 (hall 18 (by omega))
      have hr1 := hF.out.r5 (hall 5 (by omega))
      have hr2 := hF.out.r11 (hall 11 (by omega))
      have HG1 : Hid (W.heap[w.heap.size + 1]? = some (.cells #[(.slice o1 j1 q1), (.slice o2 j2 q2), (.bool true)] 137)) := hF.out.g1 (hall 19 (by omega))
      have hkp := hF.out.kp
      have hl6 := (Array.getElem?_eq_some_iff.1 HK4.out.1.1).1
      have HFIN : Hid (NO base gp v V p.follow.length w P2 v3 V3 (.slice o1 j1 q1) (.slice o2 j2 q2) (e1.first ++ e2.first) (e1.last ++ e2.last) W) := by
        have hst : St base gp v V p.follow.length w P2 v3 V3 W := HS4.out.wroteF hkp HK4.out.1.2 (by omega)
        refine ⟨hst, ⟨ints_of_own hr1 (by rw [List.length_append]; have := HLN.out; omega), fun q hq => have z := hr1.lt q hq; ⟨by have := HS4.out.fm.size; omega, z.2, fun ho => by have := HS4.out.pm.own_lt ho; omega⟩⟩, ⟨ints_of_own hr2 (by rw [List.length_append]; have := HLN.out; omega), fun q hq => have z := hr2.lt q hq; ⟨by have := HS4.out.fm.size; omega, z.2, fun ho => by have := HS4.out.pm.own_lt ho; omega⟩⟩⟩
      clear hF hall hr1 hr2 hkp
      simp only [Act.put, List.setIfInBounds_toArray, List.set_cons_zero, List.set_cons_succ]
      go_wp2_with fail
      refine bodyPost_ret (v := .agg #[(.slice o1 j1 q1), (.slice o2 j2 q2), (.bool true)]) (results_cell_row results47 _ _ (w.heap.size + 1) 137 #[(.slice o1 j1 q1), (.slice o2 j2 q2), (.bool true)] (0, 0) _ rfl HG1.out Try.underlying137 rfl (by kernel_rfl)) rfl ⟨v3, V3, _, _, _, _, _, _, by rw [HEM.out, HEM2.out]; simp, HFIN.out⟩
  | false =>
    go_upto_region 15 with (fail)
    rw [HW4.out]
    clear HW4
    refine wp_region_free mixed (fun a0 d a W => ∃ (ga : Nat) (o1 : Option Addr) (j1 : Nat) (q1 : Nat) (gb : Nat) (o2 : Option Addr) (j2 : Nat) (q2 : Nat) (x71 x72 x73 x74 x75 x76 x77 x78 x79 x80 x81 x82 x83 x84 x85 x86 x87 x88 x89 : Value), a = (((((((((((((((((((a0.put (some 71) x71).put (some 72) x72).put (some 73) x73).put (some 74) x74).put (some 75) x75).put (some 76) x76).put (some 77) x77).put (some 78) x78).put (some 79) x79).put (some 80) x80).put (some 81) x81).put (some 82) x82).put (some 83) x83).put (some 84) x84).put (some 85) x85).put (some 86) x86).put (some 87) x87).put (some 88) x88).put (some 89) x89) ∧ Hid (RAf w w1 w3 w4 fo lo go_ ho_ fn ln gn hn fc lc gc hc em2 e1 e2 ga o1 j1 q1 gb o2 j2 q2 d x71 x72 x73 x74 x75 x76 x77 x78 x79 x80 x81 x82 x83 x84 x85 x86 x87 x88 x89 W)) (by kernel_rfl) ⟨0, none, 0, 0, 0, none, 0, 0, undef, undef, undef, undef, undef, undef, undef, undef, undef, undef, undef, undef, undef, undef, undef, undef, undef, undef, undef, by simp only [Act.put, List.setIfInBounds_toArray, List.set_cons_zero, List.set_cons_succ], ?_⟩ ?_ ?_
    · exact ⟨fun h => no_way h, fun h => no_way h, fun h => no_way h, fun h => no_way h, fun h => no_way h, fun h => no_way h, fun h => no_way h, fun h => no_way h, fun h => no_way h, fun h => no_way h, fun h => no_way h, fun h => no_way h, fun h => no_way h, fun h => no_way h, fun h => no_way h, fun h => no_way h, fun h => no_way h, fun h => no_way h, fun h => no_way h, fun _ => trivial, ⟨rfl, rfl, rfl, Nat.le_refl _, fun _ _ _ => rfl⟩, fun h => no_way h, fun h => no_way h, fun h => no_way h, fun h => no_way h, fun h => no_way h, fun h => no_way h, fun h => no_way h, fun _ => HK4.out.1.1, fun h => no_way h⟩
    · simp only [StepAll, and_true]
      refine ⟨?_, ?_, ?_, ?_, ?_, ?_, ?_, ?_, ?_, ?_, ?_, ?_, ?_, ?_, ?_, ?_, ?_, ?_, ?_, ?_⟩
      · intro d a W hI hd hdep
        obtain ⟨ga, o1, j1, q1, gb, o2, j2, q2, x71, x72, x73, x74, x75, x76, x77, x78, x79, x80, x81, x82, x83, x84, x85, x86, x87, x88, x89, rfl, hF⟩ := hI
        clear hdep hd
        intro K hK
        simp only [Act.put, List.setIfInBounds_toArray, List.set_cons_zero, List.set_cons_succ]
        go_simp
        refine hK.out _ _ ⟨ga, o1, j1, q1, gb, o2, j2, q2, (.pointer (some ⟨w1.heap.size, 0, none⟩)), x72, x73, x74, x75, x76, x77, x78, x79, x80, x81, x82, x83, x84, x85, x86, x87, x88, x89, by simp only [Act.put, List.setIfInBounds_toArray, List.set_cons_zero, List.set_cons_succ], ?_⟩
        exact ⟨fun _ => rfl, fun h => hF.out.f1 (by simpa using h), fun h => hF.out.f2 (by simpa using h), fun h => hF.out.f3 (by simpa using h), fun h => hF.out.f4 (by simpa using h), fun h => hF.out.f5 (by simpa using h), fun h => hF.out.f6 (by simpa using h), fun h => hF.out.f7 (by simpa using h), fun h => hF.out.f8 (by simpa using h), fun h => hF.out.f9 (by simpa using h), fun h => hF.out.f10 (by simpa using h), fun h => hF.out.f11 (by simpa using h), fun h => hF.out.f12 (by simpa using h), fun h => hF.out.f13 (by simpa using h), fun h => hF.out.f14 (by simpa using h), fun h => hF.out.f15 (by simpa using h), fun h => hF.out.f16 (by simpa using h), fun h => hF.out.f17 (by simpa using h), fun h => hF.out.f18 (by simpa using h), fun h => hF.out.f19 (by simpa using h), hF.out.kp, fun h => hF.out.c4 (by simpa using h), fun h => hF.out.c10 (by simpa using h), fun h => hF.out.r5 (by simpa using h), fun h => hF.out.r11 (by simpa using h), fun h => by have := hF.out.o5 (by simpa using h); simpa using this, fun h => by have := hF.out.o11 (by simpa using h); simpa using this, fun h => by have := hF.out.o18 (by simpa using h); simpa using this, fun h => hF.out.g0 (by simpa using h), fun h => hF.out.g1 (by simpa using h)⟩
      · intro d a W hI hd hdep
        obtain ⟨ga, o1, j1, q1, gb, o2, j2, q2, x71, x72, x73, x74, x75, x76, x77, x78, x79, x80, x81, x82, x83, x84, x85, x86, x87, x88, x89, rfl, hF⟩ := hI
        have hd0 : d 0 = true := dep_of hdep 0 (by kernel_rfl)
        obtain rfl := hF.out.f0 hd0
        have HKP : Hid (Fm (fun k => k = w.heap.size + 1) w4 W) := hF.out.kp
        have a0 := ((cells3 ((HKP.out.blk _ ((Array.getElem?_eq_some_iff.1 HBXX.out.1).1) HBXX.out.2).trans HBXX.out.1))).1
        clear hdep hd hd0
        intro K hK
        simp only [Act.put, List.setIfInBounds_toArray, List.set_cons_zero, List.set_cons_succ]
        go_simp
        refine hK.out _ _ ⟨ga, o1, j1, q1, gb, o2, j2, q2, (.pointer (some ⟨w1.heap.size, 0, none⟩)), (.slice fo fn fc), x73, x74, x75, x76, x77, x78, x79, x80, x81, x82, x83, x84, x85, x86, x87, x88, x89, by simp only [Act.put, List.setIfInBounds_toArray, List.set_cons_zero, List.set_cons_succ], ?_⟩
        exact ⟨fun h => hF.out.f0 (by simpa using h), fun _ => rfl, fun h => hF.out.f2 (by simpa using h), fun h => hF.out.f3 (by simpa using h), fun h => hF.out.f4 (by simpa using h), fun h => hF.out.f5 (by simpa using h), fun h => hF.out.f6 (by simpa using h), fun h => hF.out.f7 (by simpa using h), fun h => hF.out.f8 (by simpa using h), fun h => hF.out.f9 (by simpa using h), fun h => hF.out.f10 (by simpa using h), fun h => hF.out.f11 (by simpa using h), fun h => hF.out.f12 (by simpa using h), fun h => hF.out.f13 (by simpa using h), fun h => hF.out.f14 (by simpa using h), fun h => hF.out.f15 (by simpa using h), fun h => hF.out.f16 (by simpa using h), fun h => hF.out.f17 (by simpa using h), fun h => hF.out.f18 (by simpa using h), fun h => hF.out.f19 (by simpa using h), hF.out.kp, fun h => hF.out.c4 (by simpa using h), fun h => hF.out.c10 (by simpa using h), fun h => hF.out.r5 (by simpa using h), fun h => hF.out.r11 (by simpa using h), fun h => by have := hF.out.o5 (by simpa using h); simpa using this, fun h => by have := hF.out.o11 (by simpa using h); simpa using this, fun h => by have := hF.out.o18 (by simpa using h); simpa using this, fun h => hF.out.g0 (by simpa using h), fun h => hF.out.g1 (by simpa using h)⟩
      · intro d a W hI hd hdep
        obtain ⟨ga, o1, j1, q1, gb, o2, j2, q2, x71, x72, x73, x74, x75, x76, x77, x78, x79, x80, x81, x82, x83, x84, x85, x86, x87, x88, x89, rfl, hF⟩ := hI
        clear hdep hd
        intro K hK
        simp only [Act.put, List.setIfInBounds_toArray, List.set_cons_zero, List.set_cons_succ]
        go_simp
        refine hK.out _ _ ⟨ga, o1, j1, q1, gb, o2, j2, q2, x71, x72, (.pointer (some ⟨w3.heap.size, 0, none⟩)), x74, x75, x76, x77, x78, x79, x80, x81, x82, x83, x84, x85, x86, x87, x88, x89, by simp only [Act.put, List.setIfInBounds_toArray, List.set_cons_zero, List.set_cons_succ], ?_⟩
        exact ⟨fun h => hF.out.f0 (by simpa using h), fun h => hF.out.f1 (by simpa using h), fun _ => rfl, fun h => hF.out.f3 (by simpa using h), fun h => hF.out.f4 (by simpa using h), fun h => hF.out.f5 (by simpa using h), fun h => hF.out.f6 (by simpa using h), fun h => hF.out.f7 (by simpa using h), fun h => hF.out.f8 (by simpa using h), fun h => hF.out.f9 (by simpa using h), fun h => hF.out.f10 (by simpa using h), fun h => hF.out.f11 (by simpa using h), fun h => hF.out.f12 (by simpa using h), fun h => hF.out.f13 (by simpa using h), fun h => hF.out.f14 (by simpa using h), fun h => hF.out.f15 (by simpa using h), fun h => hF.out.f16 (by simpa using h), fun h => hF.out.f17 (by simpa using h), fun h => hF.out.f18 (by simpa using h), fun h => hF.out.f19 (by simpa using h), hF.out.kp, fun h => hF.out.c4 (by simpa using h), fun h => hF.out.c10 (by simpa using h), fun h => hF.out.r5 (by simpa using h), fun h => hF.out.r11 (by simpa using h), fun h => by have := hF.out.o5 (by simpa using h); simpa using this, fun h => by have := hF.out.o11 (by simpa using h); simpa using this, fun h => by have := hF.out.o18 (by simpa using h); simpa using this, fun h => hF.out.g0 (by simpa using h), fun h => hF.out.g1 (by simpa using h)⟩
      · intro d a W hI hd hdep
        obtain ⟨ga, o1, j1, q1, gb, o2, j2, q2, x71, x72, x73, x74, x75, x76, x77, x78, x79, x80, x81, x82, x83, x84, x85, x86, x87, x88, x89, rfl, hF⟩ := hI
        have hd2 : d 2 = true := dep_of hdep 2 (by kernel_rfl)
        obtain rfl := hF.out.f2 hd2
        have HKP : Hid (Fm (fun k => k = w.heap.size + 1) w4 W) := hF.out.kp
        have a0 := ((cells3 ((HKP.out.blk _ ((Array.getElem?_eq_some_iff.1 HBYY.out.1).1) HBYY.out.2).trans HBYY.out.1))).1
        clear hdep hd hd2
        intro K hK
        simp only [Act.put, List.setIfInBounds_toArray, List.set_cons_zero, List.set_cons_succ]
        go_simp
        refine hK.out _ _ ⟨ga, o1, j1, q1, gb, o2, j2, q2, x71, x72, (.pointer (some ⟨w3.heap.size, 0, none⟩)), (.slice go_ gn gc), x75, x76, x77, x78, x79, x80, x81, x82, x83, x84, x85, x86, x87, x88, x89, by simp only [Act.put, List.setIfInBounds_toArray, List.set_cons_zero, List.set_cons_succ], ?_⟩
        exact ⟨fun h => hF.out.f0 (by simpa using h), fun h => hF.out.f1 (by simpa using h), fun h => hF.out.f2 (by simpa using h), fun _ => rfl, fun h => hF.out.f4 (by simpa using h), fun h => hF.out.f5 (by simpa using h), fun h => hF.out.f6 (by simpa using h), fun h => hF.out.f7 (by simpa using h), fun h => hF.out.f8 (by simpa using h), fun h => hF.out.f9 (by simpa using h), fun h => hF.out.f10 (by simpa using h), fun h => hF.out.f11 (by simpa using h), fun h => hF.out.f12 (by simpa using h), fun h => hF.out.f13 (by simpa using h), fun h => hF.out.f14 (by simpa using h), fun h => hF.out.f15 (by simpa using h), fun h => hF.out.f16 (by simpa using h), fun h => hF.out.f17 (by simpa using h), fun h => hF.out.f18 (by simpa using h), fun h => hF.out.f19 (by simpa using h), hF.out.kp, fun h => hF.out.c4 (by simpa using h), fun h => hF.out.c10 (by simpa using h), fun h => hF.out.r5 (by simpa using h), fun h => hF.out.r11 (by simpa using h), fun h => by have := hF.out.o5 (by simpa using h); simpa using this, fun h => by have := hF.out.o11 (by simpa using h); simpa using this, fun h => by have := hF.out.o18 (by simpa using h); simpa using this, fun h => hF.out.g0 (by simpa using h), fun h => hF.out.g1 (by simpa using h)⟩
      · intro d a W hI hd hdep
        obtain ⟨ga, o1, j1, q1, gb, o2, j2, q2, x71, x72, x73, x74, x75, x76, x77, x78, x79, x80, x81, x82, x83, x84, x85, x86, x87, x88, x89, rfl, hF⟩ := hI
        have hd1 : d 1 = true := dep_of hdep 1 (by kernel_rfl)
        have hd3 : d 3 = true := dep_of hdep 3 (by kernel_rfl)
        obtain rfl := hF.out.f1 hd1
        obtain rfl := hF.out.f3 hd3
        have HKP : Hid (Fm (fun k => k = w.heap.size + 1) w4 W) := hF.out.kp
        clear hdep hd hd1 hd3
        intro K hK
        simp only [Act.put, List.setIfInBounds_toArray, List.set_cons_zero, List.set_cons_succ]
        go_simp
        refine hK.out _ _ ⟨W.heap.size, o1, j1, q1, gb, o2, j2, q2, x71, (.slice fo fn fc), x73, (.slice go_ gn gc), (.slice (some ⟨W.heap.size, 0, none⟩) 2 2), x76, x77, x78, x79, x80, x81, x82, x83, x84, x85, x86, x87, x88, x89, by simp only [Act.put, List.setIfInBounds_toArray, List.set_cons_zero, List.set_cons_succ], ?_⟩
        have hba := below_alloc1 W (Obj.cells #[(.slice fo fn fc), (.slice go_ gn gc)] 23)
        have hcn := cell_new W [(.slice fo fn fc), (.slice go_ gn gc)] 23
        exact ⟨fun h => hF.out.f0 (by simpa using h), fun h => hF.out.f1 (by simpa using h), fun h => hF.out.f2 (by simpa using h), fun h => hF.out.f3 (by simpa using h), fun _ => rfl, fun h => hF.out.f5 (by simpa using h), fun h => hF.out.f6 (by simpa using h), fun h => hF.out.f7 (by simpa using h), fun h => hF.out.f8 (by simpa using h), fun h => hF.out.f9 (by simpa using h), fun h => hF.out.f10 (by simpa using h), fun h => hF.out.f11 (by simpa using h), fun h => hF.out.f12 (by simpa using h), fun h => hF.out.f13 (by simpa using h), fun h => hF.out.f14 (by simpa using h), fun h => hF.out.f15 (by simpa using h), fun h => hF.out.f16 (by simpa using h), fun h => hF.out.f17 (by simpa using h), fun h => hF.out.f18 (by simpa using h), fun h => hF.out.f19 (by simpa using h), HKP.out.trans (Fm.below (X := fun k => k = w.heap.size + 1) hba) (fun _ _ e => e), fun _ => ⟨(hcn 0), (hcn 1), by simp, HKP.out.size⟩, fun h => have z := hF.out.c10 (by simpa using h); ⟨(hba.cell (p := ⟨gb, 0, none⟩) z.2.2.1).trans z.1, (hba.cell (p := ⟨gb, 1, none⟩) z.2.2.1).trans z.2.1, Nat.lt_of_lt_of_le z.2.2.1 hba.size, z.2.2.2⟩, fun h => own_below (hF.out.r5 (by simpa using h)) hba, fun h => own_below (hF.out.r11 (by simpa using h)) hba, fun h => by have := hF.out.o5 (by simpa using h); simpa using this, fun h => by have := hF.out.o11 (by simpa using h); simpa using this, fun h => by have := hF.out.o18 (by simpa using h); simpa using this, fun h => have z := hF.out.g0 (by simpa using h); (hba.block _ ((Array.getElem?_eq_some_iff.1 z).1)).trans z, fun h => have z := hF.out.g1 (by simpa using h); (hba.block _ ((Array.getElem?_eq_some_iff.1 z).1)).trans z⟩
      · intro d a W hI hd hdep
        obtain ⟨ga, o1, j1, q1, gb, o2, j2, q2, x71, x72, x73, x74, x75, x76, x77, x78, x79, x80, x81, x82, x83, x84, x85, x86, x87, x88, x89, rfl, hF⟩ := hI
        have hd4 : d 4 = true := dep_of hdep 4 (by kernel_rfl)
        obtain rfl := hF.out.f4 hd4
        have HKP : Hid (Fm (fun k => k = w.heap.size + 1) w4 W) := hF.out.kp
        have hc4 := hF.out.c4 hd4
        have HN18 : Hid (d 18 = false) := no_later hF.out.o5 hd
        have HN19 : Hid (d 19 = false) := no_later hF.out.o18 HN18.out
        have hcl := concat_any ga 2 (.slice fo fn fc) (.slice go_ gn gc) e1.first e2.first W (HR4.out.1.1.i.keep HKP.out.size fun q hq he => HKP.out.blk q hq (fun e => by have := HFB.out.1 q he; omega)) (HR4.out.2.1.i.keep HKP.out.size fun q hq he => HKP.out.blk q hq (fun e => by have := HFB.out.2.2.1 q he; omega)) hc4.1 hc4.2.1 hc4.2.2.1 HLN.out.1
        have HCL : Hid (Calls Try.prog 86 #[.slice (some ⟨ga, 0, none⟩) 2 2] W fun e w' => ∃ o n c, e = .returned (.slice o n c) ∧ w'.ownsRow W.heap.size 3 1 (.slice o n c) (e1.first ++ e2.first).length ((e1.first ++ e2.first).map (Value.int .i64)) ∧ Below W.heap.size W w') := hcl
        clear hcl hc4
        clear hdep hd hd4
        intro K hK
        simp only [Act.put, List.setIfInBounds_toArray, List.set_cons_zero, List.set_cons_succ]
        go_simp
        refine HCL.out.mono ?_
        rintro _ W1 ⟨o12, j12, q12, rfl, hown, hbl⟩
        have HOW : Hid (W1.ownsRow W.heap.size 3 1 (.slice o12 j12 q12) _ _ ∧ Below W.heap.size W W1) := ⟨hown, hbl⟩
        clear hown hbl HCL
        go_simp
        refine hK.out _ _ ⟨ga, o12, j12, q12, gb, o2, j2, q2, x71, x72, x73, x74, (.slice (some ⟨ga, 0, none⟩) 2 2), (.slice o12 j12 q12), x77, x78, x79, x80, x81, x82, x83, x84, x85, x86, x87, x88, x89, by simp only [Act.put, List.setIfInBounds_toArray, List.set_cons_zero, List.set_cons_succ], ?_⟩
        exact ⟨fun h => hF.out.f0 (by simpa using h), fun h => hF.out.f1 (by simpa using h), fun h => hF.out.f2 (by simpa using h), fun h => hF.out.f3 (by simpa using h), fun h => hF.out.f4 (by simpa using h), fun _ => rfl, fun h => hF.out.f6 (by simpa using h), fun h => hF.out.f7 (by simpa using h), fun h => hF.out.f8 (by simpa using h), fun h => hF.out.f9 (by simpa using h), fun h => hF.out.f10 (by simpa using h), fun h => hF.out.f11 (by simpa using h), fun h => hF.out.f12 (by simpa using h), fun h => hF.out.f13 (by simpa using h), fun h => hF.out.f14 (by simpa using h), fun h => hF.out.f15 (by simpa using h), fun h => hF.out.f16 (by simpa using h), fun h => hF.out.f17 (by simpa using h), fun h => by have := HN18.out; simp [this] at h, fun h => hF.out.f19 (by simpa using h), HKP.out.trans (Fm.below (X := fun k => k = w.heap.size + 1) HOW.out.2) (fun _ _ e => e), fun h => have z := hF.out.c4 (by simpa using h); ⟨(HOW.out.2.cell (p := ⟨ga, 0, none⟩) z.2.2.1).trans z.1, (HOW.out.2.cell (p := ⟨ga, 1, none⟩) z.2.2.1).trans z.2.1, Nat.lt_of_lt_of_le z.2.2.1 HOW.out.2.size, z.2.2.2⟩, fun h => have z := hF.out.c10 (by simpa using h); ⟨(HOW.out.2.cell (p := ⟨gb, 0, none⟩) z.2.2.1).trans z.1, (HOW.out.2.cell (p := ⟨gb, 1, none⟩) z.2.2.1).trans z.2.1, Nat.lt_of_lt_of_le z.2.2.1 HOW.out.2.size, z.2.2.2⟩, fun _ => own_less HOW.out.1 HKP.out.size, fun h => own_below (hF.out.r11 (by simpa using h)) HOW.out.2, fun _ => by simp, fun h => by have := hF.out.o11 (by simpa using h); simpa using this, fun h => by have := hF.out.o18 (by simpa using h); simpa using this, fun h => have z := hF.out.g0 (by simpa using h); (HOW.out.2.block _ ((Array.getElem?_eq_some_iff.1 z).1)).trans z, fun h => by have := HN19.out; simp [this] at h⟩
      · intro d a W hI hd hdep
        obtain ⟨ga, o1, j1, q1, gb, o2, j2, q2, x71, x72, x73, x74, x75, x76, x77, x78, x79, x80, x81, x82, x83, x84, x85, x86, x87, x88, x89, rfl, hF⟩ := hI
        clear hdep hd
        intro K hK
        simp only [Act.put, List.setIfInBounds_toArray, List.set_cons_zero, List.set_cons_succ]
        go_simp
        refine hK.out _ _ ⟨ga, o1, j1, q1, gb, o2, j2, q2, x71, x72, x73, x74, x75, x76, (.pointer (some ⟨w1.heap.size, 1, none⟩)), x78, x79, x80, x81, x82, x83, x84, x85, x86, x87, x88, x89, by simp only [Act.put, List.setIfInBounds_toArray, List.set_cons_zero, List.set_cons_succ], ?_⟩
        exact ⟨fun h => hF.out.f0 (by simpa using h), fun h => hF.out.f1 (by simpa using h), fun h => hF.out.f2 (by simpa using h), fun h => hF.out.f3 (by simpa using h), fun h => hF.out.f4 (by simpa using h), fun h => hF.out.f5 (by simpa using h), fun _ => rfl, fun h => hF.out.f7 (by simpa using h), fun h => hF.out.f8 (by simpa using h), fun h => hF.out.f9 (by simpa using h), fun h => hF.out.f10 (by simpa using h), fun h => hF.out.f11 (by simpa using h), fun h => hF.out.f12 (by simpa using h), fun h => hF.out.f13 (by simpa using h), fun h => hF.out.f14 (by simpa using h), fun h => hF.out.f15 (by simpa using h), fun h => hF.out.f16 (by simpa using h), fun h => hF.out.f17 (by simpa using h), fun h => hF.out.f18 (by simpa using h), fun h => hF.out.f19 (by simpa using h), hF.out.kp, fun h => hF.out.c4 (by simpa using h), fun h => hF.out.c10 (by simpa using h), fun h => hF.out.r5 (by simpa using h), fun h => hF.out.r11 (by simpa using h), fun h => by have := hF.out.o5 (by simpa using h); simpa using this, fun h => by have := hF.out.o11 (by simpa using h); simpa using this, fun h => by have := hF.out.o18 (by simpa using h); simpa using this, fun h => hF.out.g0 (by simpa using h), fun h => hF.out.g1 (by simpa using h)⟩
      · intro d a W hI hd hdep
        obtain ⟨ga, o1, j1, q1, gb, o2, j2, q2, x71, x72, x73, x74, x75, x76, x77, x78, x79, x80, x81, x82, x83, x84, x85, x86, x87, x88, x89, rfl, hF⟩ := hI
        have hd6 : d 6 = true := dep_of hdep 6 (by kernel_rfl)
        obtain rfl := hF.out.f6 hd6
        have HKP : Hid (Fm (fun k => k = w.heap.size + 1) w4 W) := hF.out.kp
        have a0 := ((cells3 ((HKP.out.blk _ ((Array.getElem?_eq_some_iff.1 HBXX.out.1).1) HBXX.out.2).trans HBXX.out.1))).2.1
        clear hdep hd hd6
        intro K hK
        simp only [Act.put, List.setIfInBounds_toArray, List.set_cons_zero, List.set_cons_succ]
        go_simp
        refine hK.out _ _ ⟨ga, o1, j1, q1, gb, o2, j2, q2, x71, x72, x73, x74, x75, x76, (.pointer (some ⟨w1.heap.size, 1, none⟩)), (.slice lo ln lc), x79, x80, x81, x82, x83, x84, x85, x86, x87, x88, x89, by simp only [Act.put, List.setIfInBounds_toArray, List.set_cons_zero, List.set_cons_succ], ?_⟩
        exact ⟨fun h => hF.out.f0 (by simpa using h), fun h => hF.out.f1 (by simpa using h), fun h => hF.out.f2 (by simpa using h), fun h => hF.out.f3 (by simpa using h), fun h => hF.out.f4 (by simpa using h), fun h => hF.out.f5 (by simpa using h), fun h => hF.out.f6 (by simpa using h), fun _ => rfl, fun h => hF.out.f8 (by simpa using h), fun h => hF.out.f9 (by simpa using h), fun h => hF.out.f10 (by simpa using h), fun h => hF.out.f11 (by simpa using h), fun h => hF.out.f12 (by simpa using h), fun h => hF.out.f13 (by simpa using h), fun h => hF.out.f14 (by simpa using h), fun h => hF.out.f15 (by simpa using h), fun h => hF.out.f16 (by simpa using h), fun h => hF.out.f17 (by simpa using h), fun h => hF.out.f18 (by simpa using h), fun h => hF.out.f19 (by simpa using h), hF.out.kp, fun h => hF.out.c4 (by simpa using h), fun h => hF.out.c10 (by simpa using h), fun h => hF.out.r5 (by simpa using h), fun h => hF.out.r11 (by simpa using h), fun h => by have := hF.out.o5 (by simpa using h); simpa using this, fun h => by have := hF.out.o11 (by simpa using h); simpa using this, fun h => by have := hF.out.o18 (by simpa using h); simpa using this, fun h => hF.out.g0 (by simpa using h), fun h => hF.out.g1 (by simpa using h)⟩
      · intro d a W hI hd hdep
        obtain ⟨ga, o1, j1, q1, gb, o2, j2, q2, x71, x72, x73, x74, x75, x76, x77, x78, x79, x80, x81, x82, x83, x84, x85, x86, x87, x88, x89, rfl, hF⟩ := hI
        clear hdep hd
        intro K hK
        simp only [Act.put, List.setIfInBounds_toArray, List.set_cons_zero, List.set_cons_succ]
        go_simp
        refine hK.out _ _ ⟨ga, o1, j1, q1, gb, o2, j2, q2, x71, x72, x73, x74, x75, x76, x77, x78, (.pointer (some ⟨w3.heap.size, 1, none⟩)), x80, x81, x82, x83, x84, x85, x86, x87, x88, x89, by simp only [Act.put, List.setIfInBounds_toArray, List.set_cons_zero, List.set_cons_succ], ?_⟩
        exact ⟨fun h => hF.out.f0 (by simpa using h), fun h => hF.out.f1 (by simpa using h), fun h => hF.out.f2 (by simpa using h), fun h => hF.out.f3 (by simpa using h), fun h => hF.out.f4 (by simpa using h), fun h => hF.out.f5 (by simpa using h), fun h => hF.out.f6 (by simpa using h), fun h => hF.out.f7 (by simpa using h), fun _ => rfl, fun h => hF.out.f9 (by simpa using h), fun h => hF.out.f10 (by simpa using h), fun h => hF.out.f11 (by simpa using h), fun h => hF.out.f12 (by simpa using h), fun h => hF.out.f13 (by simpa using h), fun h => hF.out.f14 (by simpa using h), fun h => hF.out.f15 (by simpa using h), fun h => hF.out.f16 (by simpa using h), fun h => hF.out.f17 (by simpa using h), fun h => hF.out.f18 (by simpa using h), fun h => hF.out.f19 (by simpa using h), hF.out.kp, fun h => hF.out.c4 (by simpa using h), fun h => hF.out.c10 (by simpa using h), fun h => hF.out.r5 (by simpa using h), fun h => hF.out.r11 (by simpa using h), fun h => by have := hF.out.o5 (by simpa using h); simpa using this, fun h => by have := hF.out.o11 (by simpa using h); simpa using this, fun h => by have := hF.out.o18 (by simpa using h); simpa using this, fun h => hF.out.g0 (by simpa using h), fun h => hF.out.g1 (by simpa using h)⟩
      · intro d a W hI hd hdep
        obtain ⟨ga, o1, j1, q1, gb, o2, j2, q2, x71, x72, x73, x74, x75, x76, x77, x78, x79, x80, x81, x82, x83, x84, x85, x86, x87, x88, x89, rfl, hF⟩ := hI
        have hd8 : d 8 = true := dep_of hdep 8 (by kernel_rfl)
        obtain rfl := hF.out.f8 hd8
        have HKP : Hid (Fm (fun k => k = w.heap.size + 1) w4 W) := hF.out.kp
        have a0 := ((cells3 ((HKP.out.blk _ ((Array.getElem?_eq_some_iff.1 HBYY.out.1).1) HBYY.out.2).trans HBYY.out.1))).2.1
        clear hdep hd hd8
        intro K hK
        simp only [Act.put, List.setIfInBounds_toArray, List.set_cons_zero, List.set_cons_succ]
        go_simp
        refine hK.out _ _ ⟨ga, o1, j1, q1, gb, o2, j2, q2, x71, x72, x73, x74, x75, x76, x77, x78, (.pointer (some ⟨w3.heap.size, 1, none⟩)), (.slice ho_ hn hc), x81, x82, x83, x84, x85, x86, x87, x88, x89, by simp only [Act.put, List.setIfInBounds_toArray, List.set_cons_zero, List.set_cons_succ], ?_⟩
        exact ⟨fun h => hF.out.f0 (by simpa using h), fun h => hF.out.f1 (by simpa using h), fun h => hF.out.f2 (by simpa using h), fun h => hF.out.f3 (by simpa using h), fun h => hF.out.f4 (by simpa using h), fun h => hF.out.f5 (by simpa using h), fun h => hF.out.f6 (by simpa using h), fun h => hF.out.f7 (by simpa using h), fun h => hF.out.f8 (by simpa using h), fun _ => rfl, fun h => hF.out.f10 (by simpa using h), fun h => hF.out.f11 (by simpa using h), fun h => hF.out.f12 (by simpa using h), fun h => hF.out.f13 (by simpa using h), fun h => hF.out.f14 (by simpa using h), fun h => hF.out.f15 (by simpa using h), fun h => hF.out.f16 (by simpa using h), fun h => hF.out.f17 (by simpa using h), fun h => hF.out.f18 (by simpa using h), fun h => hF.out.f19 (by simpa using h), hF.out.kp, fun h => hF.out.c4 (by simpa using h), fun h => hF.out.c10 (by simpa using h), fun h => hF.out.r5 (by simpa using h), fun h => hF.out.r11 (by simpa using h), fun h => by have := hF.out.o5 (by simpa using h); simpa using this, fun h => by have := hF.out.o11 (by simpa using h); simpa using this, fun h => by have := hF.out.o18 (by simpa using h); simpa using this, fun h => hF.out.g0 (by simpa using h), fun h => hF.out.g1 (by simpa using h)⟩
      · intro d a W hI hd hdep
        obtain ⟨ga, o1, j1, q1, gb, o2, j2, q2, x71, x72, x73, x74, x75, x76, x77, x78, x79, x80, x81, x82, x83, x84, x85, x86, x87, x88, x89, rfl, hF⟩ := hI
        have hd7 : d 7 = true := dep_of hdep 7 (by kernel_rfl)
        have hd9 : d 9 = true := dep_of hdep 9 (by kernel_rfl)
        obtain rfl := hF.out.f7 hd7
        obtain rfl := hF.out.f9 hd9
        have HKP : Hid (Fm (fun k => k = w.heap.size + 1) w4 W) := hF.out.kp
        clear hdep hd hd7 hd9
        intro K hK
        simp only [Act.put, List.setIfInBounds_toArray, List.set_cons_zero, List.set_cons_succ]
        go_simp
        refine hK.out _ _ ⟨ga, o1, j1, q1, W.heap.size, o2, j2, q2, x71, x72, x73, x74, x75, x76, x77, (.slice lo ln lc), x79, (.slice ho_ hn hc), (.slice (some ⟨W.heap.size, 0, none⟩) 2 2), x82, x83, x84, x85, x86, x87, x88, x89, by simp only [Act.put, List.setIfInBounds_toArray, List.set_cons_zero, List.set_cons_succ], ?_⟩
        have hba := below_alloc1 W (Obj.cells #[(.slice lo ln lc), (.slice ho_ hn hc)] 23)
        have hcn := cell_new W [(.slice lo ln lc), (.slice ho_ hn hc)] 23
        exact ⟨fun h => hF.out.f0 (by simpa using h), fun h => hF.out.f1 (by simpa using h), fun h => hF.out.f2 (by simpa using h), fun h => hF.out.f3 (by simpa using h), fun h => hF.out.f4 (by simpa using h), fun h => hF.out.f5 (by simpa using h), fun h => hF.out.f6 (by simpa using h), fun h => hF.out.f7 (by simpa using h), fun h => hF.out.f8 (by simpa using h), fun h => hF.out.f9 (by simpa using h), fun _ => rfl, fun h => hF.out.f11 (by simpa using h), fun h => hF.out.f12 (by simpa using h), fun h => hF.out.f13 (by simpa using h), fun h => hF.out.f14 (by simpa using h), fun h => hF.out.f15 (by simpa using h), fun h => hF.out.f16 (by simpa using h), fun h => hF.out.f17 (by simpa using h), fun h => hF.out.f18 (by simpa using h), fun h => hF.out.f19 (by simpa using h), HKP.out.trans (Fm.below (X := fun k => k = w.heap.size + 1) hba) (fun _ _ e => e), fun h => have z := hF.out.c4 (by simpa using h); ⟨(hba.cell (p := ⟨ga, 0, none⟩) z.2.2.1).trans z.1, (hba.cell (p := ⟨ga, 1, none⟩) z.2.2.1).trans z.2.1, Nat.lt_of_lt_of_le z.2.2.1 hba.size, z.2.2.2⟩, fun _ => ⟨(hcn 0), (hcn 1), by simp, HKP.out.size⟩, fun h => own_below (hF.out.r5 (by simpa using h)) hba, fun h => own_below (hF.out.r11 (by simpa using h)) hba, fun h => by have := hF.out.o5 (by simpa using h); simpa using this, fun h => by have := hF.out.o11 (by simpa using h); simpa using this, fun h => by have := hF.out.o18 (by simpa using h); simpa using this, fun h => have z := hF.out.g0 (by simpa using h); (hba.block _ ((Array.getElem?_eq_some_iff.1 z).1)).trans z, fun h => have z := hF.out.g1 (by simpa using h); (hba.block _ ((Array.getElem?_eq_some_iff.1 z).1)).trans z⟩
      · intro d a W hI hd hdep
        obtain ⟨ga, o1, j1, q1, gb, o2, j2, q2, x71, x72, x73, x74, x75, x76, x77, x78, x79, x80, x81, x82, x83, x84, x85, x86, x87, x88, x89, rfl, hF⟩ := hI
        have hd10 : d 10 = true := dep_of hdep 10 (by kernel_rfl)
        obtain rfl := hF.out.f10 hd10
        have HKP : Hid (Fm (fun k => k = w.heap.size + 1) w4 W) := hF.out.kp
        have hc4 := hF.out.c10 hd10
        have HN18 : Hid (d 18 = false) := no_later hF.out.o11 hd
        have HN19 : Hid (d 19 = false) := no_later hF.out.o18 HN18.out
        have hcl := concat_any gb 2 (.slice lo ln lc) (.slice ho_ hn hc) e1.last e2.last W (HR4.out.1.2.i.keep HKP.out.size fun q hq he => HKP.out.blk q hq (fun e => by have := HFB.out.2.1 q he; omega)) (HR4.out.2.2.i.keep HKP.out.size fun q hq he => HKP.out.blk q hq (fun e => by have := HFB.out.2.2.2 q he; omega)) hc4.1 hc4.2.1 hc4.2.2.1 HLN.out.2
        have HCL : Hid (Calls Try.prog 86 #[.slice (some ⟨gb, 0, none⟩) 2 2] W fun e w' => ∃ o n c, e = .returned (.slice o n c) ∧ w'.ownsRow W.heap.size 3 1 (.slice o n c) (e1.last ++ e2.last).length ((e1.last ++ e2.last).map (Value.int .i64)) ∧ Below W.heap.size W w') := hcl
        clear hcl hc4
        clear hdep hd hd10
        intro K hK
        simp only [Act.put, List.setIfInBounds_toArray, List.set_cons_zero, List.set_cons_succ]
        go_simp
        refine HCL.out.mono ?_
        rintro _ W1 ⟨o22, j22, q22, rfl, hown, hbl⟩
        have HOW : Hid (W1.ownsRow W.heap.size 3 1 (.slice o22 j22 q22) _ _ ∧ Below W.heap.size W W1) := ⟨hown, hbl⟩
        clear hown hbl HCL
        go_simp
        refine hK.out _ _ ⟨ga, o1, j1, q1, gb, o22, j22, q22, x71, x72, x73, x74, x75, x76, x77, x78, x79, x80, (.slice (some ⟨gb, 0, none⟩) 2 2), (.slice o22 j22 q22), x83, x84, x85, x86, x87, x88, x89, by simp only [Act.put, List.setIfInBounds_toArray, List.set_cons_zero, List.set_cons_succ], ?_⟩
        exact ⟨fun h => hF.out.f0 (by simpa using h), fun h => hF.out.f1 (by simpa using h), fun h => hF.out.f2 (by simpa using h), fun h => hF.out.f3 (by simpa using h), fun h => hF.out.f4 (by simpa using h), fun h => hF.out.f5 (by simpa using h), fun h => hF.out.f6 (by simpa using h), fun h => hF.out.f7 (by simpa using h), fun h => hF.out.f8 (by simpa using h), fun h => hF.out.f9 (by simpa using h), fun h => hF.out.f10 (by simpa using h), fun _ => rfl, fun h => hF.out.f12 (by simpa using h), fun h => hF.out.f13 (by simpa using h), fun h => hF.out.f14 (by simpa using h), fun h => hF.out.f15 (by simpa using h), fun h => hF.out.f16 (by simpa using h), fun h => hF.out.f17 (by simpa using h), fun h => by have := HN18.out; simp [this] at h, fun h => hF.out.f19 (by simpa using h), HKP.out.trans (Fm.below (X := fun k => k = w.heap.size + 1) HOW.out.2) (fun _ _ e => e), fun h => have z := hF.out.c4 (by simpa using h); ⟨(HOW.out.2.cell (p := ⟨ga, 0, none⟩) z.2.2.1).trans z.1, (HOW.out.2.cell (p := ⟨ga, 1, none⟩) z.2.2.1).trans z.2.1, Nat.lt_of_lt_of_le z.2.2.1 HOW.out.2.size, z.2.2.2⟩, fun h => have z := hF.out.c10 (by simpa using h); ⟨(HOW.out.2.cell (p := ⟨gb, 0, none⟩) z.2.2.1).trans z.1, (HOW.out.2.cell (p := ⟨gb, 1, none⟩) z.2.2.1).trans z.2.1, Nat.lt_of_lt_of_le z.2.2.1 HOW.out.2.size, z.2.2.2⟩, fun h => own_below (hF.out.r5 (by simpa using h)) HOW.out.2, fun _ => own_less HOW.out.1 HKP.out.size, fun h => by have := hF.out.o5 (by simpa using h); simpa using this, fun _ => by simp, fun h => by have := hF.out.o18 (by simpa using h); simpa using this, fun h => have z := hF.out.g0 (by simpa using h); (HOW.out.2.block _ ((Array.getElem?_eq_some_iff.1 z).1)).trans z, fun h => by have := HN19.out; simp [this] at h⟩
      · intro d a W hI hd hdep
        obtain ⟨ga, o1, j1, q1, gb, o2, j2, q2, x71, x72, x73, x74, x75, x76, x77, x78, x79, x80, x81, x82, x83, x84, x85, x86, x87, x88, x89, rfl, hF⟩ := hI
        clear hdep hd
        intro K hK
        simp only [Act.put, List.setIfInBounds_toArray, List.set_cons_zero, List.set_cons_succ]
        go_simp
        refine hK.out _ _ ⟨ga, o1, j1, q1, gb, o2, j2, q2, x71, x72, x73, x74, x75, x76, x77, x78, x79, x80, x81, x82, (.pointer (some ⟨w1.heap.size, 2, none⟩)), x84, x85, x86, x87, x88, x89, by simp only [Act.put, List.setIfInBounds_toArray, List.set_cons_zero, List.set_cons_succ], ?_⟩
        exact ⟨fun h => hF.out.f0 (by simpa using h), fun h => hF.out.f1 (by simpa using h), fun h => hF.out.f2 (by simpa using h), fun h => hF.out.f3 (by simpa using h), fun h => hF.out.f4 (by simpa using h), fun h => hF.out.f5 (by simpa using h), fun h => hF.out.f6 (by simpa using h), fun h => hF.out.f7 (by simpa using h), fun h => hF.out.f8 (by simpa using h), fun h => hF.out.f9 (by simpa using h), fun h => hF.out.f10 (by simpa using h), fun h => hF.out.f11 (by simpa using h), fun _ => rfl, fun h => hF.out.f13 (by simpa using h), fun h => hF.out.f14 (by simpa using h), fun h => hF.out.f15 (by simpa using h), fun h => hF.out.f16 (by simpa using h), fun h => hF.out.f17 (by simpa using h), fun h => hF.out.f18 (by simpa using h), fun h => hF.out.f19 (by simpa using h), hF.out.kp, fun h => hF.out.c4 (by simpa using h), fun h => hF.out.c10 (by simpa using h), fun h => hF.out.r5 (by simpa using h), fun h => hF.out.r11 (by simpa using h), fun h => by have := hF.out.o5 (by simpa using h); simpa using this, fun h => by have := hF.out.o11 (by simpa using h); simpa using this, fun h => by have := hF.out.o18 (by simpa using h); simpa using this, fun h => hF.out.g0 (by simpa using h), fun h => hF.out.g1 (by simpa using h)⟩
      · intro d a W hI hd hdep
        obtain ⟨ga, o1, j1, q1, gb, o2, j2, q2, x71, x72, x73, x74, x75, x76, x77, x78, x79, x80, x81, x82, x83, x84, x85, x86, x87, x88, x89, rfl, hF⟩ := hI
        have hd12 : d 12 = true := dep_of hdep 12 (by kernel_rfl)
        obtain rfl := hF.out.f12 hd12
        have HKP : Hid (Fm (fun k => k = w.heap.size + 1) w4 W) := hF.out.kp
        have a0 := ((cells3 ((HKP.out.blk _ ((Array.getElem?_eq_some_iff.1 HBXX.out.1).1) HBXX.out.2).trans HBXX.out.1))).2.2.1
        clear hdep hd hd12
        intro K hK
        simp only [Act.put, List.setIfInBounds_toArray, List.set_cons_zero, List.set_cons_succ]
        go_simp
        refine hK.out _ _ ⟨ga, o1, j1, q1, gb, o2, j2, q2, x71, x72, x73, x74, x75, x76, x77, x78, x79, x80, x81, x82, (.pointer (some ⟨w1.heap.size, 2, none⟩)), (.bool false), x85, x86, x87, x88, x89, by simp only [Act.put, List.setIfInBounds_toArray, List.set_cons_zero, List.set_cons_succ], ?_⟩
        exact ⟨fun h => hF.out.f0 (by simpa using h), fun h => hF.out.f1 (by simpa using h), fun h => hF.out.f2 (by simpa using h), fun h => hF.out.f3 (by simpa using h), fun h => hF.out.f4 (by simpa using h), fun h => hF.out.f5 (by simpa using h), fun h => hF.out.f6 (by simpa using h), fun h => hF.out.f7 (by simpa using h), fun h => hF.out.f8 (by simpa using h), fun h => hF.out.f9 (by simpa using h), fun h => hF.out.f10 (by simpa using h), fun h => hF.out.f11 (by simpa using h), fun h => hF.out.f12 (by simpa using h), fun _ => rfl, fun h => hF.out.f14 (by simpa using h), fun h => hF.out.f15 (by simpa using h), fun h => hF.out.f16 (by simpa using h), fun h => hF.out.f17 (by simpa using h), fun h => hF.out.f18 (by simpa using h), fun h => hF.out.f19 (by simpa using h), hF.out.kp, fun h => hF.out.c4 (by simpa using h), fun h => hF.out.c10 (by simpa using h), fun h => hF.out.r5 (by simpa using h), fun h => hF.out.r11 (by simpa using h), fun h => by have := hF.out.o5 (by simpa using h); simpa using this, fun h => by have := hF.out.o11 (by simpa using h); simpa using this, fun h => by have := hF.out.o18 (by simpa using h); simpa using this, fun h => hF.out.g0 (by simpa using h), fun h => hF.out.g1 (by simpa using h)⟩
      · intro d a W hI hd hdep
        obtain ⟨ga, o1, j1, q1, gb, o2, j2, q2, x71, x72, x73, x74, x75, x76, x77, x78, x79, x80, x81, x82, x83, x84, x85, x86, x87, x88, x89, rfl, hF⟩ := hI
        have hd13 : d 13 = true := dep_of hdep 13 (by kernel_rfl)
        obtain rfl := hF.out.f13 hd13
        clear hdep hd hd13
        intro K hK
        simp only [Act.put, List.setIfInBounds_toArray, List.set_cons_zero, List.set_cons_succ]
        go_simp
        refine hK.out _ _ ⟨ga, o1, j1, q1, gb, o2, j2, q2, x71, x72, x73, x74, x75, x76, x77, x78, x79, x80, x81, x82, x83, (.bool false), (.bool false), x86, x87, x88, x89, by simp only [Act.put, List.setIfInBounds_toArray, List.set_cons_zero, List.set_cons_succ], ?_⟩
        exact ⟨fun h => hF.out.f0 (by simpa using h), fun h => hF.out.f1 (by simpa using h), fun h => hF.out.f2 (by simpa using h), fun h => hF.out.f3 (by simpa using h), fun h => hF.out.f4 (by simpa using h), fun h => hF.out.f5 (by simpa using h), fun h => hF.out.f6 (by simpa using h), fun h => hF.out.f7 (by simpa using h), fun h => hF.out.f8 (by simpa using h), fun h => hF.out.f9 (by simpa using h), fun h => hF.out.f10 (by simpa using h), fun h => hF.out.f11 (by simpa using h), fun h => hF.out.f12 (by simpa using h), fun h => hF.out.f13 (by simpa using h), fun _ => rfl, fun h => hF.out.f15 (by simpa using h), fun h => hF.out.f16 (by simpa using h), fun h => hF.out.f17 (by simpa using h), fun h => hF.out.f18 (by simpa using h), fun h => hF.out.f19 (by simpa using h), hF.out.kp, fun h => hF.out.c4 (by simpa using h), fun h => hF.out.c10 (by simpa using h), fun h => hF.out.r5 (by simpa using h), fun h => hF.out.r11 (by simpa using h), fun h => by have := hF.out.o5 (by simpa using h); simpa using this, fun h => by have := hF.out.o11 (by simpa using h); simpa using this, fun h => by have := hF.out.o18 (by simpa using h); simpa using this, fun h => hF.out.g0 (by simpa using h), fun h => hF.out.g1 (by simpa using h)⟩
      · intro d a W hI hd hdep
        obtain ⟨ga, o1, j1, q1, gb, o2, j2, q2, x71, x72, x73, x74, x75, x76, x77, x78, x79, x80, x81, x82, x83, x84, x85, x86, x87, x88, x89, rfl, hF⟩ := hI
        have hd14 : d 14 = true := dep_of hdep 14 (by kernel_rfl)
        obtain rfl := hF.out.f14 hd14
        clear hdep hd hd14
        intro K hK
        simp only [Act.put, List.setIfInBounds_toArray, List.set_cons_zero, List.set_cons_succ]
        go_simp
        refine hK.out _ _ ⟨ga, o1, j1, q1, gb, o2, j2, q2, x71, x72, x73, x74, x75, x76, x77, x78, x79, x80, x81, x82, x83, x84, (.bool false), (.pointer (some ⟨w3.heap.size, 2, none⟩)), x87, x88, x89, by simp only [Act.put, List.setIfInBounds_toArray, List.set_cons_zero, List.set_cons_succ], ?_⟩
        exact ⟨fun h => hF.out.f0 (by simpa using h), fun h => hF.out.f1 (by simpa using h), fun h => hF.out.f2 (by simpa using h), fun h => hF.out.f3 (by simpa using h), fun h => hF.out.f4 (by simpa using h), fun h => hF.out.f5 (by simpa using h), fun h => hF.out.f6 (by simpa using h), fun h => hF.out.f7 (by simpa using h), fun h => hF.out.f8 (by simpa using h), fun h => hF.out.f9 (by simpa using h), fun h => hF.out.f10 (by simpa using h), fun h => hF.out.f11 (by simpa using h), fun h => hF.out.f12 (by simpa using h), fun h => hF.out.f13 (by simpa using h), fun h => hF.out.f14 (by simpa using h), fun _ => rfl, fun h => hF.out.f16 (by simpa using h), fun h => hF.out.f17 (by simpa using h), fun h => hF.out.f18 (by simpa using h), fun h => hF.out.f19 (by simpa using h), hF.out.kp, fun h => hF.out.c4 (by simpa using h), fun h => hF.out.c10 (by simpa using h), fun h => hF.out.r5 (by simpa using h), fun h => hF.out.r11 (by simpa using h), fun h => by have := hF.out.o5 (by simpa using h); simpa using this, fun h => by have := hF.out.o11 (by simpa using h); simpa using this, fun h => by have := hF.out.o18 (by simpa using h); simpa using this, fun h => hF.out.g0 (by simpa using h), fun h => hF.out.g1 (by simpa using h)⟩
      · intro d a W hI hd hdep
        obtain ⟨ga, o1, j1, q1, gb, o2, j2, q2, x71, x72, x73, x74, x75, x76, x77, x78, x79, x80, x81, x82, x83, x84, x85, x86, x87, x88, x89, rfl, hF⟩ := hI
        have hd14 : d 14 = true := dep_of hdep 14 (by kernel_rfl)
        have hd15 : d 15 = true := dep_of hdep 15 (by kernel_rfl)
        obtain rfl := hF.out.f14 hd14
        obtain rfl := hF.out.f15 hd15
        have HKP : Hid (Fm (fun k => k = w.heap.size + 1) w4 W) := hF.out.kp
        have a0 := ((cells3 ((HKP.out.blk _ ((Array.getElem?_eq_some_iff.1 HBYY.out.1).1) HBYY.out.2).trans HBYY.out.1))).2.2.1
        clear hdep hd hd14 hd15
        intro K hK
        simp only [Act.put, List.setIfInBounds_toArray, List.set_cons_zero, List.set_cons_succ]
        go_simp
        refine hK.out _ _ ⟨ga, o1, j1, q1, gb, o2, j2, q2, x71, x72, x73, x74, x75, x76, x77, x78, x79, x80, x81, x82, x83, x84, (.bool false), (.pointer (some ⟨w3.heap.size, 2, none⟩)), (.bool em2), x88, x89, by simp only [Act.put, List.setIfInBounds_toArray, List.set_cons_zero, List.set_cons_succ], ?_⟩
        exact ⟨fun h => hF.out.f0 (by simpa using h), fun h => hF.out.f1 (by simpa using h), fun h => hF.out.f2 (by simpa using h), fun h => hF.out.f3 (by simpa using h), fun h => hF.out.f4 (by simpa using h), fun h => hF.out.f5 (by simpa using h), fun h => hF.out.f6 (by simpa using h), fun h => hF.out.f7 (by simpa using h), fun h => hF.out.f8 (by simpa using h), fun h => hF.out.f9 (by simpa using h), fun h => hF.out.f10 (by simpa using h), fun h => hF.out.f11 (by simpa using h), fun h => hF.out.f12 (by simpa using h), fun h => hF.out.f13 (by simpa using h), fun h => hF.out.f14 (by simpa using h), fun h => hF.out.f15 (by simpa using h), fun _ => rfl, fun h => hF.out.f17 (by simpa using h), fun h => hF.out.f18 (by simpa using h), fun h => hF.out.f19 (by simpa using h), hF.out.kp, fun h => hF.out.c4 (by simpa using h), fun h => hF.out.c10 (by simpa using h), fun h => hF.out.r5 (by simpa using h), fun h => hF.out.r11 (by simpa using h), fun h => by have := hF.out.o5 (by simpa using h); simpa using this, fun h => by have := hF.out.o11 (by simpa using h); simpa using this, fun h => by have := hF.out.o18 (by simpa using h); simpa using this, fun h => hF.out.g0 (by simpa using h), fun h => hF.out.g1 (by simpa using h)⟩
      · intro d a W hI hd hdep
        obtain ⟨ga, o1, j1, q1, gb, o2, j2, q2, x71, x72, x73, x74, x75, x76, x77, x78, x79, x80, x81, x82, x83, x84, x85, x86, x87, x88, x89, rfl, hF⟩ := hI
        have hd14 : d 14 = true := dep_of hdep 14 (by kernel_rfl)
        have hd16 : d 16 = true := dep_of hdep 16 (by kernel_rfl)
        obtain rfl := hF.out.f14 hd14
        obtain rfl := hF.out.f16 hd16
        clear hdep hd hd14 hd16
        intro K hK
        simp only [Act.put, List.setIfInBounds_toArray, List.set_cons_zero, List.set_cons_succ]
        go_simp
        refine hK.out _ _ ⟨ga, o1, j1, q1, gb, o2, j2, q2, x71, x72, x73, x74, x75, x76, x77, x78, x79, x80, x81, x82, x83, x84, (.bool false), x86, (.bool em2), (.bool em2), x89, by simp only [Act.put, List.setIfInBounds_toArray, List.set_cons_zero, List.set_cons_succ], ?_⟩
        exact ⟨fun h => hF.out.f0 (by simpa using h), fun h => hF.out.f1 (by simpa using h), fun h => hF.out.f2 (by simpa using h), fun h => hF.out.f3 (by simpa using h), fun h => hF.out.f4 (by simpa using h), fun h => hF.out.f5 (by simpa using h), fun h => hF.out.f6 (by simpa using h), fun h => hF.out.f7 (by simpa using h), fun h => hF.out.f8 (by simpa using h), fun h => hF.out.f9 (by simpa using h), fun h => hF.out.f10 (by simpa using h), fun h => hF.out.f11 (by simpa using h), fun h => hF.out.f12 (by simpa using h), fun h => hF.out.f13 (by simpa using h), fun h => hF.out.f14 (by simpa using h), fun h => hF.out.f15 (by simpa using h), fun h => hF.out.f16 (by simpa using h), fun _ => rfl, fun h => hF.out.f18 (by simpa using h), fun h => hF.out.f19 (by simpa using h), hF.out.kp, fun h => hF.out.c4 (by simpa using h), fun h => hF.out.c10 (by simpa using h), fun h => hF.out.r5 (by simpa using h), fun h => hF.out.r11 (by simpa using h), fun h => by have := hF.out.o5 (by simpa using h); simpa using this, fun h => by have := hF.out.o11 (by simpa using h); simpa using this, fun h => by have := hF.out.o18 (by simpa using h); simpa using this, fun h => hF.out.g0 (by simpa using h), fun h => hF.out.g1 (by simpa using h)⟩
      · intro d a W hI hd hdep
        obtain ⟨ga, o1, j1, q1, gb, o2, j2, q2, x71, x72, x73, x74, x75, x76, x77, x78, x79, x80, x81, x82, x83, x84, x85, x86, x87, x88, x89, rfl, hF⟩ := hI
        have hd5 : d 5 = true := dep_of hdep 5 (by kernel_rfl)
        have hd11 : d 11 = true := dep_of hdep 11 (by kernel_rfl)
        have hd17 : d 17 = true := dep_of hdep 17 (by kernel_rfl)
        obtain rfl := hF.out.f5 hd5
        obtain rfl := hF.out.f11 hd11
        obtain rfl := hF.out.f17 hd17
        have e5 := hd5
        have e11 := hd11
        clear hdep hd hd5 hd11 hd17
        intro K hK
        simp only [Act.put, List.setIfInBounds_toArray, List.set_cons_zero, List.set_cons_succ]
        go_simp
        refine hK.out _ _ ⟨ga, o1, j1, q1, gb, o2, j2, q2, x71, x72, x73, x74, x75, (.slice o1 j1 q1), x77, x78, x79, x80, x81, (.slice o2 j2 q2), x83, x84, x85, x86, x87, (.bool em2), (.agg #[(.slice o1 j1 q1), (.slice o2 j2 q2), (.bool em2)]), by simp only [Act.put, List.setIfInBounds_toArray, List.set_cons_zero, List.set_cons_succ], ?_⟩
        exact ⟨fun h => hF.out.f0 (by simpa using h), fun h => hF.out.f1 (by simpa using h), fun h => hF.out.f2 (by simpa using h), fun h => hF.out.f3 (by simpa using h), fun h => hF.out.f4 (by simpa using h), fun h => hF.out.f5 (by simpa using h), fun h => hF.out.f6 (by simpa using h), fun h => hF.out.f7 (by simpa using h), fun h => hF.out.f8 (by simpa using h), fun h => hF.out.f9 (by simpa using h), fun h => hF.out.f10 (by simpa using h), fun h => hF.out.f11 (by simpa using h), fun h => hF.out.f12 (by simpa using h), fun h => hF.out.f13 (by simpa using h), fun h => hF.out.f14 (by simpa using h), fun h => hF.out.f15 (by simpa using h), fun h => hF.out.f16 (by simpa using h), fun h => hF.out.f17 (by simpa using h), fun _ => rfl, fun h => hF.out.f19 (by simpa using h), hF.out.kp, fun h => hF.out.c4 (by simpa using h), fun h => hF.out.c10 (by simpa using h), fun h => hF.out.r5 (by simpa using h), fun h => hF.out.r11 (by simpa using h), fun _ => by simpa using e5, fun _ => by simpa using e11, fun _ => by simp, fun h => hF.out.g0 (by simpa using h), fun h => hF.out.g1 (by simpa using h)⟩
      · intro d a W hI hd hdep
        obtain ⟨ga, o1, j1, q1, gb, o2, j2, q2, x71, x72, x73, x74, x75, x76, x77, x78, x79, x80, x81, x82, x83, x84, x85, x86, x87, x88, x89, rfl, hF⟩ := hI
        have hd18 : d 18 = true := dep_of hdep 18 (by kernel_rfl)
        obtain rfl := hF.out.f18 hd18
        have HKP : Hid (Fm (fun k => k = w.heap.size + 1) w4 W) := hF.out.kp
        have e18 := hd18
        have HG0 : Hid (W.heap[w.heap.size + 1]? = some (.cells #[.slice none 0 0, .slice none 0 0, .bool false] 137)) := hF.out.g0 hd
        have zz := cells3 HG0.out
        obtain ⟨z0, z1, z2, zf⟩ := zz
        clear hdep hd hd18
        intro K hK
        simp only [Act.put, List.setIfInBounds_toArray, List.set_cons_zero, List.set_cons_succ]
        go_simp
        refine hK.out _ _ ⟨ga, o1, j1, q1, gb, o2, j2, q2, x71, x72, x73, x74, x75, x76, x77, x78, x79, x80, x81, x82, x83, x84, x85, x86, x87, x88, (.agg #[(.slice o1 j1 q1), (.slice o2 j2 q2), (.bool em2)]), by simp only [Act.put, List.setIfInBounds_toArray, List.set_cons_zero, List.set_cons_succ], ?_⟩
        exact ⟨fun h => hF.out.f0 (by simpa using h), fun h => hF.out.f1 (by simpa using h), fun h => hF.out.f2 (by simpa using h), fun h => hF.out.f3 (by simpa using h), fun h => hF.out.f4 (by simpa using h), fun h => hF.out.f5 (by simpa using h), fun h => hF.out.f6 (by simpa using h), fun h => hF.out.f7 (by simpa using h), fun h => hF.out.f8 (by simpa using h), fun h => hF.out.f9 (by simpa using h), fun h => hF.out.f10 (by simpa using h), fun h => hF.out.f11 (by simpa using h), fun h => hF.out.f12 (by simpa using h), fun h => hF.out.f13 (by simpa using h), fun h => hF.out.f14 (by simpa using h), fun h => hF.out.f15 (by simpa using h), fun h => hF.out.f16 (by simpa using h), fun h => hF.out.f17 (by simpa using h), fun h => hF.out.f18 (by simpa using h), fun _ => trivial, ⟨HKP.out.os, HKP.out.tape, HKP.out.output, by rw [three_size]; exact HKP.out.size, fun q hq hn => (three_other _ _ _ _ _ q hn).trans (HKP.out.blk q hq hn)⟩, fun h => have z := hF.out.c4 (by simpa using h); ⟨(cell_as (three_other _ _ _ _ _ ga (by have := HL6.out; omega)) 0).trans z.1, (cell_as (three_other _ _ _ _ _ ga (by have := HL6.out; omega)) 1).trans z.2.1, by rw [three_size]; exact z.2.2.1, z.2.2.2⟩, fun h => have z := hF.out.c10 (by simpa using h); ⟨(cell_as (three_other _ _ _ _ _ gb (by have := HL6.out; omega)) 0).trans z.1, (cell_as (three_other _ _ _ _ _ gb (by have := HL6.out; omega)) 1).trans z.2.1, by rw [three_size]; exact z.2.2.1, z.2.2.2⟩, fun h => have z := hF.out.r5 (by simpa using h); own_keep z fun q hq => three_other _ _ _ _ _ q (by have := (z.lt q hq).1; have := HL6.out; omega), fun h => have z := hF.out.r11 (by simpa using h); own_keep z fun q hq => three_other _ _ _ _ _ q (by have := (z.lt q hq).1; have := HL6.out; omega), fun h => by have := hF.out.o5 (by simpa using h); simpa using this, fun h => by have := hF.out.o11 (by simpa using h); simpa using this, fun _ => by simpa using e18, fun h => by simp at h, fun _ => three HG0.out _ _ _⟩
    · intro d a W hI hall
      obtain ⟨ga, o1, j1, q1, gb, o2, j2, q2, x71, x72, x73, x74, x75, x76, x77, x78, x79, x80, x81, x82, x83, x84, x85, x86, x87, x88, x89, rfl, hF⟩ := hI
      simp only [List.length_cons, List.length_nil] at hall
      obtain rfl := hF.out.f0 (hall 0 (by omega))
      obtain rfl := hF.out.f1 (hall 1 (by omega))
      obtain rfl := hF.out.f2 (hall 2 (by omega))
      obtain rfl := hF.out.f3 (hall 3 (by omega))
      obtain rfl := hF.out.f4 (hall 4 (by omega))
      obtain rfl := hF.out.f5 (hall 5 (by omega))
      obtain rfl := hF.out.f6 (hall 6 (by omega))
      obtain rfl := hF.out.f7 (hall 7 (by omega))
      obtain rfl := hF.out.f8 (hall 8 (by omega))
      obtain rfl := hF.out.f9 (hall 9 (by omega))
      obtain rfl := hF.out.f10 (hall 10 (by omega))
      obtain rfl := hF.out.f11 (hall 11 (by omega))
      obtain rfl := hF.out.f12 (hall 12 (by omega))
      obtain rfl := hF.out.f13 (hall 13 (by omega))
      obtain rfl := hF.out.f14 (hall 14 (by omega))
      obtain rfl := hF.out.f15 (hall 15 (by omega))
      obtain rfl := hF.out.f16 (hall 16 (by omega))
      obtain rfl := hF.out.f17 (hall 17 (by omega))
      obtain rfl := hF.out.f18 (hall 18 (by omega))
      have hr1 := hF.out.r5 (hall 5 (by omega))
      have hr2 := hF.out.r11 (hall 11 (by omega))
      have HG1 : Hid (W.heap[w.heap.size + 1]? = some (.cells #[(.slice o1 j1 q1), (.slice o2 j2 q2), (.bool em2)] 137)) := hF.out.g1 (hall 19 (by omega))
      have hkp := hF.out.kp
      have hl6 := (Array.getElem?_eq_some_iff.1 HK4.out.1.1).1
      have HFIN : Hid (NO base gp v V p.follow.length w P2 v3 V3 (.slice o1 j1 q1) (.slice o2 j2 q2) (e1.first ++ e2.first) (e1.last ++ e2.last) W) := by
        have hst : St base gp v V p.follow.length w P2 v3 V3 W := HS4.out.wroteF hkp HK4.out.1.2 (by omega)
        refine ⟨hst, ⟨ints_of_own hr1 (by rw [List.length_append]; have := HLN.out; omega), fun q hq => have z := hr1.lt q hq; ⟨by have := HS4.out.fm.size; omega, z.2, fun ho => by have := HS4.out.pm.own_lt ho; omega⟩⟩, ⟨ints_of_own hr2 (by rw [List.length_append]; have := HLN.out; omega), fun q hq => have z := hr2.lt q hq; ⟨by have := HS4.out.fm.size; omega, z.2, fun ho => by have := HS4.out.pm.own_lt ho; omega⟩⟩⟩
      clear hF hall hr1 hr2 hkp
      simp only [Act.put, List.setIfInBounds_toArray, List.set_cons_zero, List.set_cons_succ]
      go_wp2_with fail
      refine bodyPost_ret (v := .agg #[(.slice o1 j1 q1), (.slice o2 j2 q2), (.bool em2)]) (results_cell_row results47 _ _ (w.heap.size + 1) 137 #[(.slice o1 j1 q1), (.slice o2 j2 q2), (.bool em2)] (0, 0) _ rfl HG1.out Try.underlying137 rfl (by kernel_rfl)) rfl ⟨v3, V3, _, _, _, _, _, _, by rw [HEM.out, HEM2.out]; simp, HFIN.out⟩
/-- At every right tree. -/
theorem layNode_any {t : T} {x : Rex.E} (h : Is t x) : LNP t x := by
  induction h with
  | none => exact ln_none
  | emp => exact ln_emp
  | byte h => exact ln_byte
  | cat h1 h2 i1 i2 => exact ln_cat i1 i2
  | alt h1 h2 i1 i2 => exact ln_alt i1 i2
  | star h i => exact ln_star i
end Go.Proofs.Ytlmlkpdppkgenaa
