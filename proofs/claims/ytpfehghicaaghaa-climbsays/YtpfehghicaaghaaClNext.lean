/-
  The contracts of climb.begin and of (*way).next.
-/
import Derived.Test.YtpfehghicaaghaaClB
import Derived.Deep.Cut
import Derived.Deep.QuietTactic
import Derived.Lib.SmallJoins
namespace Go.Proofs.Ytpfehghicaaghaa
open Go.RowKit
open Cg

def opt1 : Bool → Ev → Option Ev
  | true, e => some e
  | false, _ => none
/-- An event, if there is one. -/
def NxP (e : Ending) (o : Option Ev) : Prop := ∃ a b ok, e = .returned (.tuple #[.agg #[.int .i64 a, .int .i64 b], .bool ok]) ∧ o = opt1 ok (a, b)
def set2 (W : World) (g : Nat) (x y : Value) : World := (W.setCell ⟨g, 0, none⟩ x).setCell ⟨g, 1, none⟩ y
theorem set2_eq (W : World) (g : Nat) (x y : Value) : set2 W g x y = (W.setCell ⟨g, 0, none⟩ x).setCell ⟨g, 1, none⟩ y := rfl
theorem set2_blk {W : World} {g : Nat} {ty : TypeId} {a b : Value} (h : W.heap[g]? = some (.cells #[a, b] ty)) (x y : Value) : (set2 W g x y).heap[g]? = some (.cells #[x, y] ty) := by
  have h1 := tblock_store (i := 0) h x
  have h2 := tblock_store (i := 1) h1 y
  rw [set2_eq]
  simpa using h2
theorem set2_bel {w W : World} {g : Nat} {x y : Value} {B : Nat} (h : Below B w W) (hg : B ≤ g) : Below B w (set2 W g x y) := (h.setCell hg x).setCell hg y
theorem set2_other {W : World} {g k : Nat} {x y : Value} (hk : k ≠ g) : (set2 W g x y).heap[k]? = W.heap[k]? := by
  unfold set2
  rw [Below.heap_setCell _ _ _ _ (by simpa using hk), Below.heap_setCell _ _ _ _ (by simpa using hk)]
structure RBg (w : World) (gg : Nat) (t n : Int) (po : Option Addr) (pn pc : Nat) (ps : List Pd) (ro : Option Addr) (rn rc : Nat) (ao : Option Addr) (ln c : Nat) (l : List Td) (sn ov : Int) (dn : Bool) (col : Int) (ta : Option Addr) (tn : Nat) (tc : Nat) (gx : Nat) (d : Nat → Bool) (x8 x9 x10 x11 x12 x13 x14 x15 x16 x17 x18 : Value) (W : World) : Prop where
  f0 : d 0 = true → x9 = (.agg #[.int .i64 t, .int .i64 n, (.slice po pn pc)])
  f1 : d 1 = true → x10 = (.slice ro rn rc)
  f2 : d 2 = true → x11 = (.int .i64 col)
  f3 : d 3 = true → x12 = (.pointer (some ⟨gg + 1, 0, none⟩))
  f4 : d 4 = true → x13 = (.slice ao ln c)
  f5 : d 5 = true → x14 = (.slice ta tn tc)
  f6 : d 6 = true → x15 = (.pointer (some ⟨gg + 1, 1, none⟩))
  f7 : d 7 = true → x16 = (.int .i64 sn)
  f8 : d 8 = true → x17 = (.agg #[.int .i64 t, .int .i64 n, (.slice po pn pc), (.slice ro rn rc), .int .i64 col, .slice ta tn tc, .int .i64 sn, .slice none 0 0])
  f9 : d 9 = true → x18 = (.pointer (some ⟨gx, 0, none⟩))
  f10 : d 10 = true → x8 = (.pointer (some ⟨gx, 0, none⟩))
  o8_5 : d 8 = true → d 5 = true
  o9_8 : d 9 = true → d 8 = true
  o10_9 : d 10 = true → d 9 = true
  cb : Clb w gg (gg + 1) t n (.slice po pn pc) ps (.slice ao ln c) l sn ov dn W
  tq : d 5 = true → W.ownsRow w.heap.size 49 4 (.slice ta tn tc) l.length (tcd l)
  bx : d 9 = true → W.heap[gx]? = some (.cells #[.int .i64 t, .int .i64 n, (.slice po pn pc), (.slice ro rn rc), .int .i64 col, .slice ta tn tc, .int .i64 sn, .slice none 0 0] 103) ∧ w.heap.size ≤ gx
structure RNx (wr : World) (g k rl tc : Nat) (u0 : Bool) (u1 u2 u3 : Int) (gt : Nat) (d : Nat → Bool) (x4 x13 x14 x15 x16 x17 x18 x19 x20 x21 x22 x23 x24 : Value) (W : World) : Prop where
  f0 : d 0 = true → x13 = (.pointer (some ⟨g, 0, none⟩))
  f1 : d 1 = true → x14 = (.pointer (some ⟨g, 0, none⟩))
  f2 : d 2 = true → x15 = (.pointer (some ⟨g, 5, none⟩))
  f3 : d 3 = true → x16 = (.slice (some ⟨k, 0, none⟩) (rl + 1) tc)
  f4 : d 4 = true → x17 = (.pointer (some ⟨g, 0, none⟩))
  f5 : d 5 = true → x18 = (.pointer (some ⟨g, 0, none⟩))
  f6 : d 6 = true → x19 = (.pointer (some ⟨g, 5, none⟩))
  f7 : d 7 = true → x20 = (.slice (some ⟨k, 0, none⟩) (rl + 1) tc)
  f8 : d 8 = true → x21 = (.int .i64 ((rl : Int) + 1))
  f9 : d 9 = true → x22 = (.int .i64 (rl : Int))
  f10 : d 10 = true → x23 = (.pointer (some ⟨k, rl * 4, none⟩))
  f11 : d 11 = true → x24 = (.agg #[.bool u0, .int .i64 u1, .int .i64 u2, .int .i64 u3])
  f12 : d 12 = true → x4 = (.pointer (some ⟨gt, 0, none⟩))
  f13 : d 13 = true → True
  o13_12 : d 13 = true → d 12 = true
  bw : Below wr.heap.size wr W
  b0 : d 12 = true → d 13 = false → W.heap[gt]? = some (.cells #[.bool false, .int .i64 0, .int .i64 0, .int .i64 0] 49) ∧ wr.heap.size ≤ gt
  b1 : d 13 = true → W.heap[gt]? = some (.cells #[.bool u0, .int .i64 u1, .int .i64 u2, .int .i64 u3] 49) ∧ wr.heap.size ≤ gt
structure RNt (w wr : World) (g g2 gt : Nat) (sn u3 col : Int) (bb : Bool) (d : Nat → Bool) (x3 x36 x37 x38 x39 x40 x41 x42 x43 x44 x45 x46 x47 x48 : Value) (W : World) : Prop where
  f0 : d 0 = true → x36 = (.pointer (some ⟨g, 0, none⟩))
  f1 : d 1 = true → x37 = (.pointer (some ⟨g, 0, none⟩))
  f2 : d 2 = true → x38 = (.pointer (some ⟨g, 6, none⟩))
  f3 : d 3 = true → x39 = (.int .i64 sn)
  f4 : d 4 = true → x40 = (.agg #[.int .i64 2, .int .i64 sn])
  f5 : d 5 = true → x41 = (.pointer (some ⟨gt, 2, none⟩))
  f6 : d 6 = true → x42 = (.pointer (some ⟨gt, 3, none⟩))
  f7 : d 7 = true → x43 = (.int .i64 u3)
  f8 : d 8 = true → x44 = (.pointer (some ⟨g, 0, none⟩))
  f9 : d 9 = true → x45 = (.pointer (some ⟨g, 0, none⟩))
  f10 : d 10 = true → x46 = (.pointer (some ⟨g, 4, none⟩))
  f11 : d 11 = true → x47 = (.int .i64 col)
  f12 : d 12 = true → x48 = (.bool bb)
  f13 : d 13 = true → True
  f14 : d 14 = true → x3 = (.bool bb)
  bw : Below w.heap.size w W
  oth : ∀ p : Addr, p.block ≠ g2 → W.cell? p = wr.cell? p
  b0 : d 13 = false → W.heap[g2]? = some (.cells #[.int .i64 0, .int .i64 0] 66)
  b1 : d 13 = true → W.heap[g2]? = some (.cells #[.int .i64 2, .int .i64 sn] 66)
set_option maxHeartbeats 3200000 in
set_option maxRecDepth 20000 in
theorem wayBegin_any (t n : Int) (pv : Value) (ps : List Pd) (rv : Value) (rows : List (List Int)) (tv : Value) (l : List Td) (sn ov : Int) (dn : Bool) (col : Int) (w : World) (hp : Pds w pv ps) (hr : Rws w rv rows) (ht : Tds w tv l) (hl : l.length ≤ 60) :
    Calls Try.prog 48 #[.agg #[.int .i64 t, .int .i64 n, pv], rv, .agg #[tv, .int .i64 sn, .int .i64 ov, .bool dn], .int .i64 col] w fun e w' => ∃ g ta tn tc, e = .returned (.pointer (some ⟨g, 0, none⟩)) ∧ Wb w g t n pv rv col sn ta tn tc none 0 0 l.reverse [] w' := by
  have HC : Hid _ := Clb.box hp ht t n sn ov dn
  have HLEN : Hid (l.length ≤ 60) := hl
  obtain ⟨ao, c, rfl, hm, -⟩ := ht
  obtain ⟨po, pc, rfl, hpm, -⟩ := hp
  obtain ⟨ro, rc, rfl, hrm, -⟩ := hr
  clear hl
  go_enter Try.func48, Try.ntmps48
  go_upto_region 1 with fail
  generalize ((w.alloc (Obj.cells #[.int .i64 t, .int .i64 n, .slice po ps.length pc] 24)).alloc (Obj.cells #[.slice ao l.length c, .int .i64 sn, .int .i64 ov, .bool dn] 43)) = w1 at HC ⊢
  obtain ⟨g, HG⟩ : ∃ g, Hid (w.heap.size = g) := ⟨_, (rfl : w.heap.size = w.heap.size)⟩
  rw [HG.out] at HC ⊢
  refine wp_region_free mixed (fun a0 d a W => ∃ (ta : Option Addr) (tn : Nat) (tc : Nat) (gx : Nat) (x8 x9 x10 x11 x12 x13 x14 x15 x16 x17 x18 : Value), a = (((((((((((a0.put (some 8) x8).put (some 9) x9).put (some 10) x10).put (some 11) x11).put (some 12) x12).put (some 13) x13).put (some 14) x14).put (some 15) x15).put (some 16) x16).put (some 17) x17).put (some 18) x18) ∧ Hid (RBg w g t n po ps.length pc ps ro rows.length rc ao l.length c l sn ov dn col ta tn tc gx d x8 x9 x10 x11 x12 x13 x14 x15 x16 x17 x18 W)) (by kernel_rfl) ⟨none, 0, 0, 0, (.pointer none), undef, undef, undef, undef, undef, undef, undef, undef, undef, undef, by first | (simp only [Act.put, List.setIfInBounds_toArray, List.set_cons_zero, List.set_cons_succ]; done) | (simp only [Act.put, List.setIfInBounds_toArray, List.set_cons_zero, List.set_cons_succ]; rfl), ?_⟩ ?_ ?_
  · exact ⟨fun h => no_way h, fun h => no_way h, fun h => no_way h, fun h => no_way h, fun h => no_way h, fun h => no_way h, fun h => no_way h, fun h => no_way h, fun h => no_way h, fun h => no_way h, fun h => no_way h, fun h => no_way h, fun h => no_way h, fun h => no_way h, HC.out.next ((Below.refl _ _).drew), fun h => no_way h, fun h => no_way h⟩
  · simp only [StepAll, and_true]
    refine ⟨?_, ?_, ?_, ?_, ?_, ?_, ?_, ?_, ?_, ?_, ?_⟩
    · intro d a W hI hd hdep
      obtain ⟨ta, tn, tc, gx, x8, x9, x10, x11, x12, x13, x14, x15, x16, x17, x18, rfl, hF⟩ := hI
      have hcb := hF.out.cb
      have z0 := hcb.gb.c0
      have z1 := hcb.gb.c1
      have z2 := hcb.gb.c2
      clear hdep hd
      intro K hK
      simp only [Act.put, List.setIfInBounds_toArray, List.set_cons_zero, List.set_cons_succ]
      go_simp
      refine hK.out _ _ ⟨ta, tn, tc, gx, x8, (.agg #[.int .i64 t, .int .i64 n, (.slice po ps.length pc)]), x10, x11, x12, x13, x14, x15, x16, x17, x18, by first | (simp only [Act.put, List.setIfInBounds_toArray, List.set_cons_zero, List.set_cons_succ]; done) | (simp only [Act.put, List.setIfInBounds_toArray, List.set_cons_zero, List.set_cons_succ]; rfl), ?_⟩
      exact ⟨fun _ => rfl, fun h => hF.out.f1 (by simpa using h), fun h => hF.out.f2 (by simpa using h), fun h => hF.out.f3 (by simpa using h), fun h => hF.out.f4 (by simpa using h), fun h => hF.out.f5 (by simpa using h), fun h => hF.out.f6 (by simpa using h), fun h => hF.out.f7 (by simpa using h), fun h => hF.out.f8 (by simpa using h), fun h => hF.out.f9 (by simpa using h), fun h => hF.out.f10 (by simpa using h), fun h => by have := hF.out.o8_5 (by simpa using h); simpa using this, fun h => by have := hF.out.o9_8 (by simpa using h); simpa using this, fun h => by have := hF.out.o10_9 (by simpa using h); simpa using this, hF.out.cb, fun h => hF.out.tq (by simpa using h), fun h => hF.out.bx (by simpa using h)⟩
    · intro d a W hI hd hdep
      obtain ⟨ta, tn, tc, gx, x8, x9, x10, x11, x12, x13, x14, x15, x16, x17, x18, rfl, hF⟩ := hI
      clear hdep hd
      intro K hK
      simp only [Act.put, List.setIfInBounds_toArray, List.set_cons_zero, List.set_cons_succ]
      go_simp
      refine hK.out _ _ ⟨ta, tn, tc, gx, x8, x9, (.slice ro rows.length rc), x11, x12, x13, x14, x15, x16, x17, x18, by first | (simp only [Act.put, List.setIfInBounds_toArray, List.set_cons_zero, List.set_cons_succ]; done) | (simp only [Act.put, List.setIfInBounds_toArray, List.set_cons_zero, List.set_cons_succ]; rfl), ?_⟩
      exact ⟨fun h => hF.out.f0 (by simpa using h), fun _ => rfl, fun h => hF.out.f2 (by simpa using h), fun h => hF.out.f3 (by simpa using h), fun h => hF.out.f4 (by simpa using h), fun h => hF.out.f5 (by simpa using h), fun h => hF.out.f6 (by simpa using h), fun h => hF.out.f7 (by simpa using h), fun h => hF.out.f8 (by simpa using h), fun h => hF.out.f9 (by simpa using h), fun h => hF.out.f10 (by simpa using h), fun h => by have := hF.out.o8_5 (by simpa using h); simpa using this, fun h => by have := hF.out.o9_8 (by simpa using h); simpa using this, fun h => by have := hF.out.o10_9 (by simpa using h); simpa using this, hF.out.cb, fun h => hF.out.tq (by simpa using h), fun h => hF.out.bx (by simpa using h)⟩
    · intro d a W hI hd hdep
      obtain ⟨ta, tn, tc, gx, x8, x9, x10, x11, x12, x13, x14, x15, x16, x17, x18, rfl, hF⟩ := hI
      clear hdep hd
      intro K hK
      simp only [Act.put, List.setIfInBounds_toArray, List.set_cons_zero, List.set_cons_succ]
      go_simp
      refine hK.out _ _ ⟨ta, tn, tc, gx, x8, x9, x10, (.int .i64 col), x12, x13, x14, x15, x16, x17, x18, by first | (simp only [Act.put, List.setIfInBounds_toArray, List.set_cons_zero, List.set_cons_succ]; done) | (simp only [Act.put, List.setIfInBounds_toArray, List.set_cons_zero, List.set_cons_succ]; rfl), ?_⟩
      exact ⟨fun h => hF.out.f0 (by simpa using h), fun h => hF.out.f1 (by simpa using h), fun _ => rfl, fun h => hF.out.f3 (by simpa using h), fun h => hF.out.f4 (by simpa using h), fun h => hF.out.f5 (by simpa using h), fun h => hF.out.f6 (by simpa using h), fun h => hF.out.f7 (by simpa using h), fun h => hF.out.f8 (by simpa using h), fun h => hF.out.f9 (by simpa using h), fun h => hF.out.f10 (by simpa using h), fun h => by have := hF.out.o8_5 (by simpa using h); simpa using this, fun h => by have := hF.out.o9_8 (by simpa using h); simpa using this, fun h => by have := hF.out.o10_9 (by simpa using h); simpa using this, hF.out.cb, fun h => hF.out.tq (by simpa using h), fun h => hF.out.bx (by simpa using h)⟩
    · intro d a W hI hd hdep
      obtain ⟨ta, tn, tc, gx, x8, x9, x10, x11, x12, x13, x14, x15, x16, x17, x18, rfl, hF⟩ := hI
      clear hdep hd
      intro K hK
      simp only [Act.put, List.setIfInBounds_toArray, List.set_cons_zero, List.set_cons_succ]
      go_simp
      refine hK.out _ _ ⟨ta, tn, tc, gx, x8, x9, x10, x11, (.pointer (some ⟨g + 1, 0, none⟩)), x13, x14, x15, x16, x17, x18, by first | (simp only [Act.put, List.setIfInBounds_toArray, List.set_cons_zero, List.set_cons_succ]; done) | (simp only [Act.put, List.setIfInBounds_toArray, List.set_cons_zero, List.set_cons_succ]; rfl), ?_⟩
      exact ⟨fun h => hF.out.f0 (by simpa using h), fun h => hF.out.f1 (by simpa using h), fun h => hF.out.f2 (by simpa using h), fun _ => rfl, fun h => hF.out.f4 (by simpa using h), fun h => hF.out.f5 (by simpa using h), fun h => hF.out.f6 (by simpa using h), fun h => hF.out.f7 (by simpa using h), fun h => hF.out.f8 (by simpa using h), fun h => hF.out.f9 (by simpa using h), fun h => hF.out.f10 (by simpa using h), fun h => by have := hF.out.o8_5 (by simpa using h); simpa using this, fun h => by have := hF.out.o9_8 (by simpa using h); simpa using this, fun h => by have := hF.out.o10_9 (by simpa using h); simpa using this, hF.out.cb, fun h => hF.out.tq (by simpa using h), fun h => hF.out.bx (by simpa using h)⟩
    · intro d a W hI hd hdep
      obtain ⟨ta, tn, tc, gx, x8, x9, x10, x11, x12, x13, x14, x15, x16, x17, x18, rfl, hF⟩ := hI
      have hd3 : d 3 = true := dep_of hdep 3 (by kernel_rfl)
      obtain rfl := hF.out.f3 hd3
      have hcb := hF.out.cb
      have q0 := tcell_blk hcb.c 0
      simp only [List.getElem?_toArray, List.getElem?_cons_zero] at q0
      clear hdep hd hd3
      intro K hK
      simp only [Act.put, List.setIfInBounds_toArray, List.set_cons_zero, List.set_cons_succ]
      go_simp
      refine hK.out _ _ ⟨ta, tn, tc, gx, x8, x9, x10, x11, (.pointer (some ⟨g + 1, 0, none⟩)), (.slice ao l.length c), x14, x15, x16, x17, x18, by first | (simp only [Act.put, List.setIfInBounds_toArray, List.set_cons_zero, List.set_cons_succ]; done) | (simp only [Act.put, List.setIfInBounds_toArray, List.set_cons_zero, List.set_cons_succ]; rfl), ?_⟩
      exact ⟨fun h => hF.out.f0 (by simpa using h), fun h => hF.out.f1 (by simpa using h), fun h => hF.out.f2 (by simpa using h), fun h => hF.out.f3 (by simpa using h), fun _ => rfl, fun h => hF.out.f5 (by simpa using h), fun h => hF.out.f6 (by simpa using h), fun h => hF.out.f7 (by simpa using h), fun h => hF.out.f8 (by simpa using h), fun h => hF.out.f9 (by simpa using h), fun h => hF.out.f10 (by simpa using h), fun h => by have := hF.out.o8_5 (by simpa using h); simpa using this, fun h => by have := hF.out.o9_8 (by simpa using h); simpa using this, fun h => by have := hF.out.o10_9 (by simpa using h); simpa using this, hF.out.cb, fun h => hF.out.tq (by simpa using h), fun h => hF.out.bx (by simpa using h)⟩
    · intro d a W hI hd hdep
      obtain ⟨ta, tn, tc, gx, x8, x9, x10, x11, x12, x13, x14, x15, x16, x17, x18, rfl, hF⟩ := hI
      have hd4 : d 4 = true := dep_of hdep 4 (by kernel_rfl)
      obtain rfl := hF.out.f4 hd4
      have HD8 : Hid (d 8 = false) := no_later hF.out.o8_5 hd
      have HD9 : Hid (d 9 = false) := no_later (fun h => hF.out.o8_5 (hF.out.o9_8 h)) hd
      have hcb := hF.out.cb
      have hcall := copied_any (.slice ao l.length c) l W hcb.td (by have := HLEN.out; omega)
      clear hdep hd hd4
      intro K hK
      simp only [Act.put, List.setIfInBounds_toArray, List.set_cons_zero, List.set_cons_succ]
      go_simp
      refine hcall.mono ?_
      rintro _ W2 ⟨ta9, tn9, tc9, rfl, hdq⟩
      have hcb2 := hcb.next hdq.bel
      go_simp
      refine hK.out _ _ ⟨ta9, tn9, tc9, gx, x8, x9, x10, x11, x12, (.slice ao l.length c), (.slice ta9 tn9 tc9), x15, x16, x17, x18, by first | (simp only [Act.put, List.setIfInBounds_toArray, List.set_cons_zero, List.set_cons_succ]; done) | (simp only [Act.put, List.setIfInBounds_toArray, List.set_cons_zero, List.set_cons_succ]; rfl), ?_⟩
      exact ⟨fun h => hF.out.f0 (by simpa using h), fun h => hF.out.f1 (by simpa using h), fun h => hF.out.f2 (by simpa using h), fun h => hF.out.f3 (by simpa using h), fun h => hF.out.f4 (by simpa using h), fun _ => rfl, fun h => hF.out.f6 (by simpa using h), fun h => hF.out.f7 (by simpa using h), fun h => by have := HD8.out; simp [this] at h, fun h => hF.out.f9 (by simpa using h), fun h => hF.out.f10 (by simpa using h), fun _ => by simp, fun h => by have := hF.out.o9_8 (by simpa using h); simpa using this, fun h => by have := hF.out.o10_9 (by simpa using h); simpa using this, hcb2, fun _ => own_less hdq.own hcb.gb.below.size, fun h => by have := HD9.out; simp [this] at h⟩
    · intro d a W hI hd hdep
      obtain ⟨ta, tn, tc, gx, x8, x9, x10, x11, x12, x13, x14, x15, x16, x17, x18, rfl, hF⟩ := hI
      clear hdep hd
      intro K hK
      simp only [Act.put, List.setIfInBounds_toArray, List.set_cons_zero, List.set_cons_succ]
      go_simp
      refine hK.out _ _ ⟨ta, tn, tc, gx, x8, x9, x10, x11, x12, x13, x14, (.pointer (some ⟨g + 1, 1, none⟩)), x16, x17, x18, by first | (simp only [Act.put, List.setIfInBounds_toArray, List.set_cons_zero, List.set_cons_succ]; done) | (simp only [Act.put, List.setIfInBounds_toArray, List.set_cons_zero, List.set_cons_succ]; rfl), ?_⟩
      exact ⟨fun h => hF.out.f0 (by simpa using h), fun h => hF.out.f1 (by simpa using h), fun h => hF.out.f2 (by simpa using h), fun h => hF.out.f3 (by simpa using h), fun h => hF.out.f4 (by simpa using h), fun h => hF.out.f5 (by simpa using h), fun _ => rfl, fun h => hF.out.f7 (by simpa using h), fun h => hF.out.f8 (by simpa using h), fun h => hF.out.f9 (by simpa using h), fun h => hF.out.f10 (by simpa using h), fun h => by have := hF.out.o8_5 (by simpa using h); simpa using this, fun h => by have := hF.out.o9_8 (by simpa using h); simpa using this, fun h => by have := hF.out.o10_9 (by simpa using h); simpa using this, hF.out.cb, fun h => hF.out.tq (by simpa using h), fun h => hF.out.bx (by simpa using h)⟩
    · intro d a W hI hd hdep
      obtain ⟨ta, tn, tc, gx, x8, x9, x10, x11, x12, x13, x14, x15, x16, x17, x18, rfl, hF⟩ := hI
      have hd6 : d 6 = true := dep_of hdep 6 (by kernel_rfl)
      obtain rfl := hF.out.f6 hd6
      have hcb := hF.out.cb
      have q1 := tcell_blk hcb.c 1
      simp only [List.getElem?_toArray, List.getElem?_cons_zero, List.getElem?_cons_succ] at q1
      clear hdep hd hd6
      intro K hK
      simp only [Act.put, List.setIfInBounds_toArray, List.set_cons_zero, List.set_cons_succ]
      go_simp
      refine hK.out _ _ ⟨ta, tn, tc, gx, x8, x9, x10, x11, x12, x13, x14, (.pointer (some ⟨g + 1, 1, none⟩)), (.int .i64 sn), x17, x18, by first | (simp only [Act.put, List.setIfInBounds_toArray, List.set_cons_zero, List.set_cons_succ]; done) | (simp only [Act.put, List.setIfInBounds_toArray, List.set_cons_zero, List.set_cons_succ]; rfl), ?_⟩
      exact ⟨fun h => hF.out.f0 (by simpa using h), fun h => hF.out.f1 (by simpa using h), fun h => hF.out.f2 (by simpa using h), fun h => hF.out.f3 (by simpa using h), fun h => hF.out.f4 (by simpa using h), fun h => hF.out.f5 (by simpa using h), fun h => hF.out.f6 (by simpa using h), fun _ => rfl, fun h => hF.out.f8 (by simpa using h), fun h => hF.out.f9 (by simpa using h), fun h => hF.out.f10 (by simpa using h), fun h => by have := hF.out.o8_5 (by simpa using h); simpa using this, fun h => by have := hF.out.o9_8 (by simpa using h); simpa using this, fun h => by have := hF.out.o10_9 (by simpa using h); simpa using this, hF.out.cb, fun h => hF.out.tq (by simpa using h), fun h => hF.out.bx (by simpa using h)⟩
    · intro d a W hI hd hdep
      obtain ⟨ta, tn, tc, gx, x8, x9, x10, x11, x12, x13, x14, x15, x16, x17, x18, rfl, hF⟩ := hI
      have hd0 : d 0 = true := dep_of hdep 0 (by kernel_rfl)
      have hd1 : d 1 = true := dep_of hdep 1 (by kernel_rfl)
      have hd2 : d 2 = true := dep_of hdep 2 (by kernel_rfl)
      have hd5 : d 5 = true := dep_of hdep 5 (by kernel_rfl)
      have hd7 : d 7 = true := dep_of hdep 7 (by kernel_rfl)
      obtain rfl := hF.out.f0 hd0
      obtain rfl := hF.out.f1 hd1
      obtain rfl := hF.out.f2 hd2
      obtain rfl := hF.out.f5 hd5
      obtain rfl := hF.out.f7 hd7
      have e8_5 := hd5
      clear hdep hd hd0 hd1 hd2 hd5 hd7
      intro K hK
      simp only [Act.put, List.setIfInBounds_toArray, List.set_cons_zero, List.set_cons_succ]
      go_simp
      refine hK.out _ _ ⟨ta, tn, tc, gx, x8, (.agg #[.int .i64 t, .int .i64 n, (.slice po ps.length pc)]), (.slice ro rows.length rc), (.int .i64 col), x12, x13, (.slice ta tn tc), x15, (.int .i64 sn), (.agg #[.int .i64 t, .int .i64 n, (.slice po ps.length pc), (.slice ro rows.length rc), .int .i64 col, .slice ta tn tc, .int .i64 sn, .slice none 0 0]), x18, by first | (simp only [Act.put, List.setIfInBounds_toArray, List.set_cons_zero, List.set_cons_succ]; done) | (simp only [Act.put, List.setIfInBounds_toArray, List.set_cons_zero, List.set_cons_succ]; rfl), ?_⟩
      exact ⟨fun h => hF.out.f0 (by simpa using h), fun h => hF.out.f1 (by simpa using h), fun h => hF.out.f2 (by simpa using h), fun h => hF.out.f3 (by simpa using h), fun h => hF.out.f4 (by simpa using h), fun h => hF.out.f5 (by simpa using h), fun h => hF.out.f6 (by simpa using h), fun h => hF.out.f7 (by simpa using h), fun _ => rfl, fun h => hF.out.f9 (by simpa using h), fun h => hF.out.f10 (by simpa using h), fun _ => by simpa using e8_5, fun _ => by simp, fun h => by have := hF.out.o10_9 (by simpa using h); simpa using this, hF.out.cb, fun h => hF.out.tq (by simpa using h), fun h => hF.out.bx (by simpa using h)⟩
    · intro d a W hI hd hdep
      obtain ⟨ta, tn, tc, gx, x8, x9, x10, x11, x12, x13, x14, x15, x16, x17, x18, rfl, hF⟩ := hI
      have hd8 : d 8 = true := dep_of hdep 8 (by kernel_rfl)
      obtain rfl := hF.out.f8 hd8
      have e9_8 := hd8
      have HB9 := below_alloc W (Obj.cells #[.int .i64 t, .int .i64 n, (.slice po ps.length pc), (.slice ro rows.length rc), .int .i64 col, .slice ta tn tc, .int .i64 sn, .slice none 0 0] 103)
      have HN9 := heap_alloc_new W (Obj.cells #[.int .i64 t, .int .i64 n, (.slice po ps.length pc), (.slice ro rows.length rc), .int .i64 col, .slice ta tn tc, .int .i64 sn, .slice none 0 0] 103)
      have hcb := hF.out.cb
      have hcb2 := hcb.next HB9
      have htq := fun h => own_below (hF.out.tq h) HB9
      have HD10 : Hid (d 10 = false) := no_later hF.out.o10_9 hd
      clear hdep hd hd8
      intro K hK
      simp only [Act.put, List.setIfInBounds_toArray, List.set_cons_zero, List.set_cons_succ]
      go_simp
      refine hK.out _ _ ⟨ta, tn, tc, W.heap.size, x8, x9, x10, x11, x12, x13, x14, x15, x16, (.agg #[.int .i64 t, .int .i64 n, (.slice po ps.length pc), (.slice ro rows.length rc), .int .i64 col, .slice ta tn tc, .int .i64 sn, .slice none 0 0]), (.pointer (some ⟨W.heap.size, 0, none⟩)), by first | (simp only [Act.put, List.setIfInBounds_toArray, List.set_cons_zero, List.set_cons_succ]; done) | (simp only [Act.put, List.setIfInBounds_toArray, List.set_cons_zero, List.set_cons_succ]; rfl), ?_⟩
      exact ⟨fun h => hF.out.f0 (by simpa using h), fun h => hF.out.f1 (by simpa using h), fun h => hF.out.f2 (by simpa using h), fun h => hF.out.f3 (by simpa using h), fun h => hF.out.f4 (by simpa using h), fun h => hF.out.f5 (by simpa using h), fun h => hF.out.f6 (by simpa using h), fun h => hF.out.f7 (by simpa using h), fun h => hF.out.f8 (by simpa using h), fun _ => rfl, fun h => by have := HD10.out; simp [this] at h, fun h => by have := hF.out.o8_5 (by simpa using h); simpa using this, fun _ => by simpa using e9_8, fun _ => by simp, hcb2, fun h => htq (by simpa using h), fun _ => ⟨HN9, hcb.gb.below.size⟩⟩
    · intro d a W hI hd hdep
      obtain ⟨ta, tn, tc, gx, x8, x9, x10, x11, x12, x13, x14, x15, x16, x17, x18, rfl, hF⟩ := hI
      have hd9 : d 9 = true := dep_of hdep 9 (by kernel_rfl)
      obtain rfl := hF.out.f9 hd9
      have e10_9 := hd9
      clear hdep hd hd9
      intro K hK
      simp only [Act.put, List.setIfInBounds_toArray, List.set_cons_zero, List.set_cons_succ]
      go_simp
      refine hK.out _ _ ⟨ta, tn, tc, gx, (.pointer (some ⟨gx, 0, none⟩)), x9, x10, x11, x12, x13, x14, x15, x16, x17, (.pointer (some ⟨gx, 0, none⟩)), by first | (simp only [Act.put, List.setIfInBounds_toArray, List.set_cons_zero, List.set_cons_succ]; done) | (simp only [Act.put, List.setIfInBounds_toArray, List.set_cons_zero, List.set_cons_succ]; rfl), ?_⟩
      exact ⟨fun h => hF.out.f0 (by simpa using h), fun h => hF.out.f1 (by simpa using h), fun h => hF.out.f2 (by simpa using h), fun h => hF.out.f3 (by simpa using h), fun h => hF.out.f4 (by simpa using h), fun h => hF.out.f5 (by simpa using h), fun h => hF.out.f6 (by simpa using h), fun h => hF.out.f7 (by simpa using h), fun h => hF.out.f8 (by simpa using h), fun h => hF.out.f9 (by simpa using h), fun _ => rfl, fun h => by have := hF.out.o8_5 (by simpa using h); simpa using this, fun h => by have := hF.out.o9_8 (by simpa using h); simpa using this, fun _ => by simpa using e10_9, hF.out.cb, fun h => hF.out.tq (by simpa using h), fun h => hF.out.bx (by simpa using h)⟩
  · intro d a W hI hall
    obtain ⟨ta, tn, tc, gx, x8, x9, x10, x11, x12, x13, x14, x15, x16, x17, x18, rfl, hF⟩ := hI
    simp only [List.length_cons, List.length_nil] at hall
    obtain rfl := hF.out.f0 (hall 0 (by omega))
    obtain rfl := hF.out.f1 (hall 1 (by omega))
    obtain rfl := hF.out.f2 (hall 2 (by omega))
    obtain rfl := hF.out.f3 (hall 3 (by omega))
    obtain rfl := hF.out.f4 (hall 4 (by omega))
    obtain rfl := hF.out.f5 (hall 5 (by omega))
    obtain rfl := hF.out.f6 (hall 6 (by omega))
    obtain rfl := hF.out.f7 (hall 7 (by omega))
    obtain rfl := hF.out.f8 (hall 8 (by omega))
    obtain rfl := hF.out.f9 (hall 9 (by omega))
    obtain rfl := hF.out.f10 (hall 10 (by omega))
    have hbx := hF.out.bx (hall 9 (by omega))
    have HFIN : Hid (Wb w gx t n (.slice po ps.length pc) (.slice ro rows.length rc) col sn ta tn tc none 0 0 l.reverse [] W) :=
      ⟨hbx.1, by rw [List.reverse_reverse, List.length_reverse]; exact hF.out.tq (hall 5 (by omega)), World.ownsRow_nil _ _ _ _, hbx.2, hF.out.cb.gb.below⟩
    clear hF hall hbx
    simp only [Act.put, List.setIfInBounds_toArray, List.set_cons_zero, List.set_cons_succ]
    go_wp2_with fail
    go_ret
    exact ⟨_, _, _, _, rfl, HFIN.out⟩
set_option maxHeartbeats 6400000 in
set_option maxRecDepth 20000 in
theorem next_any (w0 : World) (g : Nat) (t : Int) (n : Nat) (pv : Value) (ps : List Pd) (rv : Value) (rows : List (List Int)) (col : Nat) (sn : Int) (ta : Option Addr) (tn tc : Nat) (ea : Option Addr) (en ec : Nat) (td : List Td) (ev : List Ev) (w : World) (h : Wb w0 g t (n : Int) pv rv (col : Int) sn ta tn tc ea en ec td ev w)
    (hr : Rws w0 rv rows) (hrl : rows.length = n) (hrw : ∀ i (hi : i < rows.length), col < rows[i].length) (htd : ∀ x ∈ td, okT t (n : Int) ps x = true) (hlen : td.length ≤ 60) :
    Calls Try.prog 96 #[.pointer (some ⟨g, 0, none⟩)] w fun e w' => NxP e (nx1 (rwF rows col) (col : Int) sn td) ∧ Below w.heap.size w w' := by
  match td with
  | [] =>
    obtain ⟨rfl, rfl⟩ := h.lens
    have HB1 : Hid (Below w.heap.size w (w.alloc (Obj.cells #[.int .i64 0, .int .i64 0] 66))) := below_alloc _ _
    have HN1 : Hid _ := heap_alloc_new w (Obj.cells #[.int .i64 0, .int .i64 0] 66)
    have HW1 : Hid _ := h.next HB1.out
    go_enter Try.func96, Try.ntmps96
    go_upto_region 1 with fail
    obtain ⟨g2, HG2⟩ : ∃ g2, Hid (w.heap.size = g2) := ⟨_, (rfl : w.heap.size = w.heap.size)⟩
    have HG3 : Hid (g < g2) := by show g < g2; have := heap_lt3 h.blk; have := HG2.out; omega
    clear h
    generalize w.alloc (Obj.cells #[.int .i64 0, .int .i64 0] 66) = w1 at HB1 HN1 HW1 ⊢
    rw [HG2.out] at HN1 HB1 ⊢
    have q5 := tcell_blk HW1.out.blk 5
    simp only [List.getElem?_toArray, List.getElem?_cons_zero, List.getElem?_cons_succ] at q5
    have p0 := tcell_blk HN1.out 0
    have p1 := tcell_blk HN1.out 1
    have f0 := tfrozen_blk HN1.out 0
    have f1 := tfrozen_blk HN1.out 1
    simp only [List.getElem?_toArray, List.getElem?_cons_zero, List.getElem?_cons_succ] at p0 p1
    go_wp2_with fail
    rw [← set2_eq]
    have z := set2_blk HN1.out (.int .i64 0) (.int .i64 0)
    have z0 := tcell_blk z 0
    have z1 := tcell_blk z 1
    simp only [List.getElem?_toArray, List.getElem?_cons_zero, List.getElem?_cons_succ] at z0 z1
    have HFIN : Hid (Below w.heap.size w (set2 w1 g2 (.int .i64 0) (.int .i64 0))) := set2_bel (by rw [HG2.out]; exact HB1.out) (by have := HG2.out; omega)
    exact bodyPost_ret (v := .tuple #[.agg #[.int .i64 0, .int .i64 0], .bool false]) (by simp [results, Try.results96, go_sem, z0, z1]) rfl ⟨⟨_, _, _, rfl, rfl⟩, HFIN.out⟩
  | x :: r =>
    obtain ⟨k, rfl, rfl, hk1, hk2, hc0, hc1, hc2, hc3⟩ := h.top
    have hx := htd x (by simp)
    have HRL : Hid (r.length + 1 ≤ 60) := hlen
    obtain ⟨u0, u1, u2, u3⟩ := x
    simp only at hc0 hc1 hc2 hc3
    have HTC0 : Hid (k < w.heap.size) := hk1
    have HB1 : Hid (Below w.heap.size w (w.alloc (Obj.cells #[.int .i64 0, .int .i64 0] 66))) := below_alloc _ _
    have HN1 : Hid _ := heap_alloc_new w (Obj.cells #[.int .i64 0, .int .i64 0] 66)
    have HW1 : Hid _ := h.next HB1.out
    go_enter Try.func96, Try.ntmps96
    go_upto_region 1 with fail
    obtain ⟨g2, HG2⟩ : ∃ g2, Hid (w.heap.size = g2) := ⟨_, (rfl : w.heap.size = w.heap.size)⟩
    have HG3 : Hid (g < g2) := by show g < g2; have := heap_lt3 h.blk; have := HG2.out; omega
    clear h
    generalize w.alloc (Obj.cells #[.int .i64 0, .int .i64 0] 66) = w1 at HB1 HN1 HW1 ⊢
    rw [HG2.out] at HN1 HB1 ⊢
    have HLT : Hid (g < w1.heap.size ∧ k < w1.heap.size) := ⟨heap_lt3 HW1.out.blk, by have := HB1.out.size; have := HTC0.out; rw [← HG2.out] at *; exact Nat.lt_of_lt_of_le HTC0.out (by have := HB1.out.size; rw [← HG2.out] at this; exact this)⟩
    have q5 := tcell_blk HW1.out.blk 5
    simp only [List.getElem?_toArray, List.getElem?_cons_zero, List.getElem?_cons_succ] at q5
    have HT5 : Hid (w1.cell? ⟨g, 5, none⟩ = some (.slice (some ⟨k, 0, none⟩) (r.length + 1) tc)) := q5
    have HTC : Hid (w1.cell? ⟨k, r.length * 4, none⟩ = some (.bool u0) ∧ w1.cell? ⟨k, r.length * 4 + 1, none⟩ = some (.int .i64 u1) ∧ w1.cell? ⟨k, r.length * 4 + 2, none⟩ = some (.int .i64 u2) ∧ w1.cell? ⟨k, r.length * 4 + 3, none⟩ = some (.int .i64 u3)) := by
      obtain ⟨k', e1, -, -, -, e2, e3, e4, e5⟩ := HW1.out.top
      simp only [Option.some.injEq, Addr.mk.injEq] at e1
      obtain ⟨rfl, -, -⟩ := e1
      exact ⟨e2, e3, e4, e5⟩
    have hz : (((r.length + 1 : Nat) : Int) == 0) = false := by simp; omega
    have hz2 : (((r.length : Int) + 1) == 0) = false := by simp; omega
    clear hc0 hc1 hc2 hc3 hk1 hk2 HTC0
    go_upto_region 3 with fail
    clear q5 hz hz2
    refine wp_region_free mixed (fun a0 d a W => ∃ (gt : Nat) (x4 x13 x14 x15 x16 x17 x18 x19 x20 x21 x22 x23 x24 : Value), a = (((((((((((((a0.put (some 4) x4).put (some 13) x13).put (some 14) x14).put (some 15) x15).put (some 16) x16).put (some 17) x17).put (some 18) x18).put (some 19) x19).put (some 20) x20).put (some 21) x21).put (some 22) x22).put (some 23) x23).put (some 24) x24) ∧ Hid (RNx w1 g k r.length tc u0 u1 u2 u3 gt d x4 x13 x14 x15 x16 x17 x18 x19 x20 x21 x22 x23 x24 W)) (by kernel_rfl) ⟨0, undef, undef, undef, undef, undef, undef, undef, undef, undef, undef, undef, undef, undef, by first | (simp only [Act.put, List.setIfInBounds_toArray, List.set_cons_zero, List.set_cons_succ]; done) | (simp only [Act.put, List.setIfInBounds_toArray, List.set_cons_zero, List.set_cons_succ]; rfl), ?_⟩ ?_ ?_
    · exact ⟨fun h => no_way h, fun h => no_way h, fun h => no_way h, fun h => no_way h, fun h => no_way h, fun h => no_way h, fun h => no_way h, fun h => no_way h, fun h => no_way h, fun h => no_way h, fun h => no_way h, fun h => no_way h, fun h => no_way h, fun _ => trivial, fun h => no_way h, (Below.refl _ _).drew, fun h => no_way h, fun h => no_way h⟩
    · simp only [StepAll, and_true]
      refine ⟨?_, ?_, ?_, ?_, ?_, ?_, ?_, ?_, ?_, ?_, ?_, ?_, ?_, ?_⟩
      · intro d a W hI hd hdep
        obtain ⟨gt, x4, x13, x14, x15, x16, x17, x18, x19, x20, x21, x22, x23, x24, rfl, hF⟩ := hI
        clear hdep hd
        intro K hK
        simp only [Act.put, List.setIfInBounds_toArray, List.set_cons_zero, List.set_cons_succ]
        go_simp
        refine hK.out _ _ ⟨gt, x4, (.pointer (some ⟨g, 0, none⟩)), x14, x15, x16, x17, x18, x19, x20, x21, x22, x23, x24, by first | (simp only [Act.put, List.setIfInBounds_toArray, List.set_cons_zero, List.set_cons_succ]; done) | (simp only [Act.put, List.setIfInBounds_toArray, List.set_cons_zero, List.set_cons_succ]; rfl), ?_⟩
        exact ⟨fun _ => rfl, fun h => hF.out.f1 (by simpa using h), fun h => hF.out.f2 (by simpa using h), fun h => hF.out.f3 (by simpa using h), fun h => hF.out.f4 (by simpa using h), fun h => hF.out.f5 (by simpa using h), fun h => hF.out.f6 (by simpa using h), fun h => hF.out.f7 (by simpa using h), fun h => hF.out.f8 (by simpa using h), fun h => hF.out.f9 (by simpa using h), fun h => hF.out.f10 (by simpa using h), fun h => hF.out.f11 (by simpa using h), fun h => hF.out.f12 (by simpa using h), fun h => hF.out.f13 (by simpa using h), fun h => by have := hF.out.o13_12 (by simpa using h); simpa using this, hF.out.bw, fun h h2 => hF.out.b0 (by simpa using h) (by simpa using h2), fun h => hF.out.b1 (by simpa using h)⟩
      · intro d a W hI hd hdep
        obtain ⟨gt, x4, x13, x14, x15, x16, x17, x18, x19, x20, x21, x22, x23, x24, rfl, hF⟩ := hI
        have hd0 : d 0 = true := dep_of hdep 0 (by kernel_rfl)
        obtain rfl := hF.out.f0 hd0
        clear hdep hd hd0
        intro K hK
        simp only [Act.put, List.setIfInBounds_toArray, List.set_cons_zero, List.set_cons_succ]
        go_simp
        refine hK.out _ _ ⟨gt, x4, (.pointer (some ⟨g, 0, none⟩)), (.pointer (some ⟨g, 0, none⟩)), x15, x16, x17, x18, x19, x20, x21, x22, x23, x24, by first | (simp only [Act.put, List.setIfInBounds_toArray, List.set_cons_zero, List.set_cons_succ]; done) | (simp only [Act.put, List.setIfInBounds_toArray, List.set_cons_zero, List.set_cons_succ]; rfl), ?_⟩
        exact ⟨fun h => hF.out.f0 (by simpa using h), fun _ => rfl, fun h => hF.out.f2 (by simpa using h), fun h => hF.out.f3 (by simpa using h), fun h => hF.out.f4 (by simpa using h), fun h => hF.out.f5 (by simpa using h), fun h => hF.out.f6 (by simpa using h), fun h => hF.out.f7 (by simpa using h), fun h => hF.out.f8 (by simpa using h), fun h => hF.out.f9 (by simpa using h), fun h => hF.out.f10 (by simpa using h), fun h => hF.out.f11 (by simpa using h), fun h => hF.out.f12 (by simpa using h), fun h => hF.out.f13 (by simpa using h), fun h => by have := hF.out.o13_12 (by simpa using h); simpa using this, hF.out.bw, fun h h2 => hF.out.b0 (by simpa using h) (by simpa using h2), fun h => hF.out.b1 (by simpa using h)⟩
      · intro d a W hI hd hdep
        obtain ⟨gt, x4, x13, x14, x15, x16, x17, x18, x19, x20, x21, x22, x23, x24, rfl, hF⟩ := hI
        have hd1 : d 1 = true := dep_of hdep 1 (by kernel_rfl)
        obtain rfl := hF.out.f1 hd1
        clear hdep hd hd1
        intro K hK
        simp only [Act.put, List.setIfInBounds_toArray, List.set_cons_zero, List.set_cons_succ]
        go_simp
        refine hK.out _ _ ⟨gt, x4, x13, (.pointer (some ⟨g, 0, none⟩)), (.pointer (some ⟨g, 5, none⟩)), x16, x17, x18, x19, x20, x21, x22, x23, x24, by first | (simp only [Act.put, List.setIfInBounds_toArray, List.set_cons_zero, List.set_cons_succ]; done) | (simp only [Act.put, List.setIfInBounds_toArray, List.set_cons_zero, List.set_cons_succ]; rfl), ?_⟩
        exact ⟨fun h => hF.out.f0 (by simpa using h), fun h => hF.out.f1 (by simpa using h), fun _ => rfl, fun h => hF.out.f3 (by simpa using h), fun h => hF.out.f4 (by simpa using h), fun h => hF.out.f5 (by simpa using h), fun h => hF.out.f6 (by simpa using h), fun h => hF.out.f7 (by simpa using h), fun h => hF.out.f8 (by simpa using h), fun h => hF.out.f9 (by simpa using h), fun h => hF.out.f10 (by simpa using h), fun h => hF.out.f11 (by simpa using h), fun h => hF.out.f12 (by simpa using h), fun h => hF.out.f13 (by simpa using h), fun h => by have := hF.out.o13_12 (by simpa using h); simpa using this, hF.out.bw, fun h h2 => hF.out.b0 (by simpa using h) (by simpa using h2), fun h => hF.out.b1 (by simpa using h)⟩
      · intro d a W hI hd hdep
        obtain ⟨gt, x4, x13, x14, x15, x16, x17, x18, x19, x20, x21, x22, x23, x24, rfl, hF⟩ := hI
        have hd2 : d 2 = true := dep_of hdep 2 (by kernel_rfl)
        obtain rfl := hF.out.f2 hd2
        have hbw := hF.out.bw
        have q5 : W.cell? ⟨g, 5, none⟩ = some (.slice (some ⟨k, 0, none⟩) (r.length + 1) tc) := (hbw.cell (p := ⟨g, 5, none⟩) HLT.out.1).trans HT5.out
        clear hdep hd hd2
        intro K hK
        simp only [Act.put, List.setIfInBounds_toArray, List.set_cons_zero, List.set_cons_succ]
        go_simp
        refine hK.out _ _ ⟨gt, x4, x13, x14, (.pointer (some ⟨g, 5, none⟩)), (.slice (some ⟨k, 0, none⟩) (r.length + 1) tc), x17, x18, x19, x20, x21, x22, x23, x24, by first | (simp only [Act.put, List.setIfInBounds_toArray, List.set_cons_zero, List.set_cons_succ]; done) | (simp only [Act.put, List.setIfInBounds_toArray, List.set_cons_zero, List.set_cons_succ]; rfl), ?_⟩
        exact ⟨fun h => hF.out.f0 (by simpa using h), fun h => hF.out.f1 (by simpa using h), fun h => hF.out.f2 (by simpa using h), fun _ => rfl, fun h => hF.out.f4 (by simpa using h), fun h => hF.out.f5 (by simpa using h), fun h => hF.out.f6 (by simpa using h), fun h => hF.out.f7 (by simpa using h), fun h => hF.out.f8 (by simpa using h), fun h => hF.out.f9 (by simpa using h), fun h => hF.out.f10 (by simpa using h), fun h => hF.out.f11 (by simpa using h), fun h => hF.out.f12 (by simpa using h), fun h => hF.out.f13 (by simpa using h), fun h => by have := hF.out.o13_12 (by simpa using h); simpa using this, hF.out.bw, fun h h2 => hF.out.b0 (by simpa using h) (by simpa using h2), fun h => hF.out.b1 (by simpa using h)⟩
      · intro d a W hI hd hdep
        obtain ⟨gt, x4, x13, x14, x15, x16, x17, x18, x19, x20, x21, x22, x23, x24, rfl, hF⟩ := hI
        clear hdep hd
        intro K hK
        simp only [Act.put, List.setIfInBounds_toArray, List.set_cons_zero, List.set_cons_succ]
        go_simp
        refine hK.out _ _ ⟨gt, x4, x13, x14, x15, x16, (.pointer (some ⟨g, 0, none⟩)), x18, x19, x20, x21, x22, x23, x24, by first | (simp only [Act.put, List.setIfInBounds_toArray, List.set_cons_zero, List.set_cons_succ]; done) | (simp only [Act.put, List.setIfInBounds_toArray, List.set_cons_zero, List.set_cons_succ]; rfl), ?_⟩
        exact ⟨fun h => hF.out.f0 (by simpa using h), fun h => hF.out.f1 (by simpa using h), fun h => hF.out.f2 (by simpa using h), fun h => hF.out.f3 (by simpa using h), fun _ => rfl, fun h => hF.out.f5 (by simpa using h), fun h => hF.out.f6 (by simpa using h), fun h => hF.out.f7 (by simpa using h), fun h => hF.out.f8 (by simpa using h), fun h => hF.out.f9 (by simpa using h), fun h => hF.out.f10 (by simpa using h), fun h => hF.out.f11 (by simpa using h), fun h => hF.out.f12 (by simpa using h), fun h => hF.out.f13 (by simpa using h), fun h => by have := hF.out.o13_12 (by simpa using h); simpa using this, hF.out.bw, fun h h2 => hF.out.b0 (by simpa using h) (by simpa using h2), fun h => hF.out.b1 (by simpa using h)⟩
      · intro d a W hI hd hdep
        obtain ⟨gt, x4, x13, x14, x15, x16, x17, x18, x19, x20, x21, x22, x23, x24, rfl, hF⟩ := hI
        have hd4 : d 4 = true := dep_of hdep 4 (by kernel_rfl)
        obtain rfl := hF.out.f4 hd4
        clear hdep hd hd4
        intro K hK
        simp only [Act.put, List.setIfInBounds_toArray, List.set_cons_zero, List.set_cons_succ]
        go_simp
        refine hK.out _ _ ⟨gt, x4, x13, x14, x15, x16, (.pointer (some ⟨g, 0, none⟩)), (.pointer (some ⟨g, 0, none⟩)), x19, x20, x21, x22, x23, x24, by first | (simp only [Act.put, List.setIfInBounds_toArray, List.set_cons_zero, List.set_cons_succ]; done) | (simp only [Act.put, List.setIfInBounds_toArray, List.set_cons_zero, List.set_cons_succ]; rfl), ?_⟩
        exact ⟨fun h => hF.out.f0 (by simpa using h), fun h => hF.out.f1 (by simpa using h), fun h => hF.out.f2 (by simpa using h), fun h => hF.out.f3 (by simpa using h), fun h => hF.out.f4 (by simpa using h), fun _ => rfl, fun h => hF.out.f6 (by simpa using h), fun h => hF.out.f7 (by simpa using h), fun h => hF.out.f8 (by simpa using h), fun h => hF.out.f9 (by simpa using h), fun h => hF.out.f10 (by simpa using h), fun h => hF.out.f11 (by simpa using h), fun h => hF.out.f12 (by simpa using h), fun h => hF.out.f13 (by simpa using h), fun h => by have := hF.out.o13_12 (by simpa using h); simpa using this, hF.out.bw, fun h h2 => hF.out.b0 (by simpa using h) (by simpa using h2), fun h => hF.out.b1 (by simpa using h)⟩
      · intro d a W hI hd hdep
        obtain ⟨gt, x4, x13, x14, x15, x16, x17, x18, x19, x20, x21, x22, x23, x24, rfl, hF⟩ := hI
        have hd5 : d 5 = true := dep_of hdep 5 (by kernel_rfl)
        obtain rfl := hF.out.f5 hd5
        clear hdep hd hd5
        intro K hK
        simp only [Act.put, List.setIfInBounds_toArray, List.set_cons_zero, List.set_cons_succ]
        go_simp
        refine hK.out _ _ ⟨gt, x4, x13, x14, x15, x16, x17, (.pointer (some ⟨g, 0, none⟩)), (.pointer (some ⟨g, 5, none⟩)), x20, x21, x22, x23, x24, by first | (simp only [Act.put, List.setIfInBounds_toArray, List.set_cons_zero, List.set_cons_succ]; done) | (simp only [Act.put, List.setIfInBounds_toArray, List.set_cons_zero, List.set_cons_succ]; rfl), ?_⟩
        exact ⟨fun h => hF.out.f0 (by simpa using h), fun h => hF.out.f1 (by simpa using h), fun h => hF.out.f2 (by simpa using h), fun h => hF.out.f3 (by simpa using h), fun h => hF.out.f4 (by simpa using h), fun h => hF.out.f5 (by simpa using h), fun _ => rfl, fun h => hF.out.f7 (by simpa using h), fun h => hF.out.f8 (by simpa using h), fun h => hF.out.f9 (by simpa using h), fun h => hF.out.f10 (by simpa using h), fun h => hF.out.f11 (by simpa using h), fun h => hF.out.f12 (by simpa using h), fun h => hF.out.f13 (by simpa using h), fun h => by have := hF.out.o13_12 (by simpa using h); simpa using this, hF.out.bw, fun h h2 => hF.out.b0 (by simpa using h) (by simpa using h2), fun h => hF.out.b1 (by simpa using h)⟩
      · intro d a W hI hd hdep
        obtain ⟨gt, x4, x13, x14, x15, x16, x17, x18, x19, x20, x21, x22, x23, x24, rfl, hF⟩ := hI
        have hd6 : d 6 = true := dep_of hdep 6 (by kernel_rfl)
        obtain rfl := hF.out.f6 hd6
        have hbw := hF.out.bw
        have q5 : W.cell? ⟨g, 5, none⟩ = some (.slice (some ⟨k, 0, none⟩) (r.length + 1) tc) := (hbw.cell (p := ⟨g, 5, none⟩) HLT.out.1).trans HT5.out
        clear hdep hd hd6
        intro K hK
        simp only [Act.put, List.setIfInBounds_toArray, List.set_cons_zero, List.set_cons_succ]
        go_simp
        refine hK.out _ _ ⟨gt, x4, x13, x14, x15, x16, x17, x18, (.pointer (some ⟨g, 5, none⟩)), (.slice (some ⟨k, 0, none⟩) (r.length + 1) tc), x21, x22, x23, x24, by first | (simp only [Act.put, List.setIfInBounds_toArray, List.set_cons_zero, List.set_cons_succ]; done) | (simp only [Act.put, List.setIfInBounds_toArray, List.set_cons_zero, List.set_cons_succ]; rfl), ?_⟩
        exact ⟨fun h => hF.out.f0 (by simpa using h), fun h => hF.out.f1 (by simpa using h), fun h => hF.out.f2 (by simpa using h), fun h => hF.out.f3 (by simpa using h), fun h => hF.out.f4 (by simpa using h), fun h => hF.out.f5 (by simpa using h), fun h => hF.out.f6 (by simpa using h), fun _ => rfl, fun h => hF.out.f8 (by simpa using h), fun h => hF.out.f9 (by simpa using h), fun h => hF.out.f10 (by simpa using h), fun h => hF.out.f11 (by simpa using h), fun h => hF.out.f12 (by simpa using h), fun h => hF.out.f13 (by simpa using h), fun h => by have := hF.out.o13_12 (by simpa using h); simpa using this, hF.out.bw, fun h h2 => hF.out.b0 (by simpa using h) (by simpa using h2), fun h => hF.out.b1 (by simpa using h)⟩
      · intro d a W hI hd hdep
        obtain ⟨gt, x4, x13, x14, x15, x16, x17, x18, x19, x20, x21, x22, x23, x24, rfl, hF⟩ := hI
        have hd7 : d 7 = true := dep_of hdep 7 (by kernel_rfl)
        obtain rfl := hF.out.f7 hd7
        clear hdep hd hd7
        intro K hK
        simp only [Act.put, List.setIfInBounds_toArray, List.set_cons_zero, List.set_cons_succ]
        go_simp
        first | (rw [show (((r.length + 1 : Nat) : Int)) = (r.length : Int) + 1 by omega]) | skip
        refine hK.out _ _ ⟨gt, x4, x13, x14, x15, x16, x17, x18, x19, (.slice (some ⟨k, 0, none⟩) (r.length + 1) tc), (.int .i64 ((r.length : Int) + 1)), x22, x23, x24, by first | (simp only [Act.put, List.setIfInBounds_toArray, List.set_cons_zero, List.set_cons_succ]; done) | (simp only [Act.put, List.setIfInBounds_toArray, List.set_cons_zero, List.set_cons_succ]; rfl), ?_⟩
        exact ⟨fun h => hF.out.f0 (by simpa using h), fun h => hF.out.f1 (by simpa using h), fun h => hF.out.f2 (by simpa using h), fun h => hF.out.f3 (by simpa using h), fun h => hF.out.f4 (by simpa using h), fun h => hF.out.f5 (by simpa using h), fun h => hF.out.f6 (by simpa using h), fun h => hF.out.f7 (by simpa using h), fun _ => rfl, fun h => hF.out.f9 (by simpa using h), fun h => hF.out.f10 (by simpa using h), fun h => hF.out.f11 (by simpa using h), fun h => hF.out.f12 (by simpa using h), fun h => hF.out.f13 (by simpa using h), fun h => by have := hF.out.o13_12 (by simpa using h); simpa using this, hF.out.bw, fun h h2 => hF.out.b0 (by simpa using h) (by simpa using h2), fun h => hF.out.b1 (by simpa using h)⟩
      · intro d a W hI hd hdep
        obtain ⟨gt, x4, x13, x14, x15, x16, x17, x18, x19, x20, x21, x22, x23, x24, rfl, hF⟩ := hI
        have hd8 : d 8 = true := dep_of hdep 8 (by kernel_rfl)
        obtain rfl := hF.out.f8 hd8
        have hwr : IntKind.i64.wrap (r.length : Int) = (r.length : Int) := by have := HRL.out; simp [IntKind.wrap, IntKind.bits, IntKind.signed]; omega
        clear hdep hd hd8
        intro K hK
        simp only [Act.put, List.setIfInBounds_toArray, List.set_cons_zero, List.set_cons_succ]
        go_simp
        first | rw [hwr] | skip
        refine hK.out _ _ ⟨gt, x4, x13, x14, x15, x16, x17, x18, x19, x20, (.int .i64 ((r.length : Int) + 1)), (.int .i64 (r.length : Int)), x23, x24, by first | (simp only [Act.put, List.setIfInBounds_toArray, List.set_cons_zero, List.set_cons_succ]; done) | (simp only [Act.put, List.setIfInBounds_toArray, List.set_cons_zero, List.set_cons_succ]; rfl), ?_⟩
        exact ⟨fun h => hF.out.f0 (by simpa using h), fun h => hF.out.f1 (by simpa using h), fun h => hF.out.f2 (by simpa using h), fun h => hF.out.f3 (by simpa using h), fun h => hF.out.f4 (by simpa using h), fun h => hF.out.f5 (by simpa using h), fun h => hF.out.f6 (by simpa using h), fun h => hF.out.f7 (by simpa using h), fun h => hF.out.f8 (by simpa using h), fun _ => rfl, fun h => hF.out.f10 (by simpa using h), fun h => hF.out.f11 (by simpa using h), fun h => hF.out.f12 (by simpa using h), fun h => hF.out.f13 (by simpa using h), fun h => by have := hF.out.o13_12 (by simpa using h); simpa using this, hF.out.bw, fun h h2 => hF.out.b0 (by simpa using h) (by simpa using h2), fun h => hF.out.b1 (by simpa using h)⟩
      · intro d a W hI hd hdep
        obtain ⟨gt, x4, x13, x14, x15, x16, x17, x18, x19, x20, x21, x22, x23, x24, rfl, hF⟩ := hI
        have hd3 : d 3 = true := dep_of hdep 3 (by kernel_rfl)
        have hd9 : d 9 = true := dep_of hdep 9 (by kernel_rfl)
        obtain rfl := hF.out.f3 hd3
        obtain rfl := hF.out.f9 hd9
        have hk0 : (0 : Int) ≤ (r.length : Int) := by omega
        have hk1 : (r.length : Int) < (r.length : Int) + 1 := by omega
        clear hdep hd hd3 hd9
        intro K hK
        simp only [Act.put, List.setIfInBounds_toArray, List.set_cons_zero, List.set_cons_succ]
        go_simp
        refine hK.out _ _ ⟨gt, x4, x13, x14, x15, (.slice (some ⟨k, 0, none⟩) (r.length + 1) tc), x17, x18, x19, x20, x21, (.int .i64 (r.length : Int)), (.pointer (some ⟨k, r.length * 4, none⟩)), x24, by first | (simp only [Act.put, List.setIfInBounds_toArray, List.set_cons_zero, List.set_cons_succ]; done) | (simp only [Act.put, List.setIfInBounds_toArray, List.set_cons_zero, List.set_cons_succ]; rfl), ?_⟩
        exact ⟨fun h => hF.out.f0 (by simpa using h), fun h => hF.out.f1 (by simpa using h), fun h => hF.out.f2 (by simpa using h), fun h => hF.out.f3 (by simpa using h), fun h => hF.out.f4 (by simpa using h), fun h => hF.out.f5 (by simpa using h), fun h => hF.out.f6 (by simpa using h), fun h => hF.out.f7 (by simpa using h), fun h => hF.out.f8 (by simpa using h), fun h => hF.out.f9 (by simpa using h), fun _ => rfl, fun h => hF.out.f11 (by simpa using h), fun h => hF.out.f12 (by simpa using h), fun h => hF.out.f13 (by simpa using h), fun h => by have := hF.out.o13_12 (by simpa using h); simpa using this, hF.out.bw, fun h h2 => hF.out.b0 (by simpa using h) (by simpa using h2), fun h => hF.out.b1 (by simpa using h)⟩
      · intro d a W hI hd hdep
        obtain ⟨gt, x4, x13, x14, x15, x16, x17, x18, x19, x20, x21, x22, x23, x24, rfl, hF⟩ := hI
        have hd10 : d 10 = true := dep_of hdep 10 (by kernel_rfl)
        obtain rfl := hF.out.f10 hd10
        have hbw := hF.out.bw
        have y0 := (hbw.cell (p := ⟨k, r.length * 4, none⟩) HLT.out.2).trans HTC.out.1
        have y1 := (hbw.cell (p := ⟨k, r.length * 4 + 1, none⟩) HLT.out.2).trans HTC.out.2.1
        have y2 := (hbw.cell (p := ⟨k, r.length * 4 + 2, none⟩) HLT.out.2).trans HTC.out.2.2.1
        have y3 := (hbw.cell (p := ⟨k, r.length * 4 + 3, none⟩) HLT.out.2).trans HTC.out.2.2.2
        clear hdep hd hd10
        intro K hK
        simp only [Act.put, List.setIfInBounds_toArray, List.set_cons_zero, List.set_cons_succ]
        go_simp
        refine hK.out _ _ ⟨gt, x4, x13, x14, x15, x16, x17, x18, x19, x20, x21, x22, (.pointer (some ⟨k, r.length * 4, none⟩)), (.agg #[.bool u0, .int .i64 u1, .int .i64 u2, .int .i64 u3]), by first | (simp only [Act.put, List.setIfInBounds_toArray, List.set_cons_zero, List.set_cons_succ]; done) | (simp only [Act.put, List.setIfInBounds_toArray, List.set_cons_zero, List.set_cons_succ]; rfl), ?_⟩
        exact ⟨fun h => hF.out.f0 (by simpa using h), fun h => hF.out.f1 (by simpa using h), fun h => hF.out.f2 (by simpa using h), fun h => hF.out.f3 (by simpa using h), fun h => hF.out.f4 (by simpa using h), fun h => hF.out.f5 (by simpa using h), fun h => hF.out.f6 (by simpa using h), fun h => hF.out.f7 (by simpa using h), fun h => hF.out.f8 (by simpa using h), fun h => hF.out.f9 (by simpa using h), fun h => hF.out.f10 (by simpa using h), fun _ => rfl, fun h => hF.out.f12 (by simpa using h), fun h => hF.out.f13 (by simpa using h), fun h => by have := hF.out.o13_12 (by simpa using h); simpa using this, hF.out.bw, fun h h2 => hF.out.b0 (by simpa using h) (by simpa using h2), fun h => hF.out.b1 (by simpa using h)⟩
      · intro d a W hI hd hdep
        obtain ⟨gt, x4, x13, x14, x15, x16, x17, x18, x19, x20, x21, x22, x23, x24, rfl, hF⟩ := hI
        have HD13 : Hid (d 13 = false) := no_later hF.out.o13_12 hd
        have HBA := below_alloc W (Obj.cells #[.bool false, .int .i64 0, .int .i64 0, .int .i64 0] 49)
        have HNA := heap_alloc_new W (Obj.cells #[.bool false, .int .i64 0, .int .i64 0, .int .i64 0] 49)
        have hbw := hF.out.bw
        have hbw2 := hbw.trans (HBA.mono hbw.size)
        clear hdep hd
        intro K hK
        simp only [Act.put, List.setIfInBounds_toArray, List.set_cons_zero, List.set_cons_succ]
        go_simp
        refine hK.out _ _ ⟨W.heap.size, (.pointer (some ⟨W.heap.size, 0, none⟩)), x13, x14, x15, x16, x17, x18, x19, x20, x21, x22, x23, x24, by first | (simp only [Act.put, List.setIfInBounds_toArray, List.set_cons_zero, List.set_cons_succ]; done) | (simp only [Act.put, List.setIfInBounds_toArray, List.set_cons_zero, List.set_cons_succ]; rfl), ?_⟩
        exact ⟨fun h => hF.out.f0 (by simpa using h), fun h => hF.out.f1 (by simpa using h), fun h => hF.out.f2 (by simpa using h), fun h => hF.out.f3 (by simpa using h), fun h => hF.out.f4 (by simpa using h), fun h => hF.out.f5 (by simpa using h), fun h => hF.out.f6 (by simpa using h), fun h => hF.out.f7 (by simpa using h), fun h => hF.out.f8 (by simpa using h), fun h => hF.out.f9 (by simpa using h), fun h => hF.out.f10 (by simpa using h), fun h => hF.out.f11 (by simpa using h), fun _ => rfl, fun h => hF.out.f13 (by simpa using h), fun _ => by simp, hbw2, fun _ _ => ⟨HNA, hbw.size⟩, fun h => by have := HD13.out; simp [this] at h⟩
      · intro d a W hI hd hdep
        obtain ⟨gt, x4, x13, x14, x15, x16, x17, x18, x19, x20, x21, x22, x23, x24, rfl, hF⟩ := hI
        have hd11 : d 11 = true := dep_of hdep 11 (by kernel_rfl)
        have hd12 : d 12 = true := dep_of hdep 12 (by kernel_rfl)
        obtain rfl := hF.out.f11 hd11
        obtain rfl := hF.out.f12 hd12
        have e13_12 := hd12
        have hbt := hF.out.b0 hd12 hd
        have p0 := tcell_blk hbt.1 0
        have p1 := tcell_blk hbt.1 1
        have p2 := tcell_blk hbt.1 2
        have p3 := tcell_blk hbt.1 3
        have f0 := tfrozen_blk hbt.1 0
        have f1 := tfrozen_blk hbt.1 1
        have f2 := tfrozen_blk hbt.1 2
        have f3 := tfrozen_blk hbt.1 3
        simp only [List.getElem?_toArray, List.getElem?_cons_zero, List.getElem?_cons_succ] at p0 p1 p2 p3
        have hbw := hF.out.bw
        clear hdep hd hd11 hd12
        intro K hK
        simp only [Act.put, List.setIfInBounds_toArray, List.set_cons_zero, List.set_cons_succ]
        go_simp
        rw [← set4_eq]
        refine hK.out _ _ ⟨gt, (.pointer (some ⟨gt, 0, none⟩)), x13, x14, x15, x16, x17, x18, x19, x20, x21, x22, x23, (.agg #[.bool u0, .int .i64 u1, .int .i64 u2, .int .i64 u3]), by first | (simp only [Act.put, List.setIfInBounds_toArray, List.set_cons_zero, List.set_cons_succ]; done) | (simp only [Act.put, List.setIfInBounds_toArray, List.set_cons_zero, List.set_cons_succ]; rfl), ?_⟩
        exact ⟨fun h => hF.out.f0 (by simpa using h), fun h => hF.out.f1 (by simpa using h), fun h => hF.out.f2 (by simpa using h), fun h => hF.out.f3 (by simpa using h), fun h => hF.out.f4 (by simpa using h), fun h => hF.out.f5 (by simpa using h), fun h => hF.out.f6 (by simpa using h), fun h => hF.out.f7 (by simpa using h), fun h => hF.out.f8 (by simpa using h), fun h => hF.out.f9 (by simpa using h), fun h => hF.out.f10 (by simpa using h), fun h => hF.out.f11 (by simpa using h), fun h => hF.out.f12 (by simpa using h), fun _ => trivial, fun _ => by simpa using e13_12, set4_bel hbw hbt.2, fun _ h => by simp at h, fun _ => ⟨set4_blk hbt.1 (.bool u0) (.int .i64 u1) (.int .i64 u2) (.int .i64 u3), hbt.2⟩⟩
    · intro d a W hI hall
      obtain ⟨gt, x4, x13, x14, x15, x16, x17, x18, x19, x20, x21, x22, x23, x24, rfl, hF⟩ := hI
      simp only [List.length_cons, List.length_nil] at hall
      obtain rfl := hF.out.f0 (hall 0 (by omega))
      obtain rfl := hF.out.f1 (hall 1 (by omega))
      obtain rfl := hF.out.f2 (hall 2 (by omega))
      obtain rfl := hF.out.f3 (hall 3 (by omega))
      obtain rfl := hF.out.f4 (hall 4 (by omega))
      obtain rfl := hF.out.f5 (hall 5 (by omega))
      obtain rfl := hF.out.f6 (hall 6 (by omega))
      obtain rfl := hF.out.f7 (hall 7 (by omega))
      obtain rfl := hF.out.f8 (hall 8 (by omega))
      obtain rfl := hF.out.f9 (hall 9 (by omega))
      obtain rfl := hF.out.f10 (hall 10 (by omega))
      obtain rfl := hF.out.f11 (hall 11 (by omega))
      obtain rfl := hF.out.f12 (hall 12 (by omega))
      have HB2 : Hid (Below w1.heap.size w1 W ∧ W.heap[gt]? = some (.cells #[.bool u0, .int .i64 u1, .int .i64 u2, .int .i64 u3] 49) ∧ w1.heap.size ≤ gt) := ⟨hF.out.bw, hF.out.b1 (hall 13 (by omega))⟩
      clear hF hall
      simp only [Act.put, List.setIfInBounds_toArray, List.set_cons_zero, List.set_cons_succ]
      obtain ⟨w2, HW2⟩ : ∃ w2, Hid (W = w2) := ⟨_, (rfl : W = _)⟩
      rw [HW2.out] at HB2 ⊢
      clear HW2
      have HWB : Hid _ := HW1.out.next HB2.out.1
      have HN2 : Hid (w2.heap[g2]? = some (.cells #[.int .i64 0, .int .i64 0] 66)) := tbox_next HN1.out HB2.out.1
      have HBB : Hid (Below w.heap.size w w2) := by have := HB1.out; rw [← HG2.out] at this; exact this.trans (HB2.out.1.mono this.size)
      have HBT : Hid (w2.heap[gt]? = some (.cells #[.bool u0, .int .i64 u1, .int .i64 u2, .int .i64 u3] 49)) := HB2.out.2.1
      clear HN1 HB1 HW1 HB2 HT5 HTC HLT
      have t0 := tcell_blk HBT.out 0
      have t1 := tcell_blk HBT.out 1
      have t2 := tcell_blk HBT.out 2
      have t3 := tcell_blk HBT.out 3
      simp only [List.getElem?_toArray, List.getElem?_cons_zero, List.getElem?_cons_succ] at t0 t1 t2 t3
      cases u0 with
      | true =>
        have HN : Hid (nx1 (rwF rows col) (col : Int) sn ((true, u1, u2, u3) :: r) = opt1 true (3, u1)) := rfl
        have p0 := tcell_blk HN2.out 0
        have p1 := tcell_blk HN2.out 1
        have f0 := tfrozen_blk HN2.out 0
        have f1 := tfrozen_blk HN2.out 1
        simp only [List.getElem?_toArray, List.getElem?_cons_zero, List.getElem?_cons_succ] at p0 p1
        go_wp2_with fail
        rw [← set2_eq]
        have z := set2_blk HN2.out (.int .i64 3) (.int .i64 u1)
        have z0 := tcell_blk z 0
        have z1 := tcell_blk z 1
        simp only [List.getElem?_toArray, List.getElem?_cons_zero, List.getElem?_cons_succ] at z0 z1
        have HFIN : Hid (Below w.heap.size w (set2 w2 g2 (.int .i64 3) (.int .i64 u1))) := set2_bel HBB.out (by have := HG2.out; omega)
        exact bodyPost_ret (v := .tuple #[.agg #[.int .i64 3, .int .i64 u1], .bool true]) (by simp [results, Try.results96, go_sem, z0, z1]) rfl ⟨⟨_, _, _, rfl, HN.out⟩, HFIN.out⟩
      | false =>
        by_cases h4 : u2 = 1
        · subst h4
          obtain ⟨bb, HBB7⟩ : ∃ bb, Hid ((u3 == (col : Int)) = bb) := ⟨_, (rfl : (u3 == (col : Int)) = _)⟩
          have HN : Hid (nx1 (rwF rows col) (col : Int) sn ((false, u1, 1, u3) :: r) = opt1 bb (2, sn)) := by
            show _ = _
            rw [← HBB7.out]; by_cases e : u3 = (col : Int)
            · simp [nx1, e, opt1]
            · have e2 : (u3 == (col : Int)) = false := by simpa using e
              rw [e2]; simp [nx1, e, opt1]
          have q4 := tcell_blk HWB.out.blk 4
          have q6 := tcell_blk HWB.out.blk 6
          simp only [List.getElem?_toArray, List.getElem?_cons_zero, List.getElem?_cons_succ] at q4 q6
          have HR7 : Hid (w2.cell? ⟨g, 6, none⟩ = some (.int .i64 sn) ∧ w2.cell? ⟨gt, 3, none⟩ = some (.int .i64 u3) ∧ w2.cell? ⟨g, 4, none⟩ = some (.int .i64 (col : Int))) := ⟨q6, t3, q4⟩
          have HNE : Hid (g ≠ g2 ∧ gt ≠ g2) := ⟨by have := HG3.out; omega, fun e => by have h1 := HBT.out; rw [e, HN2.out] at h1; simp at h1⟩
          have HG2L : Hid (w.heap.size ≤ g2) := by show _ ≤ _; have := HG2.out; omega
          go_upto_region 7 with fail
          clear t0 t1 t2 t3 q4 q6
          refine wp_region_free mixed (fun a0 d a W => ∃ (x3 x36 x37 x38 x39 x40 x41 x42 x43 x44 x45 x46 x47 x48 : Value), a = ((((((((((((((a0.put (some 3) x3).put (some 36) x36).put (some 37) x37).put (some 38) x38).put (some 39) x39).put (some 40) x40).put (some 41) x41).put (some 42) x42).put (some 43) x43).put (some 44) x44).put (some 45) x45).put (some 46) x46).put (some 47) x47).put (some 48) x48) ∧ Hid (RNt w w2 g g2 gt sn u3 (col : Int) bb d x3 x36 x37 x38 x39 x40 x41 x42 x43 x44 x45 x46 x47 x48 W)) (by kernel_rfl) ⟨(.bool false), undef, undef, undef, undef, undef, undef, undef, undef, undef, undef, undef, undef, undef, by first | (simp only [Act.put, List.setIfInBounds_toArray, List.set_cons_zero, List.set_cons_succ]; done) | (simp only [Act.put, List.setIfInBounds_toArray, List.set_cons_zero, List.set_cons_succ]; rfl), ?_⟩ ?_ ?_
          · exact ⟨fun h => no_way h, fun h => no_way h, fun h => no_way h, fun h => no_way h, fun h => no_way h, fun h => no_way h, fun h => no_way h, fun h => no_way h, fun h => no_way h, fun h => no_way h, fun h => no_way h, fun h => no_way h, fun h => no_way h, fun _ => trivial, fun h => no_way h, HBB.out.drew, fun p _ => rfl, fun _ => HN2.out, fun h => no_way h⟩
          · simp only [StepAll, and_true]
            refine ⟨?_, ?_, ?_, ?_, ?_, ?_, ?_, ?_, ?_, ?_, ?_, ?_, ?_, ?_, ?_⟩
            · intro d a W hI hd hdep
              obtain ⟨x3, x36, x37, x38, x39, x40, x41, x42, x43, x44, x45, x46, x47, x48, rfl, hF⟩ := hI
              clear hdep hd
              intro K hK
              simp only [Act.put, List.setIfInBounds_toArray, List.set_cons_zero, List.set_cons_succ]
              go_simp
              refine hK.out _ _ ⟨x3, (.pointer (some ⟨g, 0, none⟩)), x37, x38, x39, x40, x41, x42, x43, x44, x45, x46, x47, x48, by first | (simp only [Act.put, List.setIfInBounds_toArray, List.set_cons_zero, List.set_cons_succ]; done) | (simp only [Act.put, List.setIfInBounds_toArray, List.set_cons_zero, List.set_cons_succ]; rfl), ?_⟩
              exact ⟨fun _ => rfl, fun h => hF.out.f1 (by simpa using h), fun h => hF.out.f2 (by simpa using h), fun h => hF.out.f3 (by simpa using h), fun h => hF.out.f4 (by simpa using h), fun h => hF.out.f5 (by simpa using h), fun h => hF.out.f6 (by simpa using h), fun h => hF.out.f7 (by simpa using h), fun h => hF.out.f8 (by simpa using h), fun h => hF.out.f9 (by simpa using h), fun h => hF.out.f10 (by simpa using h), fun h => hF.out.f11 (by simpa using h), fun h => hF.out.f12 (by simpa using h), fun h => hF.out.f13 (by simpa using h), fun h => hF.out.f14 (by simpa using h), hF.out.bw, hF.out.oth, fun h => hF.out.b0 (by simpa using h), fun h => hF.out.b1 (by simpa using h)⟩
            · intro d a W hI hd hdep
              obtain ⟨x3, x36, x37, x38, x39, x40, x41, x42, x43, x44, x45, x46, x47, x48, rfl, hF⟩ := hI
              have hd0 : d 0 = true := dep_of hdep 0 (by kernel_rfl)
              obtain rfl := hF.out.f0 hd0
              clear hdep hd hd0
              intro K hK
              simp only [Act.put, List.setIfInBounds_toArray, List.set_cons_zero, List.set_cons_succ]
              go_simp
              refine hK.out _ _ ⟨x3, (.pointer (some ⟨g, 0, none⟩)), (.pointer (some ⟨g, 0, none⟩)), x38, x39, x40, x41, x42, x43, x44, x45, x46, x47, x48, by first | (simp only [Act.put, List.setIfInBounds_toArray, List.set_cons_zero, List.set_cons_succ]; done) | (simp only [Act.put, List.setIfInBounds_toArray, List.set_cons_zero, List.set_cons_succ]; rfl), ?_⟩
              exact ⟨fun h => hF.out.f0 (by simpa using h), fun _ => rfl, fun h => hF.out.f2 (by simpa using h), fun h => hF.out.f3 (by simpa using h), fun h => hF.out.f4 (by simpa using h), fun h => hF.out.f5 (by simpa using h), fun h => hF.out.f6 (by simpa using h), fun h => hF.out.f7 (by simpa using h), fun h => hF.out.f8 (by simpa using h), fun h => hF.out.f9 (by simpa using h), fun h => hF.out.f10 (by simpa using h), fun h => hF.out.f11 (by simpa using h), fun h => hF.out.f12 (by simpa using h), fun h => hF.out.f13 (by simpa using h), fun h => hF.out.f14 (by simpa using h), hF.out.bw, hF.out.oth, fun h => hF.out.b0 (by simpa using h), fun h => hF.out.b1 (by simpa using h)⟩
            · intro d a W hI hd hdep
              obtain ⟨x3, x36, x37, x38, x39, x40, x41, x42, x43, x44, x45, x46, x47, x48, rfl, hF⟩ := hI
              have hd1 : d 1 = true := dep_of hdep 1 (by kernel_rfl)
              obtain rfl := hF.out.f1 hd1
              clear hdep hd hd1
              intro K hK
              simp only [Act.put, List.setIfInBounds_toArray, List.set_cons_zero, List.set_cons_succ]
              go_simp
              refine hK.out _ _ ⟨x3, x36, (.pointer (some ⟨g, 0, none⟩)), (.pointer (some ⟨g, 6, none⟩)), x39, x40, x41, x42, x43, x44, x45, x46, x47, x48, by first | (simp only [Act.put, List.setIfInBounds_toArray, List.set_cons_zero, List.set_cons_succ]; done) | (simp only [Act.put, List.setIfInBounds_toArray, List.set_cons_zero, List.set_cons_succ]; rfl), ?_⟩
              exact ⟨fun h => hF.out.f0 (by simpa using h), fun h => hF.out.f1 (by simpa using h), fun _ => rfl, fun h => hF.out.f3 (by simpa using h), fun h => hF.out.f4 (by simpa using h), fun h => hF.out.f5 (by simpa using h), fun h => hF.out.f6 (by simpa using h), fun h => hF.out.f7 (by simpa using h), fun h => hF.out.f8 (by simpa using h), fun h => hF.out.f9 (by simpa using h), fun h => hF.out.f10 (by simpa using h), fun h => hF.out.f11 (by simpa using h), fun h => hF.out.f12 (by simpa using h), fun h => hF.out.f13 (by simpa using h), fun h => hF.out.f14 (by simpa using h), hF.out.bw, hF.out.oth, fun h => hF.out.b0 (by simpa using h), fun h => hF.out.b1 (by simpa using h)⟩
            · intro d a W hI hd hdep
              obtain ⟨x3, x36, x37, x38, x39, x40, x41, x42, x43, x44, x45, x46, x47, x48, rfl, hF⟩ := hI
              have hd2 : d 2 = true := dep_of hdep 2 (by kernel_rfl)
              obtain rfl := hF.out.f2 hd2
              have q0 := (hF.out.oth ⟨g, 6, none⟩ HNE.out.1).trans HR7.out.1
              clear hdep hd hd2
              intro K hK
              simp only [Act.put, List.setIfInBounds_toArray, List.set_cons_zero, List.set_cons_succ]
              go_simp
              refine hK.out _ _ ⟨x3, x36, x37, (.pointer (some ⟨g, 6, none⟩)), (.int .i64 sn), x40, x41, x42, x43, x44, x45, x46, x47, x48, by first | (simp only [Act.put, List.setIfInBounds_toArray, List.set_cons_zero, List.set_cons_succ]; done) | (simp only [Act.put, List.setIfInBounds_toArray, List.set_cons_zero, List.set_cons_succ]; rfl), ?_⟩
              exact ⟨fun h => hF.out.f0 (by simpa using h), fun h => hF.out.f1 (by simpa using h), fun h => hF.out.f2 (by simpa using h), fun _ => rfl, fun h => hF.out.f4 (by simpa using h), fun h => hF.out.f5 (by simpa using h), fun h => hF.out.f6 (by simpa using h), fun h => hF.out.f7 (by simpa using h), fun h => hF.out.f8 (by simpa using h), fun h => hF.out.f9 (by simpa using h), fun h => hF.out.f10 (by simpa using h), fun h => hF.out.f11 (by simpa using h), fun h => hF.out.f12 (by simpa using h), fun h => hF.out.f13 (by simpa using h), fun h => hF.out.f14 (by simpa using h), hF.out.bw, hF.out.oth, fun h => hF.out.b0 (by simpa using h), fun h => hF.out.b1 (by simpa using h)⟩
            · intro d a W hI hd hdep
              obtain ⟨x3, x36, x37, x38, x39, x40, x41, x42, x43, x44, x45, x46, x47, x48, rfl, hF⟩ := hI
              have hd3 : d 3 = true := dep_of hdep 3 (by kernel_rfl)
              obtain rfl := hF.out.f3 hd3
              clear hdep hd hd3
              intro K hK
              simp only [Act.put, List.setIfInBounds_toArray, List.set_cons_zero, List.set_cons_succ]
              go_simp
              refine hK.out _ _ ⟨x3, x36, x37, x38, (.int .i64 sn), (.agg #[.int .i64 2, .int .i64 sn]), x41, x42, x43, x44, x45, x46, x47, x48, by first | (simp only [Act.put, List.setIfInBounds_toArray, List.set_cons_zero, List.set_cons_succ]; done) | (simp only [Act.put, List.setIfInBounds_toArray, List.set_cons_zero, List.set_cons_succ]; rfl), ?_⟩
              exact ⟨fun h => hF.out.f0 (by simpa using h), fun h => hF.out.f1 (by simpa using h), fun h => hF.out.f2 (by simpa using h), fun h => hF.out.f3 (by simpa using h), fun _ => rfl, fun h => hF.out.f5 (by simpa using h), fun h => hF.out.f6 (by simpa using h), fun h => hF.out.f7 (by simpa using h), fun h => hF.out.f8 (by simpa using h), fun h => hF.out.f9 (by simpa using h), fun h => hF.out.f10 (by simpa using h), fun h => hF.out.f11 (by simpa using h), fun h => hF.out.f12 (by simpa using h), fun h => hF.out.f13 (by simpa using h), fun h => hF.out.f14 (by simpa using h), hF.out.bw, hF.out.oth, fun h => hF.out.b0 (by simpa using h), fun h => hF.out.b1 (by simpa using h)⟩
            · intro d a W hI hd hdep
              obtain ⟨x3, x36, x37, x38, x39, x40, x41, x42, x43, x44, x45, x46, x47, x48, rfl, hF⟩ := hI
              clear hdep hd
              intro K hK
              simp only [Act.put, List.setIfInBounds_toArray, List.set_cons_zero, List.set_cons_succ]
              go_simp
              refine hK.out _ _ ⟨x3, x36, x37, x38, x39, x40, (.pointer (some ⟨gt, 2, none⟩)), x42, x43, x44, x45, x46, x47, x48, by first | (simp only [Act.put, List.setIfInBounds_toArray, List.set_cons_zero, List.set_cons_succ]; done) | (simp only [Act.put, List.setIfInBounds_toArray, List.set_cons_zero, List.set_cons_succ]; rfl), ?_⟩
              exact ⟨fun h => hF.out.f0 (by simpa using h), fun h => hF.out.f1 (by simpa using h), fun h => hF.out.f2 (by simpa using h), fun h => hF.out.f3 (by simpa using h), fun h => hF.out.f4 (by simpa using h), fun _ => rfl, fun h => hF.out.f6 (by simpa using h), fun h => hF.out.f7 (by simpa using h), fun h => hF.out.f8 (by simpa using h), fun h => hF.out.f9 (by simpa using h), fun h => hF.out.f10 (by simpa using h), fun h => hF.out.f11 (by simpa using h), fun h => hF.out.f12 (by simpa using h), fun h => hF.out.f13 (by simpa using h), fun h => hF.out.f14 (by simpa using h), hF.out.bw, hF.out.oth, fun h => hF.out.b0 (by simpa using h), fun h => hF.out.b1 (by simpa using h)⟩
            · intro d a W hI hd hdep
              obtain ⟨x3, x36, x37, x38, x39, x40, x41, x42, x43, x44, x45, x46, x47, x48, rfl, hF⟩ := hI
              have hd5 : d 5 = true := dep_of hdep 5 (by kernel_rfl)
              obtain rfl := hF.out.f5 hd5
              clear hdep hd hd5
              intro K hK
              simp only [Act.put, List.setIfInBounds_toArray, List.set_cons_zero, List.set_cons_succ]
              go_simp
              refine hK.out _ _ ⟨x3, x36, x37, x38, x39, x40, (.pointer (some ⟨gt, 2, none⟩)), (.pointer (some ⟨gt, 3, none⟩)), x43, x44, x45, x46, x47, x48, by first | (simp only [Act.put, List.setIfInBounds_toArray, List.set_cons_zero, List.set_cons_succ]; done) | (simp only [Act.put, List.setIfInBounds_toArray, List.set_cons_zero, List.set_cons_succ]; rfl), ?_⟩
              exact ⟨fun h => hF.out.f0 (by simpa using h), fun h => hF.out.f1 (by simpa using h), fun h => hF.out.f2 (by simpa using h), fun h => hF.out.f3 (by simpa using h), fun h => hF.out.f4 (by simpa using h), fun h => hF.out.f5 (by simpa using h), fun _ => rfl, fun h => hF.out.f7 (by simpa using h), fun h => hF.out.f8 (by simpa using h), fun h => hF.out.f9 (by simpa using h), fun h => hF.out.f10 (by simpa using h), fun h => hF.out.f11 (by simpa using h), fun h => hF.out.f12 (by simpa using h), fun h => hF.out.f13 (by simpa using h), fun h => hF.out.f14 (by simpa using h), hF.out.bw, hF.out.oth, fun h => hF.out.b0 (by simpa using h), fun h => hF.out.b1 (by simpa using h)⟩
            · intro d a W hI hd hdep
              obtain ⟨x3, x36, x37, x38, x39, x40, x41, x42, x43, x44, x45, x46, x47, x48, rfl, hF⟩ := hI
              have hd6 : d 6 = true := dep_of hdep 6 (by kernel_rfl)
              obtain rfl := hF.out.f6 hd6
              have q0 := (hF.out.oth ⟨gt, 3, none⟩ HNE.out.2).trans HR7.out.2.1
              clear hdep hd hd6
              intro K hK
              simp only [Act.put, List.setIfInBounds_toArray, List.set_cons_zero, List.set_cons_succ]
              go_simp
              refine hK.out _ _ ⟨x3, x36, x37, x38, x39, x40, x41, (.pointer (some ⟨gt, 3, none⟩)), (.int .i64 u3), x44, x45, x46, x47, x48, by first | (simp only [Act.put, List.setIfInBounds_toArray, List.set_cons_zero, List.set_cons_succ]; done) | (simp only [Act.put, List.setIfInBounds_toArray, List.set_cons_zero, List.set_cons_succ]; rfl), ?_⟩
              exact ⟨fun h => hF.out.f0 (by simpa using h), fun h => hF.out.f1 (by simpa using h), fun h => hF.out.f2 (by simpa using h), fun h => hF.out.f3 (by simpa using h), fun h => hF.out.f4 (by simpa using h), fun h => hF.out.f5 (by simpa using h), fun h => hF.out.f6 (by simpa using h), fun _ => rfl, fun h => hF.out.f8 (by simpa using h), fun h => hF.out.f9 (by simpa using h), fun h => hF.out.f10 (by simpa using h), fun h => hF.out.f11 (by simpa using h), fun h => hF.out.f12 (by simpa using h), fun h => hF.out.f13 (by simpa using h), fun h => hF.out.f14 (by simpa using h), hF.out.bw, hF.out.oth, fun h => hF.out.b0 (by simpa using h), fun h => hF.out.b1 (by simpa using h)⟩
            · intro d a W hI hd hdep
              obtain ⟨x3, x36, x37, x38, x39, x40, x41, x42, x43, x44, x45, x46, x47, x48, rfl, hF⟩ := hI
              clear hdep hd
              intro K hK
              simp only [Act.put, List.setIfInBounds_toArray, List.set_cons_zero, List.set_cons_succ]
              go_simp
              refine hK.out _ _ ⟨x3, x36, x37, x38, x39, x40, x41, x42, x43, (.pointer (some ⟨g, 0, none⟩)), x45, x46, x47, x48, by first | (simp only [Act.put, List.setIfInBounds_toArray, List.set_cons_zero, List.set_cons_succ]; done) | (simp only [Act.put, List.setIfInBounds_toArray, List.set_cons_zero, List.set_cons_succ]; rfl), ?_⟩
              exact ⟨fun h => hF.out.f0 (by simpa using h), fun h => hF.out.f1 (by simpa using h), fun h => hF.out.f2 (by simpa using h), fun h => hF.out.f3 (by simpa using h), fun h => hF.out.f4 (by simpa using h), fun h => hF.out.f5 (by simpa using h), fun h => hF.out.f6 (by simpa using h), fun h => hF.out.f7 (by simpa using h), fun _ => rfl, fun h => hF.out.f9 (by simpa using h), fun h => hF.out.f10 (by simpa using h), fun h => hF.out.f11 (by simpa using h), fun h => hF.out.f12 (by simpa using h), fun h => hF.out.f13 (by simpa using h), fun h => hF.out.f14 (by simpa using h), hF.out.bw, hF.out.oth, fun h => hF.out.b0 (by simpa using h), fun h => hF.out.b1 (by simpa using h)⟩
            · intro d a W hI hd hdep
              obtain ⟨x3, x36, x37, x38, x39, x40, x41, x42, x43, x44, x45, x46, x47, x48, rfl, hF⟩ := hI
              have hd8 : d 8 = true := dep_of hdep 8 (by kernel_rfl)
              obtain rfl := hF.out.f8 hd8
              clear hdep hd hd8
              intro K hK
              simp only [Act.put, List.setIfInBounds_toArray, List.set_cons_zero, List.set_cons_succ]
              go_simp
              refine hK.out _ _ ⟨x3, x36, x37, x38, x39, x40, x41, x42, x43, (.pointer (some ⟨g, 0, none⟩)), (.pointer (some ⟨g, 0, none⟩)), x46, x47, x48, by first | (simp only [Act.put, List.setIfInBounds_toArray, List.set_cons_zero, List.set_cons_succ]; done) | (simp only [Act.put, List.setIfInBounds_toArray, List.set_cons_zero, List.set_cons_succ]; rfl), ?_⟩
              exact ⟨fun h => hF.out.f0 (by simpa using h), fun h => hF.out.f1 (by simpa using h), fun h => hF.out.f2 (by simpa using h), fun h => hF.out.f3 (by simpa using h), fun h => hF.out.f4 (by simpa using h), fun h => hF.out.f5 (by simpa using h), fun h => hF.out.f6 (by simpa using h), fun h => hF.out.f7 (by simpa using h), fun h => hF.out.f8 (by simpa using h), fun _ => rfl, fun h => hF.out.f10 (by simpa using h), fun h => hF.out.f11 (by simpa using h), fun h => hF.out.f12 (by simpa using h), fun h => hF.out.f13 (by simpa using h), fun h => hF.out.f14 (by simpa using h), hF.out.bw, hF.out.oth, fun h => hF.out.b0 (by simpa using h), fun h => hF.out.b1 (by simpa using h)⟩
            · intro d a W hI hd hdep
              obtain ⟨x3, x36, x37, x38, x39, x40, x41, x42, x43, x44, x45, x46, x47, x48, rfl, hF⟩ := hI
              have hd9 : d 9 = true := dep_of hdep 9 (by kernel_rfl)
              obtain rfl := hF.out.f9 hd9
              clear hdep hd hd9
              intro K hK
              simp only [Act.put, List.setIfInBounds_toArray, List.set_cons_zero, List.set_cons_succ]
              go_simp
              refine hK.out _ _ ⟨x3, x36, x37, x38, x39, x40, x41, x42, x43, x44, (.pointer (some ⟨g, 0, none⟩)), (.pointer (some ⟨g, 4, none⟩)), x47, x48, by first | (simp only [Act.put, List.setIfInBounds_toArray, List.set_cons_zero, List.set_cons_succ]; done) | (simp only [Act.put, List.setIfInBounds_toArray, List.set_cons_zero, List.set_cons_succ]; rfl), ?_⟩
              exact ⟨fun h => hF.out.f0 (by simpa using h), fun h => hF.out.f1 (by simpa using h), fun h => hF.out.f2 (by simpa using h), fun h => hF.out.f3 (by simpa using h), fun h => hF.out.f4 (by simpa using h), fun h => hF.out.f5 (by simpa using h), fun h => hF.out.f6 (by simpa using h), fun h => hF.out.f7 (by simpa using h), fun h => hF.out.f8 (by simpa using h), fun h => hF.out.f9 (by simpa using h), fun _ => rfl, fun h => hF.out.f11 (by simpa using h), fun h => hF.out.f12 (by simpa using h), fun h => hF.out.f13 (by simpa using h), fun h => hF.out.f14 (by simpa using h), hF.out.bw, hF.out.oth, fun h => hF.out.b0 (by simpa using h), fun h => hF.out.b1 (by simpa using h)⟩
            · intro d a W hI hd hdep
              obtain ⟨x3, x36, x37, x38, x39, x40, x41, x42, x43, x44, x45, x46, x47, x48, rfl, hF⟩ := hI
              have hd10 : d 10 = true := dep_of hdep 10 (by kernel_rfl)
              obtain rfl := hF.out.f10 hd10
              have q0 := (hF.out.oth ⟨g, 4, none⟩ HNE.out.1).trans HR7.out.2.2
              clear hdep hd hd10
              intro K hK
              simp only [Act.put, List.setIfInBounds_toArray, List.set_cons_zero, List.set_cons_succ]
              go_simp
              refine hK.out _ _ ⟨x3, x36, x37, x38, x39, x40, x41, x42, x43, x44, x45, (.pointer (some ⟨g, 4, none⟩)), (.int .i64 col), x48, by first | (simp only [Act.put, List.setIfInBounds_toArray, List.set_cons_zero, List.set_cons_succ]; done) | (simp only [Act.put, List.setIfInBounds_toArray, List.set_cons_zero, List.set_cons_succ]; rfl), ?_⟩
              exact ⟨fun h => hF.out.f0 (by simpa using h), fun h => hF.out.f1 (by simpa using h), fun h => hF.out.f2 (by simpa using h), fun h => hF.out.f3 (by simpa using h), fun h => hF.out.f4 (by simpa using h), fun h => hF.out.f5 (by simpa using h), fun h => hF.out.f6 (by simpa using h), fun h => hF.out.f7 (by simpa using h), fun h => hF.out.f8 (by simpa using h), fun h => hF.out.f9 (by simpa using h), fun h => hF.out.f10 (by simpa using h), fun _ => rfl, fun h => hF.out.f12 (by simpa using h), fun h => hF.out.f13 (by simpa using h), fun h => hF.out.f14 (by simpa using h), hF.out.bw, hF.out.oth, fun h => hF.out.b0 (by simpa using h), fun h => hF.out.b1 (by simpa using h)⟩
            · intro d a W hI hd hdep
              obtain ⟨x3, x36, x37, x38, x39, x40, x41, x42, x43, x44, x45, x46, x47, x48, rfl, hF⟩ := hI
              have hd7 : d 7 = true := dep_of hdep 7 (by kernel_rfl)
              have hd11 : d 11 = true := dep_of hdep 11 (by kernel_rfl)
              obtain rfl := hF.out.f7 hd7
              obtain rfl := hF.out.f11 hd11
              have hbb := HBB7.out
              clear hdep hd hd7 hd11
              intro K hK
              simp only [Act.put, List.setIfInBounds_toArray, List.set_cons_zero, List.set_cons_succ]
              go_simp
              first | rw [hbb] | skip
              refine hK.out _ _ ⟨x3, x36, x37, x38, x39, x40, x41, x42, (.int .i64 u3), x44, x45, x46, (.int .i64 col), (.bool bb), by first | (simp only [Act.put, List.setIfInBounds_toArray, List.set_cons_zero, List.set_cons_succ]; done) | (simp only [Act.put, List.setIfInBounds_toArray, List.set_cons_zero, List.set_cons_succ]; rfl), ?_⟩
              exact ⟨fun h => hF.out.f0 (by simpa using h), fun h => hF.out.f1 (by simpa using h), fun h => hF.out.f2 (by simpa using h), fun h => hF.out.f3 (by simpa using h), fun h => hF.out.f4 (by simpa using h), fun h => hF.out.f5 (by simpa using h), fun h => hF.out.f6 (by simpa using h), fun h => hF.out.f7 (by simpa using h), fun h => hF.out.f8 (by simpa using h), fun h => hF.out.f9 (by simpa using h), fun h => hF.out.f10 (by simpa using h), fun h => hF.out.f11 (by simpa using h), fun _ => rfl, fun h => hF.out.f13 (by simpa using h), fun h => hF.out.f14 (by simpa using h), hF.out.bw, hF.out.oth, fun h => hF.out.b0 (by simpa using h), fun h => hF.out.b1 (by simpa using h)⟩
            · intro d a W hI hd hdep
              obtain ⟨x3, x36, x37, x38, x39, x40, x41, x42, x43, x44, x45, x46, x47, x48, rfl, hF⟩ := hI
              have hd4 : d 4 = true := dep_of hdep 4 (by kernel_rfl)
              obtain rfl := hF.out.f4 hd4
              have hbt := hF.out.b0 hd
              have p0 := tcell_blk hbt 0
              have p1 := tcell_blk hbt 1
              have f0 := tfrozen_blk hbt 0
              have f1 := tfrozen_blk hbt 1
              simp only [List.getElem?_toArray, List.getElem?_cons_zero, List.getElem?_cons_succ] at p0 p1
              have hbw := hF.out.bw
              have hoth := hF.out.oth
              clear hdep hd hd4
              intro K hK
              simp only [Act.put, List.setIfInBounds_toArray, List.set_cons_zero, List.set_cons_succ]
              go_simp
              rw [← set2_eq]
              refine hK.out _ _ ⟨x3, x36, x37, x38, x39, (.agg #[.int .i64 2, .int .i64 sn]), x41, x42, x43, x44, x45, x46, x47, x48, by first | (simp only [Act.put, List.setIfInBounds_toArray, List.set_cons_zero, List.set_cons_succ]; done) | (simp only [Act.put, List.setIfInBounds_toArray, List.set_cons_zero, List.set_cons_succ]; rfl), ?_⟩
              exact ⟨fun h => hF.out.f0 (by simpa using h), fun h => hF.out.f1 (by simpa using h), fun h => hF.out.f2 (by simpa using h), fun h => hF.out.f3 (by simpa using h), fun h => hF.out.f4 (by simpa using h), fun h => hF.out.f5 (by simpa using h), fun h => hF.out.f6 (by simpa using h), fun h => hF.out.f7 (by simpa using h), fun h => hF.out.f8 (by simpa using h), fun h => hF.out.f9 (by simpa using h), fun h => hF.out.f10 (by simpa using h), fun h => hF.out.f11 (by simpa using h), fun h => hF.out.f12 (by simpa using h), fun _ => trivial, fun h => hF.out.f14 (by simpa using h), set2_bel hbw HG2L.out, fun p hp => (World.cell?_of_block (set2_other hp)).trans (hoth p hp), fun h => by simp at h, fun _ => set2_blk hbt _ _⟩
            · intro d a W hI hd hdep
              obtain ⟨x3, x36, x37, x38, x39, x40, x41, x42, x43, x44, x45, x46, x47, x48, rfl, hF⟩ := hI
              have hd12 : d 12 = true := dep_of hdep 12 (by kernel_rfl)
              have hd13 : d 13 = true := dep_of hdep 13 (by kernel_rfl)
              obtain rfl := hF.out.f12 hd12
              clear hdep hd hd12 hd13
              intro K hK
              simp only [Act.put, List.setIfInBounds_toArray, List.set_cons_zero, List.set_cons_succ]
              go_simp
              refine hK.out _ _ ⟨(.bool bb), x36, x37, x38, x39, x40, x41, x42, x43, x44, x45, x46, x47, (.bool bb), by first | (simp only [Act.put, List.setIfInBounds_toArray, List.set_cons_zero, List.set_cons_succ]; done) | (simp only [Act.put, List.setIfInBounds_toArray, List.set_cons_zero, List.set_cons_succ]; rfl), ?_⟩
              exact ⟨fun h => hF.out.f0 (by simpa using h), fun h => hF.out.f1 (by simpa using h), fun h => hF.out.f2 (by simpa using h), fun h => hF.out.f3 (by simpa using h), fun h => hF.out.f4 (by simpa using h), fun h => hF.out.f5 (by simpa using h), fun h => hF.out.f6 (by simpa using h), fun h => hF.out.f7 (by simpa using h), fun h => hF.out.f8 (by simpa using h), fun h => hF.out.f9 (by simpa using h), fun h => hF.out.f10 (by simpa using h), fun h => hF.out.f11 (by simpa using h), fun h => hF.out.f12 (by simpa using h), fun h => hF.out.f13 (by simpa using h), fun _ => rfl, hF.out.bw, hF.out.oth, fun h => hF.out.b0 (by simpa using h), fun h => hF.out.b1 (by simpa using h)⟩
          · intro d a W hI hall
            obtain ⟨x3, x36, x37, x38, x39, x40, x41, x42, x43, x44, x45, x46, x47, x48, rfl, hF⟩ := hI
            simp only [List.length_cons, List.length_nil] at hall
            obtain rfl := hF.out.f0 (hall 0 (by omega))
            obtain rfl := hF.out.f1 (hall 1 (by omega))
            obtain rfl := hF.out.f2 (hall 2 (by omega))
            obtain rfl := hF.out.f3 (hall 3 (by omega))
            obtain rfl := hF.out.f4 (hall 4 (by omega))
            obtain rfl := hF.out.f5 (hall 5 (by omega))
            obtain rfl := hF.out.f6 (hall 6 (by omega))
            obtain rfl := hF.out.f7 (hall 7 (by omega))
            obtain rfl := hF.out.f8 (hall 8 (by omega))
            obtain rfl := hF.out.f9 (hall 9 (by omega))
            obtain rfl := hF.out.f10 (hall 10 (by omega))
            obtain rfl := hF.out.f11 (hall 11 (by omega))
            obtain rfl := hF.out.f12 (hall 12 (by omega))
            obtain rfl := hF.out.f14 (hall 14 (by omega))
            have z := hF.out.b1 (hall 13 (by omega))
            have z0 := tcell_blk z 0
            have z1 := tcell_blk z 1
            simp only [List.getElem?_toArray, List.getElem?_cons_zero, List.getElem?_cons_succ] at z0 z1
            have HFIN : Hid (Below w.heap.size w W) := hF.out.bw
            clear hF hall
            simp only [Act.put, List.setIfInBounds_toArray, List.set_cons_zero, List.set_cons_succ]
            go_wp2_with fail
            exact bodyPost_ret (v := .tuple #[.agg #[.int .i64 2, .int .i64 sn], .bool bb]) (by simp [results, Try.results96, go_sem, z0, z1]) rfl ⟨⟨_, _, _, rfl, HN.out⟩, HFIN.out⟩
        · have h4b : (u2 == 1) = false := by simpa using h4
          have hx2 := hx
          unfold okT okSy okN at hx2
          simp [h4] at hx2
          obtain ⟨m, rfl⟩ : ∃ m : Nat, u3 = (m : Int) := ⟨u3.toNat, by omega⟩
          have HM : Hid (m < rows.length) := by show m < rows.length; omega
          obtain ⟨ro, rc, rfl, hrm, hcs⟩ := (hr.below HWB.out.bel)
          obtain ⟨b, o, rfl, hb, hc⟩ := hcs.resolve_left (by intro e; have := HM.out; simp [e] at this)
          obtain ⟨u, hu0, hu1⟩ := hc m HM.out
          have HCL0 : Hid (col < (rows[m]'HM.out).length) := hrw m HM.out
          have HV0 : Hid (rwF rows col (m : Int) = (rows[m]'HM.out)[col]'HCL0.out) := rwF_at HM.out HCL0.out
          have HU : Hid (Ints w2 u (rows[m]'HM.out) ∧ ∃ hl : col < (rows[m]'HM.out).length, rwF rows col (m : Int) = (rows[m]'HM.out)[col]'hl) := ⟨hu1, HCL0.out, HV0.out⟩
          clear hu1 HV0 HCL0
          generalize rows[m]'HM.out = row at HU
          obtain ⟨uo, uc, rfl, hum, huc⟩ := HU.out.1
          obtain ⟨HCL, HV9⟩ := HU.out.2
          obtain ⟨b2, o2, rfl, hb2, hc2⟩ := huc.resolve_left (by intro e; subst e; simp at HCL)
          have hv := hc2 col HCL
          have HV : Hid (rwF rows col (m : Int) = row[col]'HCL) := HV9
          generalize row[col]'HCL = v at hv HV
          have HCL2 : Hid (col < row.length) := HCL
          obtain ⟨rl2, HRL2⟩ : ∃ rl2, Hid (row.length = rl2) := ⟨_, (rfl : row.length = _)⟩
          rw [HRL2.out] at hu0 HCL2 hum
          clear HU HV9
          have q1 := tcell_blk HWB.out.blk 3
          have q4 := tcell_blk HWB.out.blk 4
          simp only [List.getElem?_toArray, List.getElem?_cons_zero, List.getElem?_cons_succ] at q1 q4
          have hm0 : (0 : Int) ≤ (m : Int) := by omega
          have hm1 : (m : Int) < (rows.length : Int) := by have := HM.out; omega
          have hm2 : (0 : Int) ≤ (col : Int) := by omega
          have hm3 : (col : Int) < (rl2 : Int) := by have := HCL2.out; omega
          clear hc hc2 hcs huc hx hx2 h4 HRL2 htd hrl hrw hr HCL
          go_upto_region 8 with fail
          go_quiet (fail)
          have HW3 : Hid (Below w.heap.size w (w2.drewN nq)) := HBB.out.trans ((Go.Joins.below_draws _ _ _).mono HBB.out.size)
          have HN3 : Hid ((w2.drewN nq).heap[g2]? = some (.cells #[.int .i64 0, .int .i64 0] 66)) := HN2.out
          generalize w2.drewN nq = w3 at HW3 HN3 ⊢
          clear hv hu0 q1 q4 t0 t1 t2 t3
          have p0 := tcell_blk HN3.out 0
          have p1 := tcell_blk HN3.out 1
          have f0 := tfrozen_blk HN3.out 0
          have f1 := tfrozen_blk HN3.out 1
          simp only [List.getElem?_toArray, List.getElem?_cons_zero, List.getElem?_cons_succ] at p0 p1
          by_cases hv1 : v = -1
          · subst hv1
            have HN : Hid (nx1 (rwF rows col) (col : Int) sn ((false, u1, u2, (m : Int)) :: r) = opt1 false (1, -1)) := by
              show _ = _
              unfold nx1
              have h5 : ¬ u2 = 1 := by simpa using h4b
              simp only [HV.out, if_neg h5]; rfl
            go_wp2_with fail
            rw [← set2_eq]
            have z := set2_blk HN3.out (.int .i64 1) (.int .i64 (-1))
            have z0 := tcell_blk z 0
            have z1 := tcell_blk z 1
            simp only [List.getElem?_toArray, List.getElem?_cons_zero, List.getElem?_cons_succ] at z0 z1
            have HFIN : Hid (Below w.heap.size w (set2 w3 g2 (.int .i64 1) (.int .i64 (-1)))) := set2_bel HW3.out (by have := HG2.out; omega)
            exact bodyPost_ret (v := .tuple #[.agg #[.int .i64 1, .int .i64 (-1)], .bool false]) (by simp [results, Try.results96, go_sem, z0, z1]) rfl ⟨⟨_, _, _, rfl, HN.out⟩, HFIN.out⟩
          · have HN : Hid (nx1 (rwF rows col) (col : Int) sn ((false, u1, u2, (m : Int)) :: r) = opt1 true (1, v)) := by
              show _ = _
              unfold nx1
              have h5 : ¬ u2 = 1 := by simpa using h4b
              simp only [HV.out, if_neg h5, if_neg hv1]; rfl
            have hvb : (v != -1) = true := by simpa using hv1
            go_wp2_with fail
            rw [← set2_eq]
            have z := set2_blk HN3.out (.int .i64 1) (.int .i64 v)
            have z0 := tcell_blk z 0
            have z1 := tcell_blk z 1
            simp only [List.getElem?_toArray, List.getElem?_cons_zero, List.getElem?_cons_succ] at z0 z1
            have HFIN : Hid (Below w.heap.size w (set2 w3 g2 (.int .i64 1) (.int .i64 v))) := set2_bel HW3.out (by have := HG2.out; omega)
            exact bodyPost_ret (v := .tuple #[.agg #[.int .i64 1, .int .i64 v], .bool true]) (by simp [results, Try.results96, go_sem, z0, z1]) rfl ⟨⟨_, _, _, rfl, HN.out⟩, HFIN.out⟩
end Go.Proofs.Ytpfehghicaaghaa
