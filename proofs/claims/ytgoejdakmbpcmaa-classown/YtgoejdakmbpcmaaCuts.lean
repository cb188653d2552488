/-
  The contract of class.cut: of parts and a class it makes the list that YtgoejdakmbpcmaaParts says, in a row of the call's own or its caller's.
-/
import Derived.Test.YtgoejdakmbpcmaaCells
import Derived.Test.YtgoejdakmbpcmaaInvs
import Derived.Deep.RegionHeld3
import Derived.Deep.DeepCutAuto
import Derived.Maps.AppendAt
import Derived.Maps.Range
namespace Go.Proofs.Ytgoejdakmbpcmaa
open Go.RowKit
open Cls

theorem info24 : (Try.prog.info? 24).map (fun i => (i.zero, i.size, i.bytes)) = some (some (.agg #[.int .u64 0, .int .u64 0, .int .u64 0, .int .u64 0]), 4, 32) := by kernel_rfl
/-- A block that holds a class. -/
abbrev bk (d : Cl) : Obj := .cells #[.int .u64 (d.1.toNat : Int), .int .u64 (d.2.1.toNat : Int), .int .u64 (d.2.2.1.toNat : Int), .int .u64 (d.2.2.2.toNat : Int)] 24
theorem blk_next {W W' : World} {b : Nat} {o : Obj} (hb : Below W.heap.size W W') (h : W.heap[b]? = some o) : W'.heap[b]? = some o := by
  rcases Nat.lt_or_ge b W.heap.size with h' | h'
  · exact (hb.block b h').trans h
  · rw [Array.getElem?_eq_none h'] at h; cases h
theorem bx_of {B : Nat} {w W : World} {b : Nat} {c : Cl} (hb : Below B w W) (h : Bx w b c) (hB : b < B) : Bx W b c := ⟨(hb.cell hB).trans h.1, (hb.cell hB).trans h.2.1, (hb.cell hB).trans h.2.2.1, (hb.cell hB).trans h.2.2.2⟩
theorem dep_of {l : List Edge} {d : Nat → Bool} (h : ∀ e ∈ l, Region.binds .any e = true → d e.on = true) (j : Nat) (hj : l.any (fun e => Region.binds .any e && e.on == j) = true) : d j = true := by
  obtain ⟨e, he, h2⟩ := List.any_eq_true.1 hj
  simp only [Bool.and_eq_true, beq_iff_eq] at h2
  rw [← h2.2]; exact h e he h2.1
theorem st4 {W : World} {b : Nat} {d : Cl} (h : W.heap[b]? = some (bk d)) (e : Cl) : ((((W.setCell ⟨b, 0, none⟩ (.int .u64 (e.1.toNat : Int))).setCell ⟨b, 1, none⟩ (.int .u64 (e.2.1.toNat : Int))).setCell ⟨b, 2, none⟩ (.int .u64 (e.2.2.1.toNat : Int))).setCell ⟨b, 3, none⟩ (.int .u64 (e.2.2.2.toNat : Int))).heap[b]? = some (bk e) := by
  simp [World.setCell, Array.getElem?_modify, h]
theorem ot4 {W : World} {b k : Nat} (h : k ≠ b) (v0 v1 v2 v3 : Value) : ((((W.setCell ⟨b, 0, none⟩ v0).setCell ⟨b, 1, none⟩ v1).setCell ⟨b, 2, none⟩ v2).setCell ⟨b, 3, none⟩ v3).heap[k]? = W.heap[k]? := by
  rw [Below.heap_setCell _ _ _ _ h, Below.heap_setCell _ _ _ _ h, Below.heap_setCell _ _ _ _ h, Below.heap_setCell _ _ _ _ h]
theorem be4 {B : Nat} {w W : World} (h : Below B w W) {b : Nat} (hb : B ≤ b) (v0 v1 v2 v3 : Value) : Below B w ((((W.setCell ⟨b, 0, none⟩ v0).setCell ⟨b, 1, none⟩ v1).setCell ⟨b, 2, none⟩ v2).setCell ⟨b, 3, none⟩ v3) :=
  (((h.setCell hb _).setCell hb _).setCell hb _).setCell hb _
theorem no_way {p : Prop} (h : false = true) : p := by cases h
/-- What cut's loop keeps. -/
structure CR (base : Nat) (ps : List Cl) (c : Cl) (g : Nat) (w : World) (k g' cap' n : Nat) (wr : World) : Prop where
  len : n = (cutTo ps c k).length
  own : wr.ownsRow base 24 4 (.slice (some ⟨g', 0, none⟩) n cap') n (cs (cutTo ps c k))
  c3 : Bx wr w.heap.size c
  z5 : Bx wr (w.heap.size + 1) empty
  gr : w.grownBy wr (some g)
  far : g' = g ∨ w.heap.size + 2 ≤ g'
  sz : w.heap.size + 2 ≤ wr.heap.size

theorem grown_of_below {W W' : World} (h : Below W.heap.size W W') (row : Option Nat) : W.grownBy W' row := ⟨h.os, h.tape, h.output, h.size, fun i hi _ => h.block i hi⟩
theorem Bx.grown {W W' : World} {b : Nat} {c : Cl} {row : Option Nat} (h : Bx W b c) (hg : W.grownBy W' row) (hne : some b ≠ row) : Bx W' b c :=
  ⟨(hg.cell_far _ h.lt hne).trans h.1, (hg.cell_far _ h.lt hne).trans h.2.1, (hg.cell_far _ h.lt hne).trans h.2.2.1, (hg.cell_far _ h.lt hne).trans h.2.2.2⟩
theorem own_free {w : World} {base g n cap e size : Nat} {xs : List Value} (h : w.ownsRow base e size (.slice (some ⟨g, 0, none⟩) n cap) n xs) : ∀ o, w.frozen? ⟨g, o, none⟩ = false := by
  obtain ⟨_, ⟨h1, _⟩ | ⟨g', cap', cur, hv, _, hh, _⟩⟩ := h
  · cases h1
  · simp only [Value.slice.injEq, Option.some.injEq, Addr.mk.injEq] at hv
    obtain ⟨⟨rfl, _⟩, _⟩ := hv
    intro o; simp [World.frozen?, hh]
theorem own_lt {w : World} {base g n cap e size : Nat} {xs : List Value} (h : w.ownsRow base e size (.slice (some ⟨g, 0, none⟩) n cap) n xs) : g < w.heap.size := by
  obtain ⟨_, ⟨h1, _⟩ | ⟨g', cap', cur, hv, _, hh, _⟩⟩ := h
  · cases h1
  · simp only [Value.slice.injEq, Option.some.injEq, Addr.mk.injEq] at hv
    obtain ⟨⟨rfl, _⟩, _⟩ := hv
    rcases Nat.lt_or_ge g w.heap.size with h' | h'
    · exact h'
    · rw [Array.getElem?_eq_none h'] at hh; cases hh
theorem grown_set (W : World) (b o : Nat) (v : Value) : W.grownBy (W.setCell ⟨b, o, none⟩ v) (some b) := ⟨rfl, rfl, rfl, by simp [World.setCell], fun k _ hk => Below.heap_setCell _ _ _ _ (fun e => hk (by rw [e]))⟩
theorem grown_set4 (W : World) (b o0 o1 o2 o3 : Nat) (v0 v1 v2 v3 : Value) : W.grownBy ((((W.setCell ⟨b, o0, none⟩ v0).setCell ⟨b, o1, none⟩ v1).setCell ⟨b, o2, none⟩ v2).setCell ⟨b, o3, none⟩ v3) (some b) :=
  (((grown_set W b o0 v0).trans (grown_set _ b o1 v1)).trans (grown_set _ b o2 v2)).trans (grown_set _ b o3 v3)
theorem CR.next {base : Nat} {ps : List Cl} {c : Cl} {g : Nat} {w : World} {k g' cap' n : Nat} {wr W : World} (h : CR base ps c g w k g' cap' n wr) (hb : Below wr.heap.size wr W) : CR base ps c g w k g' cap' n W :=
  ⟨h.len, own_below h.own hb (Nat.le_refl _), h.c3.next hb, h.z5.next hb, h.gr.trans (grown_of_below hb _), h.far, Nat.le_trans h.sz hb.size⟩
theorem CR.same {base : Nat} {ps : List Cl} {c : Cl} {g : Nat} {w : World} {k g' cap' n : Nat} {wr : World} (h : CR base ps c g w k g' cap' n wr) (e : cutTo ps c (k + 1) = cutTo ps c k) : CR base ps c g w (k + 1) g' cap' n wr :=
  ⟨by rw [e]; exact h.len, by rw [e]; exact h.own, h.c3, h.z5, h.gr, h.far, h.sz⟩
/-- What cut's region keeps, whichever of its operations are done. -/
structure CI (wr : World) (g' n cap' k : Nat) (c pk : Cl) (d : Nat → Bool) (x7 x8 x15 x16 x17 x18 x19 x20 x21 x22 x23 x24 x25 x26 x27 : Value) (W : World) : Prop where
  below : Below wr.heap.size wr W
  f0 : d 0 = true → x15 = (.slice (some ⟨g', 0, none⟩) n cap')
  f1 : d 1 = true → x16 = (.int .i64 (k : Int))
  f2 : d 2 = true → x17 = (.pointer (some ⟨g', k * 4, none⟩))
  f3 : d 3 = true → x18 = (.agg #[.int .u64 (pk.1.toNat : Int), .int .u64 (pk.2.1.toNat : Int), .int .u64 (pk.2.2.1.toNat : Int), .int .u64 (pk.2.2.2.toNat : Int)])
  f4 : d 4 = true → x19 = (.agg #[.int .u64 (c.1.toNat : Int), .int .u64 (c.2.1.toNat : Int), .int .u64 (c.2.2.1.toNat : Int), .int .u64 (c.2.2.2.toNat : Int)])
  f5 : d 5 = true → x20 = (.agg #[.int .u64 ((meet pk c).1.toNat : Int), .int .u64 ((meet pk c).2.1.toNat : Int), .int .u64 ((meet pk c).2.2.1.toNat : Int), .int .u64 ((meet pk c).2.2.2.toNat : Int)])
  f6 : d 6 = true → x21 = (.slice (some ⟨g', 0, none⟩) n cap')
  f7 : d 7 = true → x22 = (.int .i64 (k : Int))
  f8 : d 8 = true → x23 = (.pointer (some ⟨g', k * 4, none⟩))
  f9 : d 9 = true → x24 = (.agg #[.int .u64 (pk.1.toNat : Int), .int .u64 (pk.2.1.toNat : Int), .int .u64 (pk.2.2.1.toNat : Int), .int .u64 (pk.2.2.2.toNat : Int)])
  f10 : d 10 = true → x25 = (.agg #[.int .u64 (c.1.toNat : Int), .int .u64 (c.2.1.toNat : Int), .int .u64 (c.2.2.1.toNat : Int), .int .u64 (c.2.2.2.toNat : Int)])
  f11 : d 11 = true → x26 = (.agg #[.int .u64 ((neg c).1.toNat : Int), .int .u64 ((neg c).2.1.toNat : Int), .int .u64 ((neg c).2.2.1.toNat : Int), .int .u64 ((neg c).2.2.2.toNat : Int)])
  f12 : d 12 = true → x27 = (.agg #[.int .u64 ((meet pk (neg c)).1.toNat : Int), .int .u64 ((meet pk (neg c)).2.1.toNat : Int), .int .u64 ((meet pk (neg c)).2.2.1.toNat : Int), .int .u64 ((meet pk (neg c)).2.2.2.toNat : Int)])
  f13 : d 13 = true → ∃ b, x7 = .pointer (some ⟨b, 0, none⟩) ∧ wr.heap.size ≤ b ∧ W.heap[b]? = some (bk (if d 15 then meet pk c else empty))
  f14 : d 14 = true → ∃ b, x8 = .pointer (some ⟨b, 0, none⟩) ∧ wr.heap.size ≤ b ∧ W.heap[b]? = some (bk (if d 16 then meet pk (neg c) else empty))
  fne : d 13 = true → d 14 = true → x7 ≠ x8
  f15 : d 15 = true → d 13 = true ∧ d 14 = true
  f16 : d 16 = true → d 13 = true ∧ d 14 = true

set_option maxHeartbeats 4000000 in
set_option maxRecDepth 20000 in
theorem cut_any (base : Nat) (ps : List Cl) (c : Cl) (g cap : Nat) (w : World) (h0 : 0 < ps.length) (hps : ps.length ≤ 256) (hbase : base ≤ w.heap.size) (hown : w.ownsRow base 24 4 (.slice (some ⟨g, 0, none⟩) ps.length cap) ps.length (cs ps)) :
    Calls Try.prog 33 #[.slice (some ⟨g, 0, none⟩) ps.length cap, .agg #[.int .u64 (c.1.toNat : Int), .int .u64 (c.2.1.toNat : Int), .int .u64 (c.2.2.1.toNat : Int), .int .u64 (c.2.2.2.toNat : Int)]] w fun e w' => ∃ g' cap', e = .returned (.slice (some ⟨g', 0, none⟩) (Cls.cut ps c).length cap') ∧ w'.ownsRow base 24 4 (.slice (some ⟨g', 0, none⟩) (Cls.cut ps c).length cap') (Cls.cut ps c).length (cs (Cls.cut ps c)) ∧ w.grownBy w' (some g) ∧ (g' = g ∨ w.heap.size ≤ g') := by
  obtain ⟨i0, hi, hz0, hz1, hz2⟩ := info_parts info24
  have HO : Hid (w.ownsRow base 24 4 (.slice (some ⟨g, 0, none⟩) ps.length cap) ps.length (cs ps)) := hown
  clear hown
  go_enter Try.func33, Try.ntmps33
  go_wp2_with fail
  go_loopw [0, 12] (fun v i wr => ∃ (k g' cap' n : Nat), k ≤ ps.length ∧ i = .int .i64 (k : Int) ∧ v = .slice (some ⟨g', 0, none⟩) n cap' ∧ Hid (CR base ps c g w k g' cap' n wr)) (fun _ i _ => ps.length - (intOf i).toNat)
  case atStart =>
    refine ⟨0, g, cap, ps.length, by omega, rfl, rfl, ⟨by rw [cutTo_zero], ?_, ?_, ?_, ?_, Or.inl rfl, by simp⟩⟩
    · rw [cutTo_zero]; exact (HO.out.alloc _).alloc _
    · exact (bx_new w c).alloc _
    · have h := bx_new (w.alloc (bk c)) empty
      have e : (w.alloc (bk c)).heap.size = w.heap.size + 1 := by simp
      rw [e] at h; exact h
    · exact ((World.grownBy_alloc w _ (some g)).trans (World.grownBy_alloc _ _ (some g)))
  case round =>
    obtain ⟨k, g', cap', n, hk, rfl, rfl, HC⟩ := hrel
    by_cases hlt : k < ps.length
    · obtain ⟨pk, HP⟩ : ∃ pk, Hid (ps[k] = pk) := ⟨_, (rfl : ps[k] = ps[k])⟩
      have hn : k < n := by have := HC.out.len; have := cutTo_length ps c k; omega
      have hn2 : n ≤ 512 := by have := HC.out.len; have := cutTo_length ps c k; omega
      have hcell : ∀ j, j < 4 → wr.cell? ⟨g', k * 4 + j, none⟩ = some (.int .u64 ((wd pk j).toNat : Int)) := fun j hj => by
        obtain ⟨g2, cap2, e1, e2, e3, e4, e5, e6⟩ := own_cells HC.out.own (by have := HC.out.len; omega)
        simp only [Value.slice.injEq, Option.some.injEq, Addr.mk.injEq] at e1
        obtain ⟨⟨rfl, _⟩, _, rfl⟩ := e1
        have := e6 k (by have := HC.out.len; omega) j hj
        rw [cutTo_at ps c k hlt (by have := HC.out.len; omega), HP.out] at this
        exact this
      have q0 : wr.cell? ⟨g', k * 4, none⟩ = some (.int .u64 (pk.1.toNat : Int)) := hcell 0 (by omega)
      have q1 : wr.cell? ⟨g', k * 4 + 1, none⟩ = some (.int .u64 (pk.2.1.toNat : Int)) := hcell 1 (by omega)
      have q2 : wr.cell? ⟨g', k * 4 + 2, none⟩ = some (.int .u64 (pk.2.2.1.toNat : Int)) := hcell 2 (by omega)
      have q3 : wr.cell? ⟨g', k * 4 + 3, none⟩ = some (.int .u64 (pk.2.2.2.toNat : Int)) := hcell 3 (by omega)
      have hg' : g' < wr.heap.size := World.block_lt_of_cell? wr ⟨g', k * 4, none⟩ q0
      clear hcell
      have hlt3 : w.heap.size < wr.heap.size := by have := HC.out.sz; omega
      go_upto_region 5 with fail
      go_cut [7, 8] (fun p7 p8 wx => ∃ b7 b8, p7 = .pointer (some ⟨b7, 0, none⟩) ∧ p8 = .pointer (some ⟨b8, 0, none⟩) ∧ Hid (Below wr.heap.size wr wx ∧ wr.heap.size ≤ b7 ∧ wr.heap.size ≤ b8 ∧ wx.heap[b7]? = some (bk (meet pk c)) ∧ wx.heap[b8]? = some (bk (meet pk (neg c)))))
      case first =>
        refine wp_region_inv mixed (fun a0 d a W => ∃ x7 x8 x15 x16 x17 x18 x19 x20 x21 x22 x23 x24 x25 x26 x27 : Value, a = (((((((((((((((a0.put (some 7) x7).put (some 8) x8).put (some 15) x15).put (some 16) x16).put (some 17) x17).put (some 18) x18).put (some 19) x19).put (some 20) x20).put (some 21) x21).put (some 22) x22).put (some 23) x23).put (some 24) x24).put (some 25) x25).put (some 26) x26).put (some 27) x27) ∧ Hid (CI wr g' n cap' k c pk d x7 x8 x15 x16 x17 x18 x19 x20 x21 x22 x23 x24 x25 x26 x27 W)) (by kernel_rfl) ⟨u7, u8, u15, u16, u17, u18, u19, u20, u21, u22, u23, u24, u25, u26, u27, by simp only [Act.put, List.setIfInBounds_toArray, List.set_cons_zero, List.set_cons_succ], ?_⟩ ?_ ?_
        · exact ⟨(Below.refl _ wr).drew, fun h => no_way h, fun h => no_way h, fun h => no_way h, fun h => no_way h, fun h => no_way h, fun h => no_way h, fun h => no_way h, fun h => no_way h, fun h => no_way h, fun h => no_way h, fun h => no_way h, fun h => no_way h, fun h => no_way h, fun h => no_way h, fun h => no_way h, fun h => no_way h, fun h => no_way h, fun h => no_way h⟩
        · simp only [StepAll, and_true]
          refine ⟨?_, ?_, ?_, ?_, ?_, ?_, ?_, ?_, ?_, ?_, ?_, ?_, ?_, ?_, ?_, ?_, ?_⟩
          · intro d a W hI hd hdep
            obtain ⟨x7, x8, x15, x16, x17, x18, x19, x20, x21, x22, x23, x24, x25, x26, x27, rfl, hF⟩ := hI
            have hB := hF.out.below
            clear hB hdep hd
            intro K hK
            simp only [Act.put, List.setIfInBounds_toArray, List.set_cons_zero, List.set_cons_succ]
            go_simp
            refine hK.out _ _ ⟨x7, x8, (.slice (some ⟨g', 0, none⟩) n cap'), x16, x17, x18, x19, x20, x21, x22, x23, x24, x25, x26, x27, by simp only [Act.put, List.setIfInBounds_toArray, List.set_cons_zero, List.set_cons_succ], ?_⟩
            have hB := hF.out.below
            exact ⟨hB, fun _ => rfl, fun h => hF.out.f1 (by simpa using h), fun h => hF.out.f2 (by simpa using h), fun h => hF.out.f3 (by simpa using h), fun h => hF.out.f4 (by simpa using h), fun h => hF.out.f5 (by simpa using h), fun h => hF.out.f6 (by simpa using h), fun h => hF.out.f7 (by simpa using h), fun h => hF.out.f8 (by simpa using h), fun h => hF.out.f9 (by simpa using h), fun h => hF.out.f10 (by simpa using h), fun h => hF.out.f11 (by simpa using h), fun h => hF.out.f12 (by simpa using h), fun h => by simpa using hF.out.f13 (by simpa using h), fun h => by simpa using hF.out.f14 (by simpa using h), fun h h2 => hF.out.fne (by simpa using h) (by simpa using h2), fun h => by simpa using hF.out.f15 (by simpa using h), fun h => by simpa using hF.out.f16 (by simpa using h)⟩
          · intro d a W hI hd hdep
            obtain ⟨x7, x8, x15, x16, x17, x18, x19, x20, x21, x22, x23, x24, x25, x26, x27, rfl, hF⟩ := hI
            have hB := hF.out.below
            clear hB hdep hd
            intro K hK
            simp only [Act.put, List.setIfInBounds_toArray, List.set_cons_zero, List.set_cons_succ]
            go_simp
            refine hK.out _ _ ⟨x7, x8, x15, (.int .i64 (k : Int)), x17, x18, x19, x20, x21, x22, x23, x24, x25, x26, x27, by simp only [Act.put, List.setIfInBounds_toArray, List.set_cons_zero, List.set_cons_succ], ?_⟩
            have hB := hF.out.below
            exact ⟨hB, fun h => hF.out.f0 (by simpa using h), fun _ => rfl, fun h => hF.out.f2 (by simpa using h), fun h => hF.out.f3 (by simpa using h), fun h => hF.out.f4 (by simpa using h), fun h => hF.out.f5 (by simpa using h), fun h => hF.out.f6 (by simpa using h), fun h => hF.out.f7 (by simpa using h), fun h => hF.out.f8 (by simpa using h), fun h => hF.out.f9 (by simpa using h), fun h => hF.out.f10 (by simpa using h), fun h => hF.out.f11 (by simpa using h), fun h => hF.out.f12 (by simpa using h), fun h => by simpa using hF.out.f13 (by simpa using h), fun h => by simpa using hF.out.f14 (by simpa using h), fun h h2 => hF.out.fne (by simpa using h) (by simpa using h2), fun h => by simpa using hF.out.f15 (by simpa using h), fun h => by simpa using hF.out.f16 (by simpa using h)⟩
          · intro d a W hI hd hdep
            obtain ⟨x7, x8, x15, x16, x17, x18, x19, x20, x21, x22, x23, x24, x25, x26, x27, rfl, hF⟩ := hI
            have hd0 : d 0 = true := dep_of hdep 0 (by kernel_rfl)
            have hd1 : d 1 = true := dep_of hdep 1 (by kernel_rfl)
            have hB := hF.out.below
            obtain rfl := hF.out.f0 hd0
            obtain rfl := hF.out.f1 hd1
            clear hB hdep hd
            intro K hK
            simp only [Act.put, List.setIfInBounds_toArray, List.set_cons_zero, List.set_cons_succ]
            go_simp
            refine hK.out _ _ ⟨x7, x8, (.slice (some ⟨g', 0, none⟩) n cap'), (.int .i64 (k : Int)), (.pointer (some ⟨g', k * 4, none⟩)), x18, x19, x20, x21, x22, x23, x24, x25, x26, x27, by simp only [Act.put, List.setIfInBounds_toArray, List.set_cons_zero, List.set_cons_succ], ?_⟩
            have hB := hF.out.below
            exact ⟨hB, fun h => hF.out.f0 (by simpa using h), fun h => hF.out.f1 (by simpa using h), fun _ => rfl, fun h => hF.out.f3 (by simpa using h), fun h => hF.out.f4 (by simpa using h), fun h => hF.out.f5 (by simpa using h), fun h => hF.out.f6 (by simpa using h), fun h => hF.out.f7 (by simpa using h), fun h => hF.out.f8 (by simpa using h), fun h => hF.out.f9 (by simpa using h), fun h => hF.out.f10 (by simpa using h), fun h => hF.out.f11 (by simpa using h), fun h => hF.out.f12 (by simpa using h), fun h => by simpa using hF.out.f13 (by simpa using h), fun h => by simpa using hF.out.f14 (by simpa using h), fun h h2 => hF.out.fne (by simpa using h) (by simpa using h2), fun h => by simpa using hF.out.f15 (by simpa using h), fun h => by simpa using hF.out.f16 (by simpa using h)⟩
          · intro d a W hI hd hdep
            obtain ⟨x7, x8, x15, x16, x17, x18, x19, x20, x21, x22, x23, x24, x25, x26, x27, rfl, hF⟩ := hI
            have hd2 : d 2 = true := dep_of hdep 2 (by kernel_rfl)
            have hB := hF.out.below
            obtain rfl := hF.out.f2 hd2
            have s0 : W.cell? ⟨g', k * 4, none⟩ = some (.int .u64 (pk.1.toNat : Int)) := (hB.cell hg').trans q0
            have s1 : W.cell? ⟨g', k * 4 + 1, none⟩ = some (.int .u64 (pk.2.1.toNat : Int)) := (hB.cell hg').trans q1
            have s2 : W.cell? ⟨g', k * 4 + 2, none⟩ = some (.int .u64 (pk.2.2.1.toNat : Int)) := (hB.cell hg').trans q2
            have s3 : W.cell? ⟨g', k * 4 + 3, none⟩ = some (.int .u64 (pk.2.2.2.toNat : Int)) := (hB.cell hg').trans q3
            clear hB hdep hd
            intro K hK
            simp only [Act.put, List.setIfInBounds_toArray, List.set_cons_zero, List.set_cons_succ]
            go_simp
            refine hK.out _ _ ⟨x7, x8, x15, x16, (.pointer (some ⟨g', k * 4, none⟩)), (.agg #[.int .u64 (pk.1.toNat : Int), .int .u64 (pk.2.1.toNat : Int), .int .u64 (pk.2.2.1.toNat : Int), .int .u64 (pk.2.2.2.toNat : Int)]), x19, x20, x21, x22, x23, x24, x25, x26, x27, by simp only [Act.put, List.setIfInBounds_toArray, List.set_cons_zero, List.set_cons_succ], ?_⟩
            have hB := hF.out.below
            exact ⟨hB, fun h => hF.out.f0 (by simpa using h), fun h => hF.out.f1 (by simpa using h), fun h => hF.out.f2 (by simpa using h), fun _ => rfl, fun h => hF.out.f4 (by simpa using h), fun h => hF.out.f5 (by simpa using h), fun h => hF.out.f6 (by simpa using h), fun h => hF.out.f7 (by simpa using h), fun h => hF.out.f8 (by simpa using h), fun h => hF.out.f9 (by simpa using h), fun h => hF.out.f10 (by simpa using h), fun h => hF.out.f11 (by simpa using h), fun h => hF.out.f12 (by simpa using h), fun h => by simpa using hF.out.f13 (by simpa using h), fun h => by simpa using hF.out.f14 (by simpa using h), fun h h2 => hF.out.fne (by simpa using h) (by simpa using h2), fun h => by simpa using hF.out.f15 (by simpa using h), fun h => by simpa using hF.out.f16 (by simpa using h)⟩
          · intro d a W hI hd hdep
            obtain ⟨x7, x8, x15, x16, x17, x18, x19, x20, x21, x22, x23, x24, x25, x26, x27, rfl, hF⟩ := hI
            have hB := hF.out.below
            have HX : Hid (Bx W w.heap.size c) := bx_of hB HC.out.c3 hlt3
            have s0 := HX.out.1
            have s1 := HX.out.2.1
            have s2 := HX.out.2.2.1
            have s3 := HX.out.2.2.2
            clear hB hdep hd
            intro K hK
            simp only [Act.put, List.setIfInBounds_toArray, List.set_cons_zero, List.set_cons_succ]
            go_simp
            refine hK.out _ _ ⟨x7, x8, x15, x16, x17, x18, (.agg #[.int .u64 (c.1.toNat : Int), .int .u64 (c.2.1.toNat : Int), .int .u64 (c.2.2.1.toNat : Int), .int .u64 (c.2.2.2.toNat : Int)]), x20, x21, x22, x23, x24, x25, x26, x27, by simp only [Act.put, List.setIfInBounds_toArray, List.set_cons_zero, List.set_cons_succ], ?_⟩
            have hB := hF.out.below
            exact ⟨hB, fun h => hF.out.f0 (by simpa using h), fun h => hF.out.f1 (by simpa using h), fun h => hF.out.f2 (by simpa using h), fun h => hF.out.f3 (by simpa using h), fun _ => rfl, fun h => hF.out.f5 (by simpa using h), fun h => hF.out.f6 (by simpa using h), fun h => hF.out.f7 (by simpa using h), fun h => hF.out.f8 (by simpa using h), fun h => hF.out.f9 (by simpa using h), fun h => hF.out.f10 (by simpa using h), fun h => hF.out.f11 (by simpa using h), fun h => hF.out.f12 (by simpa using h), fun h => by simpa using hF.out.f13 (by simpa using h), fun h => by simpa using hF.out.f14 (by simpa using h), fun h h2 => hF.out.fne (by simpa using h) (by simpa using h2), fun h => by simpa using hF.out.f15 (by simpa using h), fun h => by simpa using hF.out.f16 (by simpa using h)⟩
          · intro d a W hI hd hdep
            obtain ⟨x7, x8, x15, x16, x17, x18, x19, x20, x21, x22, x23, x24, x25, x26, x27, rfl, hF⟩ := hI
            have hd3 : d 3 = true := dep_of hdep 3 (by kernel_rfl)
            have hd4 : d 4 = true := dep_of hdep 4 (by kernel_rfl)
            have hB := hF.out.below
            obtain rfl := hF.out.f3 hd3
            obtain rfl := hF.out.f4 hd4
            clear hB hdep hd
            intro K hK
            simp only [Act.put, List.setIfInBounds_toArray, List.set_cons_zero, List.set_cons_succ]
            go_simp
            refine (meet_any pk c _).mono ?_
            rintro e W1 ⟨rfl, hb⟩
            go_simp
            refine hK.out _ _ ⟨x7, x8, x15, x16, x17, (.agg #[.int .u64 (pk.1.toNat : Int), .int .u64 (pk.2.1.toNat : Int), .int .u64 (pk.2.2.1.toNat : Int), .int .u64 (pk.2.2.2.toNat : Int)]), (.agg #[.int .u64 (c.1.toNat : Int), .int .u64 (c.2.1.toNat : Int), .int .u64 (c.2.2.1.toNat : Int), .int .u64 (c.2.2.2.toNat : Int)]), (.agg #[.int .u64 ((meet pk c).1.toNat : Int), .int .u64 ((meet pk c).2.1.toNat : Int), .int .u64 ((meet pk c).2.2.1.toNat : Int), .int .u64 ((meet pk c).2.2.2.toNat : Int)]), x21, x22, x23, x24, x25, x26, x27, by simp only [Act.put, List.setIfInBounds_toArray, List.set_cons_zero, List.set_cons_succ], ?_⟩
            have hB := hF.out.below
            exact ⟨hB.trans (hb.mono hB.size), fun h => hF.out.f0 (by simpa using h), fun h => hF.out.f1 (by simpa using h), fun h => hF.out.f2 (by simpa using h), fun h => hF.out.f3 (by simpa using h), fun h => hF.out.f4 (by simpa using h), fun _ => rfl, fun h => hF.out.f6 (by simpa using h), fun h => hF.out.f7 (by simpa using h), fun h => hF.out.f8 (by simpa using h), fun h => hF.out.f9 (by simpa using h), fun h => hF.out.f10 (by simpa using h), fun h => hF.out.f11 (by simpa using h), fun h => hF.out.f12 (by simpa using h), fun h => (hF.out.f13 (by simpa using h)).imp fun b ⟨z1, z2, z3⟩ => ⟨z1, z2, by simpa using blk_next hb z3⟩, fun h => (hF.out.f14 (by simpa using h)).imp fun b ⟨z1, z2, z3⟩ => ⟨z1, z2, by simpa using blk_next hb z3⟩, fun h h2 => hF.out.fne (by simpa using h) (by simpa using h2), fun h => by simpa using hF.out.f15 (by simpa using h), fun h => by simpa using hF.out.f16 (by simpa using h)⟩
          · intro d a W hI hd hdep
            obtain ⟨x7, x8, x15, x16, x17, x18, x19, x20, x21, x22, x23, x24, x25, x26, x27, rfl, hF⟩ := hI
            have hB := hF.out.below
            clear hB hdep hd
            intro K hK
            simp only [Act.put, List.setIfInBounds_toArray, List.set_cons_zero, List.set_cons_succ]
            go_simp
            refine hK.out _ _ ⟨x7, x8, x15, x16, x17, x18, x19, x20, (.slice (some ⟨g', 0, none⟩) n cap'), x22, x23, x24, x25, x26, x27, by simp only [Act.put, List.setIfInBounds_toArray, List.set_cons_zero, List.set_cons_succ], ?_⟩
            have hB := hF.out.below
            exact ⟨hB, fun h => hF.out.f0 (by simpa using h), fun h => hF.out.f1 (by simpa using h), fun h => hF.out.f2 (by simpa using h), fun h => hF.out.f3 (by simpa using h), fun h => hF.out.f4 (by simpa using h), fun h => hF.out.f5 (by simpa using h), fun _ => rfl, fun h => hF.out.f7 (by simpa using h), fun h => hF.out.f8 (by simpa using h), fun h => hF.out.f9 (by simpa using h), fun h => hF.out.f10 (by simpa using h), fun h => hF.out.f11 (by simpa using h), fun h => hF.out.f12 (by simpa using h), fun h => by simpa using hF.out.f13 (by simpa using h), fun h => by simpa using hF.out.f14 (by simpa using h), fun h h2 => hF.out.fne (by simpa using h) (by simpa using h2), fun h => by simpa using hF.out.f15 (by simpa using h), fun h => by simpa using hF.out.f16 (by simpa using h)⟩
          · intro d a W hI hd hdep
            obtain ⟨x7, x8, x15, x16, x17, x18, x19, x20, x21, x22, x23, x24, x25, x26, x27, rfl, hF⟩ := hI
            have hB := hF.out.below
            clear hB hdep hd
            intro K hK
            simp only [Act.put, List.setIfInBounds_toArray, List.set_cons_zero, List.set_cons_succ]
            go_simp
            refine hK.out _ _ ⟨x7, x8, x15, x16, x17, x18, x19, x20, x21, (.int .i64 (k : Int)), x23, x24, x25, x26, x27, by simp only [Act.put, List.setIfInBounds_toArray, List.set_cons_zero, List.set_cons_succ], ?_⟩
            have hB := hF.out.below
            exact ⟨hB, fun h => hF.out.f0 (by simpa using h), fun h => hF.out.f1 (by simpa using h), fun h => hF.out.f2 (by simpa using h), fun h => hF.out.f3 (by simpa using h), fun h => hF.out.f4 (by simpa using h), fun h => hF.out.f5 (by simpa using h), fun h => hF.out.f6 (by simpa using h), fun _ => rfl, fun h => hF.out.f8 (by simpa using h), fun h => hF.out.f9 (by simpa using h), fun h => hF.out.f10 (by simpa using h), fun h => hF.out.f11 (by simpa using h), fun h => hF.out.f12 (by simpa using h), fun h => by simpa using hF.out.f13 (by simpa using h), fun h => by simpa using hF.out.f14 (by simpa using h), fun h h2 => hF.out.fne (by simpa using h) (by simpa using h2), fun h => by simpa using hF.out.f15 (by simpa using h), fun h => by simpa using hF.out.f16 (by simpa using h)⟩
          · intro d a W hI hd hdep
            obtain ⟨x7, x8, x15, x16, x17, x18, x19, x20, x21, x22, x23, x24, x25, x26, x27, rfl, hF⟩ := hI
            have hd6 : d 6 = true := dep_of hdep 6 (by kernel_rfl)
            have hd7 : d 7 = true := dep_of hdep 7 (by kernel_rfl)
            have hB := hF.out.below
            obtain rfl := hF.out.f6 hd6
            obtain rfl := hF.out.f7 hd7
            clear hB hdep hd
            intro K hK
            simp only [Act.put, List.setIfInBounds_toArray, List.set_cons_zero, List.set_cons_succ]
            go_simp
            refine hK.out _ _ ⟨x7, x8, x15, x16, x17, x18, x19, x20, (.slice (some ⟨g', 0, none⟩) n cap'), (.int .i64 (k : Int)), (.pointer (some ⟨g', k * 4, none⟩)), x24, x25, x26, x27, by simp only [Act.put, List.setIfInBounds_toArray, List.set_cons_zero, List.set_cons_succ], ?_⟩
            have hB := hF.out.below
            exact ⟨hB, fun h => hF.out.f0 (by simpa using h), fun h => hF.out.f1 (by simpa using h), fun h => hF.out.f2 (by simpa using h), fun h => hF.out.f3 (by simpa using h), fun h => hF.out.f4 (by simpa using h), fun h => hF.out.f5 (by simpa using h), fun h => hF.out.f6 (by simpa using h), fun h => hF.out.f7 (by simpa using h), fun _ => rfl, fun h => hF.out.f9 (by simpa using h), fun h => hF.out.f10 (by simpa using h), fun h => hF.out.f11 (by simpa using h), fun h => hF.out.f12 (by simpa using h), fun h => by simpa using hF.out.f13 (by simpa using h), fun h => by simpa using hF.out.f14 (by simpa using h), fun h h2 => hF.out.fne (by simpa using h) (by simpa using h2), fun h => by simpa using hF.out.f15 (by simpa using h), fun h => by simpa using hF.out.f16 (by simpa using h)⟩
          · intro d a W hI hd hdep
            obtain ⟨x7, x8, x15, x16, x17, x18, x19, x20, x21, x22, x23, x24, x25, x26, x27, rfl, hF⟩ := hI
            have hd8 : d 8 = true := dep_of hdep 8 (by kernel_rfl)
            have hB := hF.out.below
            obtain rfl := hF.out.f8 hd8
            have s0 : W.cell? ⟨g', k * 4, none⟩ = some (.int .u64 (pk.1.toNat : Int)) := (hB.cell hg').trans q0
            have s1 : W.cell? ⟨g', k * 4 + 1, none⟩ = some (.int .u64 (pk.2.1.toNat : Int)) := (hB.cell hg').trans q1
            have s2 : W.cell? ⟨g', k * 4 + 2, none⟩ = some (.int .u64 (pk.2.2.1.toNat : Int)) := (hB.cell hg').trans q2
            have s3 : W.cell? ⟨g', k * 4 + 3, none⟩ = some (.int .u64 (pk.2.2.2.toNat : Int)) := (hB.cell hg').trans q3
            clear hB hdep hd
            intro K hK
            simp only [Act.put, List.setIfInBounds_toArray, List.set_cons_zero, List.set_cons_succ]
            go_simp
            refine hK.out _ _ ⟨x7, x8, x15, x16, x17, x18, x19, x20, x21, x22, (.pointer (some ⟨g', k * 4, none⟩)), (.agg #[.int .u64 (pk.1.toNat : Int), .int .u64 (pk.2.1.toNat : Int), .int .u64 (pk.2.2.1.toNat : Int), .int .u64 (pk.2.2.2.toNat : Int)]), x25, x26, x27, by simp only [Act.put, List.setIfInBounds_toArray, List.set_cons_zero, List.set_cons_succ], ?_⟩
            have hB := hF.out.below
            exact ⟨hB, fun h => hF.out.f0 (by simpa using h), fun h => hF.out.f1 (by simpa using h), fun h => hF.out.f2 (by simpa using h), fun h => hF.out.f3 (by simpa using h), fun h => hF.out.f4 (by simpa using h), fun h => hF.out.f5 (by simpa using h), fun h => hF.out.f6 (by simpa using h), fun h => hF.out.f7 (by simpa using h), fun h => hF.out.f8 (by simpa using h), fun _ => rfl, fun h => hF.out.f10 (by simpa using h), fun h => hF.out.f11 (by simpa using h), fun h => hF.out.f12 (by simpa using h), fun h => by simpa using hF.out.f13 (by simpa using h), fun h => by simpa using hF.out.f14 (by simpa using h), fun h h2 => hF.out.fne (by simpa using h) (by simpa using h2), fun h => by simpa using hF.out.f15 (by simpa using h), fun h => by simpa using hF.out.f16 (by simpa using h)⟩
          · intro d a W hI hd hdep
            obtain ⟨x7, x8, x15, x16, x17, x18, x19, x20, x21, x22, x23, x24, x25, x26, x27, rfl, hF⟩ := hI
            have hB := hF.out.below
            have HX : Hid (Bx W w.heap.size c) := bx_of hB HC.out.c3 hlt3
            have s0 := HX.out.1
            have s1 := HX.out.2.1
            have s2 := HX.out.2.2.1
            have s3 := HX.out.2.2.2
            clear hB hdep hd
            intro K hK
            simp only [Act.put, List.setIfInBounds_toArray, List.set_cons_zero, List.set_cons_succ]
            go_simp
            refine hK.out _ _ ⟨x7, x8, x15, x16, x17, x18, x19, x20, x21, x22, x23, x24, (.agg #[.int .u64 (c.1.toNat : Int), .int .u64 (c.2.1.toNat : Int), .int .u64 (c.2.2.1.toNat : Int), .int .u64 (c.2.2.2.toNat : Int)]), x26, x27, by simp only [Act.put, List.setIfInBounds_toArray, List.set_cons_zero, List.set_cons_succ], ?_⟩
            have hB := hF.out.below
            exact ⟨hB, fun h => hF.out.f0 (by simpa using h), fun h => hF.out.f1 (by simpa using h), fun h => hF.out.f2 (by simpa using h), fun h => hF.out.f3 (by simpa using h), fun h => hF.out.f4 (by simpa using h), fun h => hF.out.f5 (by simpa using h), fun h => hF.out.f6 (by simpa using h), fun h => hF.out.f7 (by simpa using h), fun h => hF.out.f8 (by simpa using h), fun h => hF.out.f9 (by simpa using h), fun _ => rfl, fun h => hF.out.f11 (by simpa using h), fun h => hF.out.f12 (by simpa using h), fun h => by simpa using hF.out.f13 (by simpa using h), fun h => by simpa using hF.out.f14 (by simpa using h), fun h h2 => hF.out.fne (by simpa using h) (by simpa using h2), fun h => by simpa using hF.out.f15 (by simpa using h), fun h => by simpa using hF.out.f16 (by simpa using h)⟩
          · intro d a W hI hd hdep
            obtain ⟨x7, x8, x15, x16, x17, x18, x19, x20, x21, x22, x23, x24, x25, x26, x27, rfl, hF⟩ := hI
            have hd10 : d 10 = true := dep_of hdep 10 (by kernel_rfl)
            have hB := hF.out.below
            obtain rfl := hF.out.f10 hd10
            clear hB hdep hd
            intro K hK
            simp only [Act.put, List.setIfInBounds_toArray, List.set_cons_zero, List.set_cons_succ]
            go_simp
            refine (not_any c _).mono ?_
            rintro e W1 ⟨rfl, hb⟩
            go_simp
            refine hK.out _ _ ⟨x7, x8, x15, x16, x17, x18, x19, x20, x21, x22, x23, x24, (.agg #[.int .u64 (c.1.toNat : Int), .int .u64 (c.2.1.toNat : Int), .int .u64 (c.2.2.1.toNat : Int), .int .u64 (c.2.2.2.toNat : Int)]), (.agg #[.int .u64 ((neg c).1.toNat : Int), .int .u64 ((neg c).2.1.toNat : Int), .int .u64 ((neg c).2.2.1.toNat : Int), .int .u64 ((neg c).2.2.2.toNat : Int)]), x27, by simp only [Act.put, List.setIfInBounds_toArray, List.set_cons_zero, List.set_cons_succ], ?_⟩
            have hB := hF.out.below
            exact ⟨hB.trans (hb.mono hB.size), fun h => hF.out.f0 (by simpa using h), fun h => hF.out.f1 (by simpa using h), fun h => hF.out.f2 (by simpa using h), fun h => hF.out.f3 (by simpa using h), fun h => hF.out.f4 (by simpa using h), fun h => hF.out.f5 (by simpa using h), fun h => hF.out.f6 (by simpa using h), fun h => hF.out.f7 (by simpa using h), fun h => hF.out.f8 (by simpa using h), fun h => hF.out.f9 (by simpa using h), fun h => hF.out.f10 (by simpa using h), fun _ => rfl, fun h => hF.out.f12 (by simpa using h), fun h => (hF.out.f13 (by simpa using h)).imp fun b ⟨z1, z2, z3⟩ => ⟨z1, z2, by simpa using blk_next hb z3⟩, fun h => (hF.out.f14 (by simpa using h)).imp fun b ⟨z1, z2, z3⟩ => ⟨z1, z2, by simpa using blk_next hb z3⟩, fun h h2 => hF.out.fne (by simpa using h) (by simpa using h2), fun h => by simpa using hF.out.f15 (by simpa using h), fun h => by simpa using hF.out.f16 (by simpa using h)⟩
          · intro d a W hI hd hdep
            obtain ⟨x7, x8, x15, x16, x17, x18, x19, x20, x21, x22, x23, x24, x25, x26, x27, rfl, hF⟩ := hI
            have hd9 : d 9 = true := dep_of hdep 9 (by kernel_rfl)
            have hd11 : d 11 = true := dep_of hdep 11 (by kernel_rfl)
            have hB := hF.out.below
            obtain rfl := hF.out.f9 hd9
            obtain rfl := hF.out.f11 hd11
            clear hB hdep hd
            intro K hK
            simp only [Act.put, List.setIfInBounds_toArray, List.set_cons_zero, List.set_cons_succ]
            go_simp
            refine (meet_any pk (neg c) _).mono ?_
            rintro e W1 ⟨rfl, hb⟩
            go_simp
            refine hK.out _ _ ⟨x7, x8, x15, x16, x17, x18, x19, x20, x21, x22, x23, (.agg #[.int .u64 (pk.1.toNat : Int), .int .u64 (pk.2.1.toNat : Int), .int .u64 (pk.2.2.1.toNat : Int), .int .u64 (pk.2.2.2.toNat : Int)]), x25, (.agg #[.int .u64 ((neg c).1.toNat : Int), .int .u64 ((neg c).2.1.toNat : Int), .int .u64 ((neg c).2.2.1.toNat : Int), .int .u64 ((neg c).2.2.2.toNat : Int)]), (.agg #[.int .u64 ((meet pk (neg c)).1.toNat : Int), .int .u64 ((meet pk (neg c)).2.1.toNat : Int), .int .u64 ((meet pk (neg c)).2.2.1.toNat : Int), .int .u64 ((meet pk (neg c)).2.2.2.toNat : Int)]), by simp only [Act.put, List.setIfInBounds_toArray, List.set_cons_zero, List.set_cons_succ], ?_⟩
            have hB := hF.out.below
            exact ⟨hB.trans (hb.mono hB.size), fun h => hF.out.f0 (by simpa using h), fun h => hF.out.f1 (by simpa using h), fun h => hF.out.f2 (by simpa using h), fun h => hF.out.f3 (by simpa using h), fun h => hF.out.f4 (by simpa using h), fun h => hF.out.f5 (by simpa using h), fun h => hF.out.f6 (by simpa using h), fun h => hF.out.f7 (by simpa using h), fun h => hF.out.f8 (by simpa using h), fun h => hF.out.f9 (by simpa using h), fun h => hF.out.f10 (by simpa using h), fun h => hF.out.f11 (by simpa using h), fun _ => rfl, fun h => (hF.out.f13 (by simpa using h)).imp fun b ⟨z1, z2, z3⟩ => ⟨z1, z2, by simpa using blk_next hb z3⟩, fun h => (hF.out.f14 (by simpa using h)).imp fun b ⟨z1, z2, z3⟩ => ⟨z1, z2, by simpa using blk_next hb z3⟩, fun h h2 => hF.out.fne (by simpa using h) (by simpa using h2), fun h => by simpa using hF.out.f15 (by simpa using h), fun h => by simpa using hF.out.f16 (by simpa using h)⟩
          · intro d a W hI hd hdep
            obtain ⟨x7, x8, x15, x16, x17, x18, x19, x20, x21, x22, x23, x24, x25, x26, x27, rfl, hF⟩ := hI
            have hB := hF.out.below
            clear hB hdep
            intro K hK
            simp only [Act.put, List.setIfInBounds_toArray, List.set_cons_zero, List.set_cons_succ]
            go_simp
            refine hK.out _ _ ⟨.pointer (some ⟨W.heap.size, 0, none⟩), x8, x15, x16, x17, x18, x19, x20, x21, x22, x23, x24, x25, x26, x27, by simp only [Act.put, List.setIfInBounds_toArray, List.set_cons_zero, List.set_cons_succ], ?_⟩
            have hB := hF.out.below
            have h15 : d 15 = false := by
              cases hx : d 15 with
              | false => rfl
              | true => have := (hF.out.f15 hx).1; rw [hd] at this; cases this
            have h16 : d 16 = false := by
              cases hx : d 16 with
              | false => rfl
              | true => have := (hF.out.f16 hx).1; rw [hd] at this; cases this
            have hb : Below W.heap.size W (W.alloc (bk empty)) := (Below.refl _ W).alloc (Nat.le_refl _) _
            exact ⟨hB.trans (hb.mono hB.size), fun h => hF.out.f0 (by simpa using h), fun h => hF.out.f1 (by simpa using h), fun h => hF.out.f2 (by simpa using h), fun h => hF.out.f3 (by simpa using h), fun h => hF.out.f4 (by simpa using h), fun h => hF.out.f5 (by simpa using h), fun h => hF.out.f6 (by simpa using h), fun h => hF.out.f7 (by simpa using h), fun h => hF.out.f8 (by simpa using h), fun h => hF.out.f9 (by simpa using h), fun h => hF.out.f10 (by simpa using h), fun h => hF.out.f11 (by simpa using h), fun h => hF.out.f12 (by simpa using h), fun _ => ⟨W.heap.size, rfl, hB.size, (block_new W (bk empty)).trans (by simp [h15])⟩, fun h => (hF.out.f14 (by simpa using h)).imp fun b ⟨z1, z2, z3⟩ => ⟨z1, z2, blk_next hb z3⟩, fun _ h2 e => by obtain ⟨b, z1, _, z3⟩ := hF.out.f14 (by simpa using h2); rw [z1] at e; simp only [Value.pointer.injEq, Option.some.injEq, Addr.mk.injEq] at e; rw [← e.1] at z3; simp at z3, fun h => no_way (h15.symm.trans (by simpa using h)), fun h => no_way (h16.symm.trans (by simpa using h))⟩
          · intro d a W hI hd hdep
            obtain ⟨x7, x8, x15, x16, x17, x18, x19, x20, x21, x22, x23, x24, x25, x26, x27, rfl, hF⟩ := hI
            have hB := hF.out.below
            clear hB hdep
            intro K hK
            simp only [Act.put, List.setIfInBounds_toArray, List.set_cons_zero, List.set_cons_succ]
            go_simp
            refine hK.out _ _ ⟨x7, .pointer (some ⟨W.heap.size, 0, none⟩), x15, x16, x17, x18, x19, x20, x21, x22, x23, x24, x25, x26, x27, by simp only [Act.put, List.setIfInBounds_toArray, List.set_cons_zero, List.set_cons_succ], ?_⟩
            have hB := hF.out.below
            have h15 : d 15 = false := by
              cases hx : d 15 with
              | false => rfl
              | true => have := (hF.out.f15 hx).2; rw [hd] at this; cases this
            have h16 : d 16 = false := by
              cases hx : d 16 with
              | false => rfl
              | true => have := (hF.out.f16 hx).2; rw [hd] at this; cases this
            have hb : Below W.heap.size W (W.alloc (bk empty)) := (Below.refl _ W).alloc (Nat.le_refl _) _
            exact ⟨hB.trans (hb.mono hB.size), fun h => hF.out.f0 (by simpa using h), fun h => hF.out.f1 (by simpa using h), fun h => hF.out.f2 (by simpa using h), fun h => hF.out.f3 (by simpa using h), fun h => hF.out.f4 (by simpa using h), fun h => hF.out.f5 (by simpa using h), fun h => hF.out.f6 (by simpa using h), fun h => hF.out.f7 (by simpa using h), fun h => hF.out.f8 (by simpa using h), fun h => hF.out.f9 (by simpa using h), fun h => hF.out.f10 (by simpa using h), fun h => hF.out.f11 (by simpa using h), fun h => hF.out.f12 (by simpa using h), fun h => (hF.out.f13 (by simpa using h)).imp fun b ⟨z1, z2, z3⟩ => ⟨z1, z2, blk_next hb z3⟩, fun _ => ⟨W.heap.size, rfl, hB.size, (block_new W (bk empty)).trans (by simp [h16])⟩, fun h2 _ e => by obtain ⟨b, z1, _, z3⟩ := hF.out.f13 (by simpa using h2); rw [z1] at e; simp only [Value.pointer.injEq, Option.some.injEq, Addr.mk.injEq] at e; rw [e.1] at z3; simp at z3, fun h => no_way (h15.symm.trans (by simpa using h)), fun h => no_way (h16.symm.trans (by simpa using h))⟩
          · intro d a W hI hd hdep
            obtain ⟨x7, x8, x15, x16, x17, x18, x19, x20, x21, x22, x23, x24, x25, x26, x27, rfl, hF⟩ := hI
            have hd13 : d 13 = true := dep_of hdep 13 (by kernel_rfl)
            have hd5 : d 5 = true := dep_of hdep 5 (by kernel_rfl)
            have hd14 : d 14 = true := dep_of hdep 14 (by kernel_rfl)
            have hd12 : d 12 = true := dep_of hdep 12 (by kernel_rfl)
            have hB := hF.out.below
            obtain rfl := hF.out.f5 hd5
            obtain rfl := hF.out.f12 hd12
            have hbb := (hF.out.f13 hd13).choose_spec
            generalize (hF.out.f13 hd13).choose = b at hbb
            have e1 := hbb.1
            subst e1
            have hb2 := hbb.2.1
            have hb3 := hbb.2.2
            rw [hd] at hb3
            have hbb' := (hF.out.f14 hd14).choose_spec
            generalize (hF.out.f14 hd14).choose = b' at hbb'
            have e2 := hbb'.1
            subst e2
            have hb5 := hbb'.2.1
            have hb6 := hbb'.2.2
            have hne : b' ≠ b := fun e => hF.out.fne hd13 hd14 (by rw [e])
            have HH : Hid (wr.heap.size ≤ b ∧ W.heap[b]? = some (bk empty) ∧ wr.heap.size ≤ b' ∧ W.heap[b']? = some (bk (if d 16 then meet pk (neg c) else empty)) ∧ b' ≠ b) := ⟨hb2, hb3, hb5, hb6, hne⟩
            have HZ := block4 hb3
            have z0 := HZ.1.1
            have z1 := HZ.1.2.1
            have z2 := HZ.1.2.2.1
            have z3 := HZ.1.2.2.2
            have y0 := HZ.2.1
            have y1 := HZ.2.2.1
            have y2 := HZ.2.2.2.1
            have y3 := HZ.2.2.2.2
            clear HZ hbb hbb' hb2 hb3 hb5 hb6 hne hB hdep
            intro K hK
            simp only [Act.put, List.setIfInBounds_toArray, List.set_cons_zero, List.set_cons_succ]
            go_simp
            refine hK.out _ _ ⟨.pointer (some ⟨b, 0, none⟩), (.pointer (some ⟨b', 0, none⟩)), x15, x16, x17, x18, x19, (.agg #[.int .u64 ((meet pk c).1.toNat : Int), .int .u64 ((meet pk c).2.1.toNat : Int), .int .u64 ((meet pk c).2.2.1.toNat : Int), .int .u64 ((meet pk c).2.2.2.toNat : Int)]), x21, x22, x23, x24, x25, x26, (.agg #[.int .u64 ((meet pk (neg c)).1.toNat : Int), .int .u64 ((meet pk (neg c)).2.1.toNat : Int), .int .u64 ((meet pk (neg c)).2.2.1.toNat : Int), .int .u64 ((meet pk (neg c)).2.2.2.toNat : Int)]), by simp only [Act.put, List.setIfInBounds_toArray, List.set_cons_zero, List.set_cons_succ], ?_⟩
            have hB := hF.out.below
            have hb2 := HH.out.1
            have hb3 := HH.out.2.1
            have hb5 := HH.out.2.2.1
            have hb6 := HH.out.2.2.2.1
            have hne := HH.out.2.2.2.2
            exact ⟨be4 hB hb2 _ _ _ _, fun h => hF.out.f0 (by simpa using h), fun h => hF.out.f1 (by simpa using h), fun h => hF.out.f2 (by simpa using h), fun h => hF.out.f3 (by simpa using h), fun h => hF.out.f4 (by simpa using h), fun h => hF.out.f5 (by simpa using h), fun h => hF.out.f6 (by simpa using h), fun h => hF.out.f7 (by simpa using h), fun h => hF.out.f8 (by simpa using h), fun h => hF.out.f9 (by simpa using h), fun h => hF.out.f10 (by simpa using h), fun h => hF.out.f11 (by simpa using h), fun h => hF.out.f12 (by simpa using h), fun _ => ⟨b, rfl, hb2, by simpa using st4 hb3 (meet pk c)⟩, fun h => ⟨b', rfl, hb5, by simpa using (ot4 hne _ _ _ _).trans hb6⟩, fun h h2 => hF.out.fne (by simpa using h) (by simpa using h2), fun _ => by simp [hd13, hd14], fun h => by simpa using hF.out.f16 (by simpa using h)⟩
          · intro d a W hI hd hdep
            obtain ⟨x7, x8, x15, x16, x17, x18, x19, x20, x21, x22, x23, x24, x25, x26, x27, rfl, hF⟩ := hI
            have hd14 : d 14 = true := dep_of hdep 14 (by kernel_rfl)
            have hd12 : d 12 = true := dep_of hdep 12 (by kernel_rfl)
            have hd13 : d 13 = true := dep_of hdep 13 (by kernel_rfl)
            have hd15 : d 15 = true := dep_of hdep 15 (by kernel_rfl)
            have hB := hF.out.below
            obtain rfl := hF.out.f12 hd12
            have hbb := (hF.out.f14 hd14).choose_spec
            generalize (hF.out.f14 hd14).choose = b at hbb
            have e1 := hbb.1
            subst e1
            have hb2 := hbb.2.1
            have hb3 := hbb.2.2
            rw [hd] at hb3
            have hbb' := (hF.out.f13 hd13).choose_spec
            generalize (hF.out.f13 hd13).choose = b' at hbb'
            have e2 := hbb'.1
            subst e2
            have hb5 := hbb'.2.1
            have hb6 := hbb'.2.2
            have hne : b' ≠ b := fun e => hF.out.fne hd13 hd14 (by rw [e])
            have HH : Hid (wr.heap.size ≤ b ∧ W.heap[b]? = some (bk empty) ∧ wr.heap.size ≤ b' ∧ W.heap[b']? = some (bk (if d 15 then meet pk c else empty)) ∧ b' ≠ b) := ⟨hb2, hb3, hb5, hb6, hne⟩
            have HZ := block4 hb3
            have z0 := HZ.1.1
            have z1 := HZ.1.2.1
            have z2 := HZ.1.2.2.1
            have z3 := HZ.1.2.2.2
            have y0 := HZ.2.1
            have y1 := HZ.2.2.1
            have y2 := HZ.2.2.2.1
            have y3 := HZ.2.2.2.2
            clear HZ hbb hbb' hb2 hb3 hb5 hb6 hne hB hdep
            intro K hK
            simp only [Act.put, List.setIfInBounds_toArray, List.set_cons_zero, List.set_cons_succ]
            go_simp
            refine hK.out _ _ ⟨(.pointer (some ⟨b', 0, none⟩)), .pointer (some ⟨b, 0, none⟩), x15, x16, x17, x18, x19, x20, x21, x22, x23, x24, x25, x26, (.agg #[.int .u64 ((meet pk (neg c)).1.toNat : Int), .int .u64 ((meet pk (neg c)).2.1.toNat : Int), .int .u64 ((meet pk (neg c)).2.2.1.toNat : Int), .int .u64 ((meet pk (neg c)).2.2.2.toNat : Int)]), by simp only [Act.put, List.setIfInBounds_toArray, List.set_cons_zero, List.set_cons_succ], ?_⟩
            have hB := hF.out.below
            have hb2 := HH.out.1
            have hb3 := HH.out.2.1
            have hb5 := HH.out.2.2.1
            have hb6 := HH.out.2.2.2.1
            have hne := HH.out.2.2.2.2
            exact ⟨be4 hB hb2 _ _ _ _, fun h => hF.out.f0 (by simpa using h), fun h => hF.out.f1 (by simpa using h), fun h => hF.out.f2 (by simpa using h), fun h => hF.out.f3 (by simpa using h), fun h => hF.out.f4 (by simpa using h), fun h => hF.out.f5 (by simpa using h), fun h => hF.out.f6 (by simpa using h), fun h => hF.out.f7 (by simpa using h), fun h => hF.out.f8 (by simpa using h), fun h => hF.out.f9 (by simpa using h), fun h => hF.out.f10 (by simpa using h), fun h => hF.out.f11 (by simpa using h), fun h => hF.out.f12 (by simpa using h), fun h => ⟨b', rfl, hb5, by simpa using (ot4 hne _ _ _ _).trans hb6⟩, fun _ => ⟨b, rfl, hb2, by simpa using st4 hb3 (meet pk (neg c))⟩, fun h h2 => hF.out.fne (by simpa using h) (by simpa using h2), fun h => by simpa using hF.out.f15 (by simpa using h), fun _ => by simp [hd13, hd14]⟩
        · intro d a W hI hall
          obtain ⟨x7, x8, x15, x16, x17, x18, x19, x20, x21, x22, x23, x24, x25, x26, x27, rfl, hF⟩ := hI
          have hB := hF.out.below
          simp only [List.length_cons, List.length_nil] at hall
          obtain rfl := hF.out.f0 (hall 0 (by omega))
          obtain rfl := hF.out.f1 (hall 1 (by omega))
          obtain rfl := hF.out.f2 (hall 2 (by omega))
          obtain rfl := hF.out.f3 (hall 3 (by omega))
          obtain rfl := hF.out.f4 (hall 4 (by omega))
          obtain rfl := hF.out.f5 (hall 5 (by omega))
          obtain rfl := hF.out.f6 (hall 6 (by omega))
          obtain rfl := hF.out.f7 (hall 7 (by omega))
          obtain rfl := hF.out.f8 (hall 8 (by omega))
          obtain rfl := hF.out.f9 (hall 9 (by omega))
          obtain rfl := hF.out.f10 (hall 10 (by omega))
          obtain rfl := hF.out.f11 (hall 11 (by omega))
          obtain rfl := hF.out.f12 (hall 12 (by omega))
          obtain ⟨b7, rfl, g1, g2⟩ := hF.out.f13 (hall 13 (by omega))
          obtain ⟨b8, rfl, g3, g4⟩ := hF.out.f14 (hall 14 (by omega))
          rw [hall 15 (by omega)] at g2
          rw [hall 16 (by omega)] at g4
          have HF : Hid (Below wr.heap.size wr W ∧ wr.heap.size ≤ b7 ∧ wr.heap.size ≤ b8 ∧ W.heap[b7]? = some (bk (meet pk c)) ∧ W.heap[b8]? = some (bk (meet pk (neg c)))) := ⟨hB, g1, g3, g2, g4⟩
          clear hF hB g1 g2 g3 g4 hall
          simp only [Act.put, List.setIfInBounds_toArray, List.set_cons_zero, List.set_cons_succ]
          go_wp2_with fail
          go_meet
          case rel => exact ⟨b7, b8, rfl, rfl, HF⟩
      case rest =>
        obtain ⟨b7, b8, rfl, rfl, HX⟩ := hcut
        have HD := HC.out.next HX.out.1
        have p0 : wc.cell? ⟨g', k * 4, none⟩ = some (.int .u64 (pk.1.toNat : Int)) := (HX.out.1.cell hg').trans q0
        have p1 : wc.cell? ⟨g', k * 4 + 1, none⟩ = some (.int .u64 (pk.2.1.toNat : Int)) := (HX.out.1.cell hg').trans q1
        have p2 : wc.cell? ⟨g', k * 4 + 2, none⟩ = some (.int .u64 (pk.2.2.1.toNat : Int)) := (HX.out.1.cell hg').trans q2
        have p3 : wc.cell? ⟨g', k * 4 + 3, none⟩ = some (.int .u64 (pk.2.2.2.toNat : Int)) := (HX.out.1.cell hg').trans q3
        have HFR : Hid (∀ o, wc.frozen? ⟨g', o, none⟩ = false) := own_free HD.own
        have y0 := HFR.out (k * 4)
        have y1 := HFR.out (k * 4 + 1)
        have y2 := HFR.out (k * 4 + 2)
        have y3 := HFR.out (k * 4 + 3)
        obtain ⟨⟨s0, s1, s2, s3⟩, _⟩ := block4 HX.out.2.2.2.1
        obtain ⟨⟨t0, t1, t2, t3⟩, _⟩ := block4 HX.out.2.2.2.2
        have z0 : wc.cell? ⟨w.heap.size + 1, 0, none⟩ = some (.int .u64 0) := HD.z5.1
        have z1 : wc.cell? ⟨w.heap.size + 1, 1, none⟩ = some (.int .u64 0) := HD.z5.2.1
        have z2 : wc.cell? ⟨w.heap.size + 1, 2, none⟩ = some (.int .u64 0) := HD.z5.2.2.1
        have z3 : wc.cell? ⟨w.heap.size + 1, 3, none⟩ = some (.int .u64 0) := HD.z5.2.2.2
        have hgd := guard24
        have hb8 : wr.heap.size ≤ b8 := HX.out.2.2.1
        have hne8 : ¬ b8 = g' := by omega
        have hne8' : ¬ g' = b8 := by omega
        have HDD : Hid (CR base ps c g w k g' cap' n wc) := HD
        clear q0 q1 q2 q3 HD
        cases hsp : splits pk c with
        | false =>
          have hE : Hid (cutTo ps c (k + 1) = cutTo ps c k) := cutTo_no ps c k hlt (by rw [HP.out]; exact hsp)
          by_cases hm : meet pk c = empty
          · have hq : ∀ W, (Op.equalIn 10000 24 (.agg #[.int .u64 ((meet pk c).1.toNat : Int), .int .u64 ((meet pk c).2.1.toNat : Int), .int .u64 ((meet pk c).2.2.1.toNat : Int), .int .u64 ((meet pk c).2.2.2.toNat : Int)]) (.agg #[.int .u64 0, .int .u64 0, .int .u64 0, .int .u64 0])).run Try.prog W = .ok true W := fun W => by rw [eqIn_zero]; simp [hm]
            clear hm
            go_wp2_with fail
            go_roundw
            case rel => exact ⟨k + 1, g', cap', n, by omega, by go_num, rfl, HDD.out.same hE.out⟩
            case measure => simp [intOf]; omega
          · have hm2 : meet pk (neg c) = empty := by
              by_cases h2 : meet pk (neg c) = empty
              · exact h2
              · simp [splits, hm, h2] at hsp
            have hq : ∀ W, (Op.equalIn 10000 24 (.agg #[.int .u64 ((meet pk c).1.toNat : Int), .int .u64 ((meet pk c).2.1.toNat : Int), .int .u64 ((meet pk c).2.2.1.toNat : Int), .int .u64 ((meet pk c).2.2.2.toNat : Int)]) (.agg #[.int .u64 0, .int .u64 0, .int .u64 0, .int .u64 0])).run Try.prog W = .ok false W := fun W => by rw [eqIn_zero]; simp [hm]
            have hq2 : ∀ W, (Op.equalIn 10000 24 (.agg #[.int .u64 ((meet pk (neg c)).1.toNat : Int), .int .u64 ((meet pk (neg c)).2.1.toNat : Int), .int .u64 ((meet pk (neg c)).2.2.1.toNat : Int), .int .u64 ((meet pk (neg c)).2.2.2.toNat : Int)]) (.agg #[.int .u64 0, .int .u64 0, .int .u64 0, .int .u64 0])).run Try.prog W = .ok true W := fun W => by rw [eqIn_zero]; simp [hm2]
            clear hm hm2
            go_wp2_with fail
            go_roundw
            case rel => exact ⟨k + 1, g', cap', n, by omega, by go_num, rfl, HDD.out.same hE.out⟩
            case measure => simp [intOf]; omega
        | true =>
          have hE : Hid (cutTo ps c (k + 1) = (cutTo ps c k).set k (meet pk c) ++ [meet pk (neg c)]) := by
            show cutTo ps c (k + 1) = _
            rw [cutTo_yes ps c k hlt (by rw [HP.out]; exact hsp), HP.out]
          have hq : ∀ W, (Op.equalIn 10000 24 (.agg #[.int .u64 ((meet pk c).1.toNat : Int), .int .u64 ((meet pk c).2.1.toNat : Int), .int .u64 ((meet pk c).2.2.1.toNat : Int), .int .u64 ((meet pk c).2.2.2.toNat : Int)]) (.agg #[.int .u64 0, .int .u64 0, .int .u64 0, .int .u64 0])).run Try.prog W = .ok false W := fun W => by
            simp only [splits, decide_eq_true_eq] at hsp
            rw [eqIn_zero]; simp [hsp.1]
          have hq2 : ∀ W, (Op.equalIn 10000 24 (.agg #[.int .u64 ((meet pk (neg c)).1.toNat : Int), .int .u64 ((meet pk (neg c)).2.1.toNat : Int), .int .u64 ((meet pk (neg c)).2.2.1.toNat : Int), .int .u64 ((meet pk (neg c)).2.2.2.toNat : Int)]) (.agg #[.int .u64 0, .int .u64 0, .int .u64 0, .int .u64 0])).run Try.prog W = .ok false W := fun W => by
            simp only [splits, decide_eq_true_eq] at hsp
            rw [eqIn_zero]; simp [hsp.2]
          clear hsp
          have hlen : n = (cutTo ps c k).length := HDD.out.len
          have HO7 : Hid (((((wc.setCell ⟨g', k * 4, none⟩ (.int .u64 ((meet pk c).1.toNat : Int))).setCell ⟨g', k * 4 + 1, none⟩ (.int .u64 ((meet pk c).2.1.toNat : Int))).setCell ⟨g', k * 4 + 2, none⟩ (.int .u64 ((meet pk c).2.2.1.toNat : Int))).setCell ⟨g', k * 4 + 3, none⟩ (.int .u64 ((meet pk c).2.2.2.toNat : Int))).ownsRow base 24 4 (.slice (some ⟨g', 0, none⟩) n cap') n (cs ((cutTo ps c k).set k (meet pk c)))) := own_set HDD.out.own k (by omega) (meet pk c)
          have HG7 : Hid (wc.grownBy ((((wc.setCell ⟨g', k * 4, none⟩ (.int .u64 ((meet pk c).1.toNat : Int))).setCell ⟨g', k * 4 + 1, none⟩ (.int .u64 ((meet pk c).2.1.toNat : Int))).setCell ⟨g', k * 4 + 2, none⟩ (.int .u64 ((meet pk c).2.2.1.toNat : Int))).setCell ⟨g', k * 4 + 3, none⟩ (.int .u64 ((meet pk c).2.2.2.toNat : Int))) (some g')) := grown_set4 _ _ _ _ _ _ _ _ _ _
          have hbw : base ≤ wc.heap.size := by have := HDD.out.gr.size; omega
          clear hlen
          go_upto_region 8 with fail
          have E0 : Hid (((((wc.setCell ⟨g', k * 4, none⟩ (.int .u64 ((meet pk c).1.toNat : Int))).setCell ⟨g', k * 4 + 1, none⟩ (.int .u64 ((meet pk c).2.1.toNat : Int))).setCell ⟨g', k * 4 + 2, none⟩ (.int .u64 ((meet pk c).2.2.1.toNat : Int))).setCell ⟨g', k * 4 + 3, none⟩ (.int .u64 ((meet pk c).2.2.2.toNat : Int))).heap.size = wc.heap.size) := by show _ = _; simp [World.setCell]
          have v0 := (HG7.out.cell_far ⟨b8, 0, none⟩ (World.block_lt_of_cell? wc ⟨b8, 0, none⟩ t0) (by simpa using hne8)).trans t0
          have v1 := (HG7.out.cell_far ⟨b8, 1, none⟩ (World.block_lt_of_cell? wc ⟨b8, 0, none⟩ t0) (by simpa using hne8)).trans t1
          have v2 := (HG7.out.cell_far ⟨b8, 2, none⟩ (World.block_lt_of_cell? wc ⟨b8, 0, none⟩ t0) (by simpa using hne8)).trans t2
          have v3 := (HG7.out.cell_far ⟨b8, 3, none⟩ (World.block_lt_of_cell? wc ⟨b8, 0, none⟩ t0) (by simpa using hne8)).trans t3
          generalize ((((wc.setCell ⟨g', k * 4, none⟩ (.int .u64 ((meet pk c).1.toNat : Int))).setCell ⟨g', k * 4 + 1, none⟩ (.int .u64 ((meet pk c).2.1.toNat : Int))).setCell ⟨g', k * 4 + 2, none⟩ (.int .u64 ((meet pk c).2.2.1.toNat : Int))).setCell ⟨g', k * 4 + 3, none⟩ (.int .u64 ((meet pk c).2.2.2.toNat : Int))) = W7 at HO7 HG7 E0 v0 v1 v2 v3 ⊢
          have hbw7 : base ≤ W7.heap.size := by have := E0.out; omega
          clear p0 p1 p2 p3 y0 y1 y2 y3 s0 s1 s2 s3 t0 t1 t2 t3 z0 z1 z2 z3 hq hq2
          go_wp2_with (first
            | (at_builtin; refine wpList_append_lies _ rfl _ _ 36 rfl base 24 i0 (.agg #[.int .u64 0, .int .u64 0, .int .u64 0, .int .u64 0]) 4 32 Try.underlying36 hi hz0 hz1 hz2 rfl (by decide) _ _ _ rfl (HO7.out.alloc _) ⟨W7.heap.size, 0, none⟩ 1 1 [.int .u64 ((meet pk (neg c)).1.toNat : Int), .int .u64 ((meet pk (neg c)).2.1.toNat : Int), .int .u64 ((meet pk (neg c)).2.2.1.toNat : Int), .int .u64 ((meet pk (neg c)).2.2.2.toNat : Int)] rfl rfl (World.news_of_block (t := 24) (fr := (0, 0)) (heap_alloc_new W7 _)) (by simp [Value.oneCell']) (by omega) (by unfold maxLen; omega) (by omega) (by simp; omega) (W7.heap.size + 1) (by simp) ?_; intro gg cc w2 hown' hgrow hat hlt2)
            | go_in)
          have hn3 : w.heap.size ≠ g' := by have := HDD.out.far; have := own_lt HO.out; omega
          have hn5 : w.heap.size + 1 ≠ g' := by have := HDD.out.far; have := own_lt HO.out; omega
          have hgrow' := hgrow
          change World.grownBy _ _ (some g') at hgrow'
          go_roundw
          case rel =>
            refine ⟨k + 1, gg, cc, n + 1, by omega, by go_num, rfl, ⟨?_, ?_, ?_, ?_, ?_, ?_, ?_⟩⟩
            · rw [hE.out, List.length_append, List.length_set, HDD.out.len]; rfl
            · rw [hE.out, cs_append]; exact hown'
            · exact ((HDD.out.c3.grown HG7.out (fun e => hn3 (Option.some.inj e))).alloc _).grown hgrow' (fun e => hn3 (Option.some.inj e))
            · exact ((HDD.out.z5.grown HG7.out (fun e => hn5 (Option.some.inj e))).alloc _).grown hgrow' (fun e => hn5 (Option.some.inj e))
            · refine ((HDD.out.gr.andThen HG7.out ?_).trans (World.grownBy_alloc W7 _ _)).andThen hgrow' ?_
              · intro j hj; have hj := Option.some.inj hj; rcases HDD.out.far with h | h
                · exact Or.inr (by rw [← hj, h])
                · exact Or.inl (by omega)
              · intro j hj; have hj := Option.some.inj hj; rcases HDD.out.far with h | h
                · exact Or.inr (by rw [← hj, h])
                · exact Or.inl (by omega)
            · rcases hat with h | h
              · cases h; exact HDD.out.far
              · right; have := HDD.out.sz; have := E0.out; omega
            · have := HDD.out.sz; have := E0.out; have := hgrow.size; simp at this; omega
          case measure => simp [intOf]; omega
    · have e : k = ps.length := by omega
      subst e
      go_wp2_with fail
      go_ret
      refine ⟨g', cap', ?_, ?_, HC.out.gr, ?_⟩
      · rw [← cutTo_all, ← HC.out.len]; rfl
      · have h := HC.out.own
        rw [HC.out.len, cutTo_all] at h
        exact h
      · rcases HC.out.far with h | h
        · exact Or.inl h
        · exact Or.inr (by omega)
end Go.Proofs.Ytgoejdakmbpcmaa
