/-
  The contract of plan.layRex: the steps of a right tree, as the mathematics lays them.
-/
import Derived.Test.YtgdaegmmapljgaaLays
import Derived.Deep.RegionHeld3
namespace Go.Proofs.Ytgdaegmmapljgaa
open Go.RowKit
open Cls Rex

theorem Pl.keep {B pp : Nat} {f e : Value} {ps : List St} {W W' : World} (h : Pl B pp f e ps W) (hb : Below W.heap.size W W') : Pl B pp f e ps W' := by
  obtain ⟨sv, qs, h1, h2, h3, h4⟩ := h
  refine ⟨sv, qs, blk_next hb h1, ?_, h3, fun i k1 k2 => ⟨(h4 i k1 k2).1, (h4 i k1 k2).2.keep ((Keep3.refl W).below hb)⟩⟩
  refine ⟨h2.1, h2.2.imp id ?_⟩
  rintro ⟨g, cap, cur, rfl, k1, k2, k3⟩
  exact ⟨g, cap, cur, rfl, k1, blk_next hb k2, k3⟩
theorem keep_cell {W W' : World} {b o : Nat} {v : Value} {z : Array Value} {t : TypeId} (hz : W.heap[b]? = some (.cells z t)) (h : W.cell? ⟨b, o, none⟩ = some v) (h1 : t ≠ 94) (h2 : t ≠ 97) (hk : Keep3 W W') : W'.cell? ⟨b, o, none⟩ = some v := by
  have := hk b z t h1 h2 hz
  simp only [World.cell?, this]
  simp only [World.cell?, hz] at h
  exact h
/-- The contract, for a tree that is x. -/
def LR (t : T) (x : E) : Prop := ∀ (v : Value) (ps : List St) (nx B pp : Nat) (f e : Value) (w : World), Rx w B v t → Pl B pp f e ps w → B ≤ pp → B ≤ w.heap.size → ps.length + x.nodes ≤ 200 →
    Calls Try.prog 63 #[.pointer (some ⟨pp, 0, none⟩), v, .int .i64 (nx : Int)] w fun e' w' => e' = .returned (.int .i64 ((lay x ps nx).2 : Int)) ∧ Pl B pp f e (lay x ps nx).1 w' ∧ Below B w w' ∧ Keep3 w w'
theorem lay_empty (B pp : Nat) (f e : Value) (ps : List St) (w : World) (hP : Pl B pp f e ps w) (hBp : B ≤ pp) (hBw : B ≤ w.heap.size) (hlen : ps.length ≤ 200) :
    Calls Try.prog 62 #[.pointer (some ⟨pp, 0, none⟩), .agg #[.int .u64 0, .int .u64 0, .int .u64 0, .int .u64 0, .slice none 0 0]] w fun e' w' => e' = .returned (.int .i64 (ps.length : Int)) ∧ Pl B pp f e (ps ++ [(empty, [])]) w' ∧ Below B w w' ∧ Keep3 w w' :=
  lay_any B pp f e ps empty (.slice none 0 0) [] w hP hBp hBw (Or.inl ⟨rfl, rfl⟩) hlen
theorem box_keep (w : World) (o : Obj) : Below w.heap.size w (w.alloc o) := (Below.refl _ w).alloc (Nat.le_refl _) o

set_option maxHeartbeats 2000000 in
set_option maxRecDepth 20000 in
theorem lr_none : LR (.mk 1 empty []) .none := by
  intro v ps nx B pp f e w hx hP hBp hBw hlen
  obtain ⟨k, c, ao, cap, kids, vals, rfl, ht, _⟩ := hx.shape
  simp only [T.mk.injEq] at ht
  obtain ⟨rfl, rfl, rfl⟩ := ht
  have hcall := fun W (h : Below w.heap.size w W) => lay_empty B pp f e ps W (hP.keep h) hBp (Nat.le_trans hBw h.size) (by simp only [E.nodes] at hlen; omega)
  have HC : Hid (∀ W, Below w.heap.size w W → Calls Try.prog 62 #[.pointer (some ⟨pp, 0, none⟩), .agg #[.int .u64 0, .int .u64 0, .int .u64 0, .int .u64 0, .slice none 0 0]] W fun e' w' => e' = .returned (.int .i64 (ps.length : Int)) ∧ Pl B pp f e (ps ++ [(empty, [])]) w' ∧ Below B W w' ∧ Keep3 W w') := hcall
  clear hcall hx hP
  go_enter Try.func63, Try.ntmps63
  go_wp2_with fail
  refine (HC.out _ (box_keep w _)).mono ?_
  rintro e1 W1 ⟨rfl, hp1, hb1, hk1⟩
  go_wp2_with fail
  go_ret
  exact ⟨rfl, hp1, ((Below.refl B w).alloc hBw _).trans hb1, ((Keep3.refl w).below (box_keep w _)).trans hk1⟩
set_option maxHeartbeats 2000000 in
theorem lr_emp : LR (.mk 2 empty []) .emp := by
  intro v ps nx B pp f e w hx hP hBp hBw hlen
  obtain ⟨k, c, ao, cap, kids, vals, rfl, ht, _⟩ := hx.shape
  simp only [T.mk.injEq] at ht
  obtain ⟨rfl, rfl, rfl⟩ := ht
  have HP : Hid (Pl B pp f e ps w) := hP
  clear hx hP
  go_enter Try.func63, Try.ntmps63
  go_wp2_with fail
  go_ret
  exact ⟨rfl, HP.out.keep (box_keep w _), (Below.refl B w).alloc hBw _, (Keep3.refl w).below (box_keep w _)⟩
set_option maxHeartbeats 2000000 in
set_option maxRecDepth 20000 in
theorem lr_byte {c : Cl} (_h : c ≠ empty) : LR (.mk 3 c []) (.byte c) := by
  intro v ps nx B pp f e w hx hP hBp hBw hlen
  obtain ⟨k, c', ao, cap, kids, vals, rfl, ht, _⟩ := hx.shape
  simp only [T.mk.injEq] at ht
  obtain ⟨rfl, rfl, rfl⟩ := ht
  have HC : Hid (∀ W b, Below w.heap.size w W → B ≤ b → W.heap[b]? = some (.cells #[.int .i64 (nx : Int)] 3) → Calls Try.prog 62 #[.pointer (some ⟨pp, 0, none⟩), .agg #[.int .u64 (c.1.toNat : Int), .int .u64 (c.2.1.toNat : Int), .int .u64 (c.2.2.1.toNat : Int), .int .u64 (c.2.2.2.toNat : Int), .slice (some ⟨b, 0, none⟩) 1 1]] W fun e' w' => e' = .returned (.int .i64 (ps.length : Int)) ∧ Pl B pp f e (ps ++ [(c, [nx])]) w' ∧ Below B W w' ∧ Keep3 W w') := fun W b h hb hz => lay_any B pp f e ps c _ [nx] W (hP.keep h) hBp (Nat.le_trans hBw h.size) (Or.inr ⟨b, rfl, hb, hz⟩) (by simp only [E.nodes] at hlen; omega)
  clear hx hP
  go_enter Try.func63, Try.ntmps63
  go_wp2_with fail
  refine (HC.out _ (w.heap.size + 1) ((box_keep w _).trans ((box_keep _ _).mono (by simp))) (by omega) ?_).mono ?_
  · have h := block_new (w.alloc (.cells #[.int .i64 3, .int .u64 (c.1.toNat : Int), .int .u64 (c.2.1.toNat : Int), .int .u64 (c.2.2.1.toNat : Int), .int .u64 (c.2.2.2.toNat : Int), .slice ao ([] : List T).length cap] 44)) (.cells #[.int .i64 (nx : Int)] 3)
    have e : (w.alloc (.cells #[.int .i64 3, .int .u64 (c.1.toNat : Int), .int .u64 (c.2.1.toNat : Int), .int .u64 (c.2.2.1.toNat : Int), .int .u64 (c.2.2.2.toNat : Int), .slice ao ([] : List T).length cap] 44)).heap.size = w.heap.size + 1 := by simp
    rw [e] at h; exact h
  · rintro e1 W1 ⟨rfl, hp1, hb1, hk1⟩
    go_wp2_with fail
    go_ret
    exact ⟨rfl, hp1, (((Below.refl B w).alloc hBw _).alloc (by simp; omega) _).trans hb1, (((Keep3.refl w).below (box_keep w _)).below (box_keep _ _)).trans hk1⟩
/-- What the regions with two Kids read. -/
theorem s2_next {W W' : World} {B bx b o cap : Nat} {k0 k1 : Int} {c0 c1 : Cl} {a0 a1 : Option Addr} {n0 p0 n1 p1 : Nat} {z : Array Value} (hz : W.heap[bx]? = some (.cells z 44)) (hb : b < B) (h : W.cell? ⟨bx, 5, none⟩ = some (.slice (some ⟨b, o, none⟩) 2 cap) ∧ W.cell? ⟨b, o, none⟩ = some (.int .i64 k0) ∧ W.cell? ⟨b, o + 1, none⟩ = some (.int .u64 (c0.1.toNat : Int)) ∧ W.cell? ⟨b, o + 2, none⟩ = some (.int .u64 (c0.2.1.toNat : Int)) ∧ W.cell? ⟨b, o + 3, none⟩ = some (.int .u64 (c0.2.2.1.toNat : Int)) ∧ W.cell? ⟨b, o + 4, none⟩ = some (.int .u64 (c0.2.2.2.toNat : Int)) ∧ W.cell? ⟨b, o + 5, none⟩ = some (.slice a0 n0 p0) ∧ W.cell? ⟨b, o + 6, none⟩ = some (.int .i64 k1) ∧ W.cell? ⟨b, o + 6 + 1, none⟩ = some (.int .u64 (c1.1.toNat : Int)) ∧ W.cell? ⟨b, o + 6 + 2, none⟩ = some (.int .u64 (c1.2.1.toNat : Int)) ∧ W.cell? ⟨b, o + 6 + 3, none⟩ = some (.int .u64 (c1.2.2.1.toNat : Int)) ∧ W.cell? ⟨b, o + 6 + 4, none⟩ = some (.int .u64 (c1.2.2.2.toNat : Int)) ∧ W.cell? ⟨b, o + 6 + 5, none⟩ = some (.slice a1 n1 p1)) (hB : Below B W W') (hk : Keep3 W W') : W'.cell? ⟨bx, 5, none⟩ = some (.slice (some ⟨b, o, none⟩) 2 cap) ∧ W'.cell? ⟨b, o, none⟩ = some (.int .i64 k0) ∧ W'.cell? ⟨b, o + 1, none⟩ = some (.int .u64 (c0.1.toNat : Int)) ∧ W'.cell? ⟨b, o + 2, none⟩ = some (.int .u64 (c0.2.1.toNat : Int)) ∧ W'.cell? ⟨b, o + 3, none⟩ = some (.int .u64 (c0.2.2.1.toNat : Int)) ∧ W'.cell? ⟨b, o + 4, none⟩ = some (.int .u64 (c0.2.2.2.toNat : Int)) ∧ W'.cell? ⟨b, o + 5, none⟩ = some (.slice a0 n0 p0) ∧ W'.cell? ⟨b, o + 6, none⟩ = some (.int .i64 k1) ∧ W'.cell? ⟨b, o + 6 + 1, none⟩ = some (.int .u64 (c1.1.toNat : Int)) ∧ W'.cell? ⟨b, o + 6 + 2, none⟩ = some (.int .u64 (c1.2.1.toNat : Int)) ∧ W'.cell? ⟨b, o + 6 + 3, none⟩ = some (.int .u64 (c1.2.2.1.toNat : Int)) ∧ W'.cell? ⟨b, o + 6 + 4, none⟩ = some (.int .u64 (c1.2.2.2.toNat : Int)) ∧ W'.cell? ⟨b, o + 6 + 5, none⟩ = some (.slice a1 n1 p1) := by
  obtain ⟨h0, h1, h2, h3, h4, h5, h6, h7, h8, h9, h10, h11, h12⟩ := h
  exact ⟨keep_cell hz h0 (by decide) (by decide) hk, (hB.cell hb).trans h1, (hB.cell hb).trans h2, (hB.cell hb).trans h3, (hB.cell hb).trans h4, (hB.cell hb).trans h5, (hB.cell hb).trans h6, (hB.cell hb).trans h7, (hB.cell hb).trans h8, (hB.cell hb).trans h9, (hB.cell hb).trans h10, (hB.cell hb).trans h11, (hB.cell hb).trans h12⟩
/-- Two Kids, opened. -/
theorem rxtwo_kids {w : World} {B : Nat} {v : Value} {k : Int} {s t : T} (hx : Rx w B v (.mk k empty [s, t])) : ∃ (b o cap : Nat) (k0 k1 : Int) (c0 c1 : Cl) (a0 a1 : Option Addr) (n0 p0 n1 p1 : Nat), v = .agg #[.int .i64 k, .int .u64 0, .int .u64 0, .int .u64 0, .int .u64 0, .slice (some ⟨b, o, none⟩) 2 cap] ∧ b < B ∧ Rx w B (.agg #[.int .i64 k0, .int .u64 (c0.1.toNat : Int), .int .u64 (c0.2.1.toNat : Int), .int .u64 (c0.2.2.1.toNat : Int), .int .u64 (c0.2.2.2.toNat : Int), .slice a0 n0 p0]) s ∧ Rx w B (.agg #[.int .i64 k1, .int .u64 (c1.1.toNat : Int), .int .u64 (c1.2.1.toNat : Int), .int .u64 (c1.2.2.1.toNat : Int), .int .u64 (c1.2.2.2.toNat : Int), .slice a1 n1 p1]) t ∧ w.cell? ⟨b, o, none⟩ = some (.int .i64 k0) ∧ w.cell? ⟨b, o + 1, none⟩ = some (.int .u64 (c0.1.toNat : Int)) ∧ w.cell? ⟨b, o + 2, none⟩ = some (.int .u64 (c0.2.1.toNat : Int)) ∧ w.cell? ⟨b, o + 3, none⟩ = some (.int .u64 (c0.2.2.1.toNat : Int)) ∧ w.cell? ⟨b, o + 4, none⟩ = some (.int .u64 (c0.2.2.2.toNat : Int)) ∧ w.cell? ⟨b, o + 5, none⟩ = some (.slice a0 n0 p0) ∧ w.cell? ⟨b, o + 6, none⟩ = some (.int .i64 k1) ∧ w.cell? ⟨b, o + 6 + 1, none⟩ = some (.int .u64 (c1.1.toNat : Int)) ∧ w.cell? ⟨b, o + 6 + 2, none⟩ = some (.int .u64 (c1.2.1.toNat : Int)) ∧ w.cell? ⟨b, o + 6 + 3, none⟩ = some (.int .u64 (c1.2.2.1.toNat : Int)) ∧ w.cell? ⟨b, o + 6 + 4, none⟩ = some (.int .u64 (c1.2.2.2.toNat : Int)) ∧ w.cell? ⟨b, o + 6 + 5, none⟩ = some (.slice a1 n1 p1) := by
  obtain ⟨k', c, ao, cap, kids, vals, rfl, ht, _, _, hc, hr⟩ := hx.shape
  simp only [T.mk.injEq] at ht
  obtain ⟨rfl, rfl, rfl⟩ := ht
  rcases hc with h | ⟨b, o, rfl, hbB, hcl⟩
  · cases h
  have r0 := hr 0 (by simp)
  have r1 := hr 1 (by simp)
  have hc0 := hcl 0 (by simp)
  have hc1 := hcl 1 (by simp)
  obtain ⟨k0, c0, a0, n0, p0, e0, q0⟩ := kid_cells r0 hc0
  obtain ⟨k1, c1, a1, n1, p1, e1, q1⟩ := kid_cells r1 hc1
  simp only [Nat.zero_mul, Nat.add_zero, Nat.one_mul] at q0 q1
  refine ⟨b, o, cap, k0, k1, c0, c1, a0, a1, n0, p0, n1, p1, rfl, hbB, ?_, ?_, ?_⟩
  · rw [← e0]; exact r0
  · rw [← e1]; exact r1
  · obtain ⟨x0, x1, x2, x3, x4, x5⟩ := q0
    obtain ⟨y0, y1, y2, y3, y4, y5⟩ := q1
    exact ⟨x0, x1, x2, x3, x4, x5, y0, y1, y2, y3, y4, y5⟩

/-- What the region of two Kids keeps, whichever of its operations are done. -/
structure CC (wr : World) (B pp bx b o cap nx r1v r2v : Nat) (f e : Value) (ps : List St) (x y : E) (k0 k1 : Int) (c0 c1 : Cl) (a0 a1 : Option Addr) (n0 p0 n1 p1 : Nat) (d : Nat → Bool) (x6 x25 x26 x27 x28 x29 x30 x31 x32 x33 x34 x35 x36 x37 : Value) (W : World) : Prop where
  f0 : d 0 = true → x25 = (.pointer (some ⟨pp, 0, none⟩))
  f1 : d 1 = true → x26 = (.pointer (some ⟨bx, 5, none⟩))
  f2 : d 2 = true → x27 = (.slice (some ⟨b, o, none⟩) 2 cap)
  f3 : d 3 = true → x28 = (.pointer (some ⟨b, o, none⟩))
  f4 : d 4 = true → x29 = (.agg #[.int .i64 k0, .int .u64 (c0.1.toNat : Int), .int .u64 (c0.2.1.toNat : Int), .int .u64 (c0.2.2.1.toNat : Int), .int .u64 (c0.2.2.2.toNat : Int), .slice a0 n0 p0])
  f5 : d 5 = true → x30 = (.pointer (some ⟨pp, 0, none⟩))
  f6 : d 6 = true → x31 = (.pointer (some ⟨bx, 5, none⟩))
  f7 : d 7 = true → x32 = (.slice (some ⟨b, o, none⟩) 2 cap)
  f8 : d 8 = true → x33 = (.pointer (some ⟨b, o + 6, none⟩))
  f9 : d 9 = true → x34 = (.agg #[.int .i64 k1, .int .u64 (c1.1.toNat : Int), .int .u64 (c1.2.1.toNat : Int), .int .u64 (c1.2.2.1.toNat : Int), .int .u64 (c1.2.2.2.toNat : Int), .slice a1 n1 p1])
  f10 : d 10 = true → x35 = (.int .i64 (nx : Int))
  f11 : d 11 = true → x36 = (.int .i64 (r1v : Int))
  f12 : d 12 = true → x37 = (.int .i64 (r2v : Int))
  f13 : d 13 = true → x6 = (.int .i64 (r2v : Int))
  below : Below B wr W
  size : wr.heap.size ≤ W.heap.size
  keep : Keep3 wr W
  q0 : d 11 = false → Pl B pp f e ps W
  q1 : d 11 = true → d 12 = false → Pl B pp f e (lay y ps nx).1 W
  q2 : d 12 = true → Pl B pp f e (lay (.cat x y) ps nx).1 W
  g12 : d 12 = true → d 11 = true
set_option maxHeartbeats 4000000 in
set_option maxRecDepth 20000 in
theorem lr_cat {s t : T} {x y : E} (h1 : LR s x) (h2 : LR t y) : LR (.mk 4 empty [s, t]) (.cat x y) := by
  intro v ps nx B pp f e w hx hP hBp hBw hlen
  obtain ⟨b, o, cap, k0, k1, c0, c1, a0, a1, n0, p0, n1, p1, rfl, hbB, r0, r1, hcl⟩ := rxtwo_kids hx
  simp only [E.nodes] at hlen
  obtain ⟨bx, HBX⟩ : ∃ bx, Hid (w.heap.size = bx) := ⟨_, (rfl : w.heap.size = w.heap.size)⟩
  have HR : Hid (Rx w B (.agg #[.int .i64 k0, .int .u64 (c0.1.toNat : Int), .int .u64 (c0.2.1.toNat : Int), .int .u64 (c0.2.2.1.toNat : Int), .int .u64 (c0.2.2.2.toNat : Int), .slice a0 n0 p0]) s ∧ Rx w B (.agg #[.int .i64 k1, .int .u64 (c1.1.toNat : Int), .int .u64 (c1.2.1.toNat : Int), .int .u64 (c1.2.2.1.toNat : Int), .int .u64 (c1.2.2.2.toNat : Int), .slice a1 n1 p1]) t ∧ Pl B pp f e ps w) := ⟨r0, r1, hP⟩
  have hb0 := box_keep w (.cells #[.int .i64 4, .int .u64 0, .int .u64 0, .int .u64 0, .int .u64 0, .slice (some ⟨b, o, none⟩) 2 cap] 44)
  have HZ : Hid ((w.alloc (.cells #[.int .i64 4, .int .u64 0, .int .u64 0, .int .u64 0, .int .u64 0, .slice (some ⟨b, o, none⟩) 2 cap] 44)).heap[bx]? = some (.cells #[.int .i64 4, .int .u64 0, .int .u64 0, .int .u64 0, .int .u64 0, .slice (some ⟨b, o, none⟩) 2 cap] 44)) := by
    show _ = _
    rw [← HBX.out]; exact block_new w _
  generalize hwr : w.alloc (.cells #[.int .i64 4, .int .u64 0, .int .u64 0, .int .u64 0, .int .u64 0, .slice (some ⟨b, o, none⟩) 2 cap] 44) = wr at hb0 HZ
  have HWR : Hid (w.alloc (.cells #[.int .i64 4, .int .u64 0, .int .u64 0, .int .u64 0, .int .u64 0, .slice (some ⟨b, o, none⟩) 2 cap] 44) = wr) := hwr
  clear hwr
  have hS : wr.cell? ⟨bx, 5, none⟩ = some (.slice (some ⟨b, o, none⟩) 2 cap) ∧ wr.cell? ⟨b, o, none⟩ = some (.int .i64 k0) ∧ wr.cell? ⟨b, o + 1, none⟩ = some (.int .u64 (c0.1.toNat : Int)) ∧ wr.cell? ⟨b, o + 2, none⟩ = some (.int .u64 (c0.2.1.toNat : Int)) ∧ wr.cell? ⟨b, o + 3, none⟩ = some (.int .u64 (c0.2.2.1.toNat : Int)) ∧ wr.cell? ⟨b, o + 4, none⟩ = some (.int .u64 (c0.2.2.2.toNat : Int)) ∧ wr.cell? ⟨b, o + 5, none⟩ = some (.slice a0 n0 p0) ∧ wr.cell? ⟨b, o + 6, none⟩ = some (.int .i64 k1) ∧ wr.cell? ⟨b, o + 6 + 1, none⟩ = some (.int .u64 (c1.1.toNat : Int)) ∧ wr.cell? ⟨b, o + 6 + 2, none⟩ = some (.int .u64 (c1.2.1.toNat : Int)) ∧ wr.cell? ⟨b, o + 6 + 3, none⟩ = some (.int .u64 (c1.2.2.1.toNat : Int)) ∧ wr.cell? ⟨b, o + 6 + 4, none⟩ = some (.int .u64 (c1.2.2.2.toNat : Int)) ∧ wr.cell? ⟨b, o + 6 + 5, none⟩ = some (.slice a1 n1 p1) := by
    have hw : ∀ j v, w.cell? ⟨b, j, none⟩ = some v → wr.cell? ⟨b, j, none⟩ = some v := fun j v h => cell_next h hb0
    obtain ⟨x0, x1, x2, x3, x4, x5, y0, y1, y2, y3, y4, y5⟩ := hcl
    exact ⟨by simp [World.cell?, HZ.out], hw _ _ x0, hw _ _ x1, hw _ _ x2, hw _ _ x3, hw _ _ x4, hw _ _ x5, hw _ _ y0, hw _ _ y1, hw _ _ y2, hw _ _ y3, hw _ _ y4, hw _ _ y5⟩
  have HC1 : Hid (∀ W1, Below B wr W1 → Pl B pp f e ps W1 → B ≤ W1.heap.size → Calls Try.prog 63 #[.pointer (some ⟨pp, 0, none⟩), .agg #[.int .i64 k1, .int .u64 (c1.1.toNat : Int), .int .u64 (c1.2.1.toNat : Int), .int .u64 (c1.2.2.1.toNat : Int), .int .u64 (c1.2.2.2.toNat : Int), .slice a1 n1 p1], .int .i64 (nx : Int)] W1 fun e' w' => e' = .returned (.int .i64 ((lay y ps nx).2 : Int)) ∧ Pl B pp f e (lay y ps nx).1 w' ∧ Below B W1 w' ∧ Keep3 W1 w') := fun W1 hb hp hB =>
    h2 _ ps nx B pp f e W1 ((HR.out.2.1.next (hb0.mono hBw)).next hb) hp hBp hB (by omega)
  have HC2 : Hid (∀ W1, Below B wr W1 → Pl B pp f e (lay y ps nx).1 W1 → B ≤ W1.heap.size → Calls Try.prog 63 #[.pointer (some ⟨pp, 0, none⟩), .agg #[.int .i64 k0, .int .u64 (c0.1.toNat : Int), .int .u64 (c0.2.1.toNat : Int), .int .u64 (c0.2.2.1.toNat : Int), .int .u64 (c0.2.2.2.toNat : Int), .slice a0 n0 p0], .int .i64 ((lay y ps nx).2 : Int)] W1 fun e' w' => e' = .returned (.int .i64 ((lay (.cat x y) ps nx).2 : Int)) ∧ Pl B pp f e (lay (.cat x y) ps nx).1 w' ∧ Below B W1 w' ∧ Keep3 W1 w') := fun W1 hb hp hB =>
    h1 _ _ _ B pp f e W1 ((HR.out.1.next (hb0.mono hBw)).next hb) hp hBp hB (by have := (lay_len y ps nx).2; omega)
  have HS : Hid (wr.cell? ⟨bx, 5, none⟩ = some (.slice (some ⟨b, o, none⟩) 2 cap) ∧ wr.cell? ⟨b, o, none⟩ = some (.int .i64 k0) ∧ wr.cell? ⟨b, o + 1, none⟩ = some (.int .u64 (c0.1.toNat : Int)) ∧ wr.cell? ⟨b, o + 2, none⟩ = some (.int .u64 (c0.2.1.toNat : Int)) ∧ wr.cell? ⟨b, o + 3, none⟩ = some (.int .u64 (c0.2.2.1.toNat : Int)) ∧ wr.cell? ⟨b, o + 4, none⟩ = some (.int .u64 (c0.2.2.2.toNat : Int)) ∧ wr.cell? ⟨b, o + 5, none⟩ = some (.slice a0 n0 p0) ∧ wr.cell? ⟨b, o + 6, none⟩ = some (.int .i64 k1) ∧ wr.cell? ⟨b, o + 6 + 1, none⟩ = some (.int .u64 (c1.1.toNat : Int)) ∧ wr.cell? ⟨b, o + 6 + 2, none⟩ = some (.int .u64 (c1.2.1.toNat : Int)) ∧ wr.cell? ⟨b, o + 6 + 3, none⟩ = some (.int .u64 (c1.2.2.1.toNat : Int)) ∧ wr.cell? ⟨b, o + 6 + 4, none⟩ = some (.int .u64 (c1.2.2.2.toNat : Int)) ∧ wr.cell? ⟨b, o + 6 + 5, none⟩ = some (.slice a1 n1 p1)) := hS
  have hBW : B ≤ wr.heap.size := Nat.le_trans hBw hb0.size
  have HP0 : Hid (Pl B pp f e ps wr) := HR.out.2.2.keep hb0
  obtain ⟨r1v, HV1⟩ : ∃ r : Nat, Hid ((lay y ps nx).2 = r) := ⟨_, (rfl : (lay y ps nx).2 = (lay y ps nx).2)⟩
  obtain ⟨r2v, HV2⟩ : ∃ r : Nat, Hid ((lay (.cat x y) ps nx).2 = r) := ⟨_, (rfl : (lay (.cat x y) ps nx).2 = (lay (.cat x y) ps nx).2)⟩
  rw [HV1.out] at HC1
  rw [HV1.out, HV2.out] at HC2
  clear r0 r1 hP hx hcl hS
  go_enter Try.func63, Try.ntmps63
  go_upto_region 7 with fail
  rw [HBX.out, HWR.out]
  go_cut [6] (fun z wx => z = .int .i64 (r2v : Int) ∧ Hid (Below B wr wx ∧ Keep3 wr wx ∧ Pl B pp f e (lay (.cat x y) ps nx).1 wx))
  case first =>
    refine wp_region_inv mixed (fun aa0 d a W => ∃ (x6 x25 x26 x27 x28 x29 x30 x31 x32 x33 x34 x35 x36 x37 : Value), a = ((((((((((((((aa0.put (some 6) x6).put (some 25) x25).put (some 26) x26).put (some 27) x27).put (some 28) x28).put (some 29) x29).put (some 30) x30).put (some 31) x31).put (some 32) x32).put (some 33) x33).put (some 34) x34).put (some 35) x35).put (some 36) x36).put (some 37) x37) ∧ Hid (CC wr B pp bx b o cap nx r1v r2v f e ps x y k0 k1 c0 c1 a0 a1 n0 p0 n1 p1 d x6 x25 x26 x27 x28 x29 x30 x31 x32 x33 x34 x35 x36 x37 W)) (by kernel_rfl) ⟨(.int .i64 0), undef, undef, undef, undef, undef, undef, undef, undef, undef, undef, undef, undef, undef, by simp only [Act.put, List.setIfInBounds_toArray, List.set_cons_zero, List.set_cons_succ], ?_⟩ ?_ ?_
    · exact ⟨fun h => rxno_way h, fun h => rxno_way h, fun h => rxno_way h, fun h => rxno_way h, fun h => rxno_way h, fun h => rxno_way h, fun h => rxno_way h, fun h => rxno_way h, fun h => rxno_way h, fun h => rxno_way h, fun h => rxno_way h, fun h => rxno_way h, fun h => rxno_way h, fun h => rxno_way h, (Below.refl _ wr).drew, Nat.le_refl _, fun _ _ _ _ _ h => h, fun _ => HP0.out.keep (Below.refl _ wr).drew, fun h _ => rxno_way h, fun h => rxno_way h, fun h => rxno_way h⟩
    · simp only [StepAll, and_true]
      refine ⟨?_, ?_, ?_, ?_, ?_, ?_, ?_, ?_, ?_, ?_, ?_, ?_, ?_, ?_⟩
      · intro d a W hI hd hdep
        obtain ⟨x6, x25, x26, x27, x28, x29, x30, x31, x32, x33, x34, x35, x36, x37, rfl, hF⟩ := hI
        clear hdep hd
        intro K hK
        simp only [Act.put, List.setIfInBounds_toArray, List.set_cons_zero, List.set_cons_succ]
        go_simp
        refine hK.out _ _ ⟨x6, (.pointer (some ⟨pp, 0, none⟩)), x26, x27, x28, x29, x30, x31, x32, x33, x34, x35, x36, x37, by simp only [Act.put, List.setIfInBounds_toArray, List.set_cons_zero, List.set_cons_succ], ?_⟩
        exact ⟨fun _ => rfl, fun h => hF.out.f1 (by simpa using h), fun h => hF.out.f2 (by simpa using h), fun h => hF.out.f3 (by simpa using h), fun h => hF.out.f4 (by simpa using h), fun h => hF.out.f5 (by simpa using h), fun h => hF.out.f6 (by simpa using h), fun h => hF.out.f7 (by simpa using h), fun h => hF.out.f8 (by simpa using h), fun h => hF.out.f9 (by simpa using h), fun h => hF.out.f10 (by simpa using h), fun h => hF.out.f11 (by simpa using h), fun h => hF.out.f12 (by simpa using h), fun h => hF.out.f13 (by simpa using h), hF.out.below, hF.out.size, hF.out.keep, fun h => hF.out.q0 (by simpa using h), fun h h2 => hF.out.q1 (by simpa using h) (by simpa using h2), fun h => hF.out.q2 (by simpa using h), fun h => by simpa using hF.out.g12 (by simpa using h)⟩
      · intro d a W hI hd hdep
        obtain ⟨x6, x25, x26, x27, x28, x29, x30, x31, x32, x33, x34, x35, x36, x37, rfl, hF⟩ := hI
        clear hdep hd
        intro K hK
        simp only [Act.put, List.setIfInBounds_toArray, List.set_cons_zero, List.set_cons_succ]
        go_simp
        refine hK.out _ _ ⟨x6, x25, (.pointer (some ⟨bx, 5, none⟩)), x27, x28, x29, x30, x31, x32, x33, x34, x35, x36, x37, by simp only [Act.put, List.setIfInBounds_toArray, List.set_cons_zero, List.set_cons_succ], ?_⟩
        exact ⟨fun h => hF.out.f0 (by simpa using h), fun _ => rfl, fun h => hF.out.f2 (by simpa using h), fun h => hF.out.f3 (by simpa using h), fun h => hF.out.f4 (by simpa using h), fun h => hF.out.f5 (by simpa using h), fun h => hF.out.f6 (by simpa using h), fun h => hF.out.f7 (by simpa using h), fun h => hF.out.f8 (by simpa using h), fun h => hF.out.f9 (by simpa using h), fun h => hF.out.f10 (by simpa using h), fun h => hF.out.f11 (by simpa using h), fun h => hF.out.f12 (by simpa using h), fun h => hF.out.f13 (by simpa using h), hF.out.below, hF.out.size, hF.out.keep, fun h => hF.out.q0 (by simpa using h), fun h h2 => hF.out.q1 (by simpa using h) (by simpa using h2), fun h => hF.out.q2 (by simpa using h), fun h => by simpa using hF.out.g12 (by simpa using h)⟩
      · intro d a W hI hd hdep
        obtain ⟨x6, x25, x26, x27, x28, x29, x30, x31, x32, x33, x34, x35, x36, x37, rfl, hF⟩ := hI
        have hd1 : d 1 = true := rxdep_of hdep 1 (by kernel_rfl)
        obtain rfl := hF.out.f1 hd1
        have HSW : Hid (W.cell? ⟨bx, 5, none⟩ = some (.slice (some ⟨b, o, none⟩) 2 cap) ∧ W.cell? ⟨b, o, none⟩ = some (.int .i64 k0) ∧ W.cell? ⟨b, o + 1, none⟩ = some (.int .u64 (c0.1.toNat : Int)) ∧ W.cell? ⟨b, o + 2, none⟩ = some (.int .u64 (c0.2.1.toNat : Int)) ∧ W.cell? ⟨b, o + 3, none⟩ = some (.int .u64 (c0.2.2.1.toNat : Int)) ∧ W.cell? ⟨b, o + 4, none⟩ = some (.int .u64 (c0.2.2.2.toNat : Int)) ∧ W.cell? ⟨b, o + 5, none⟩ = some (.slice a0 n0 p0) ∧ W.cell? ⟨b, o + 6, none⟩ = some (.int .i64 k1) ∧ W.cell? ⟨b, o + 6 + 1, none⟩ = some (.int .u64 (c1.1.toNat : Int)) ∧ W.cell? ⟨b, o + 6 + 2, none⟩ = some (.int .u64 (c1.2.1.toNat : Int)) ∧ W.cell? ⟨b, o + 6 + 3, none⟩ = some (.int .u64 (c1.2.2.1.toNat : Int)) ∧ W.cell? ⟨b, o + 6 + 4, none⟩ = some (.int .u64 (c1.2.2.2.toNat : Int)) ∧ W.cell? ⟨b, o + 6 + 5, none⟩ = some (.slice a1 n1 p1)) := s2_next HZ.out hbB HS.out hF.out.below hF.out.keep
        have s5 := HSW.out.1
        clear HSW
        clear hdep hd hd1
        intro K hK
        simp only [Act.put, List.setIfInBounds_toArray, List.set_cons_zero, List.set_cons_succ]
        go_simp
        refine hK.out _ _ ⟨x6, x25, (.pointer (some ⟨bx, 5, none⟩)), (.slice (some ⟨b, o, none⟩) 2 cap), x28, x29, x30, x31, x32, x33, x34, x35, x36, x37, by simp only [Act.put, List.setIfInBounds_toArray, List.set_cons_zero, List.set_cons_succ], ?_⟩
        exact ⟨fun h => hF.out.f0 (by simpa using h), fun h => hF.out.f1 (by simpa using h), fun _ => rfl, fun h => hF.out.f3 (by simpa using h), fun h => hF.out.f4 (by simpa using h), fun h => hF.out.f5 (by simpa using h), fun h => hF.out.f6 (by simpa using h), fun h => hF.out.f7 (by simpa using h), fun h => hF.out.f8 (by simpa using h), fun h => hF.out.f9 (by simpa using h), fun h => hF.out.f10 (by simpa using h), fun h => hF.out.f11 (by simpa using h), fun h => hF.out.f12 (by simpa using h), fun h => hF.out.f13 (by simpa using h), hF.out.below, hF.out.size, hF.out.keep, fun h => hF.out.q0 (by simpa using h), fun h h2 => hF.out.q1 (by simpa using h) (by simpa using h2), fun h => hF.out.q2 (by simpa using h), fun h => by simpa using hF.out.g12 (by simpa using h)⟩
      · intro d a W hI hd hdep
        obtain ⟨x6, x25, x26, x27, x28, x29, x30, x31, x32, x33, x34, x35, x36, x37, rfl, hF⟩ := hI
        have hd2 : d 2 = true := rxdep_of hdep 2 (by kernel_rfl)
        obtain rfl := hF.out.f2 hd2
        clear hdep hd hd2
        intro K hK
        simp only [Act.put, List.setIfInBounds_toArray, List.set_cons_zero, List.set_cons_succ]
        go_simp
        refine hK.out _ _ ⟨x6, x25, x26, (.slice (some ⟨b, o, none⟩) 2 cap), (.pointer (some ⟨b, o, none⟩)), x29, x30, x31, x32, x33, x34, x35, x36, x37, by simp only [Act.put, List.setIfInBounds_toArray, List.set_cons_zero, List.set_cons_succ], ?_⟩
        exact ⟨fun h => hF.out.f0 (by simpa using h), fun h => hF.out.f1 (by simpa using h), fun h => hF.out.f2 (by simpa using h), fun _ => rfl, fun h => hF.out.f4 (by simpa using h), fun h => hF.out.f5 (by simpa using h), fun h => hF.out.f6 (by simpa using h), fun h => hF.out.f7 (by simpa using h), fun h => hF.out.f8 (by simpa using h), fun h => hF.out.f9 (by simpa using h), fun h => hF.out.f10 (by simpa using h), fun h => hF.out.f11 (by simpa using h), fun h => hF.out.f12 (by simpa using h), fun h => hF.out.f13 (by simpa using h), hF.out.below, hF.out.size, hF.out.keep, fun h => hF.out.q0 (by simpa using h), fun h h2 => hF.out.q1 (by simpa using h) (by simpa using h2), fun h => hF.out.q2 (by simpa using h), fun h => by simpa using hF.out.g12 (by simpa using h)⟩
      · intro d a W hI hd hdep
        obtain ⟨x6, x25, x26, x27, x28, x29, x30, x31, x32, x33, x34, x35, x36, x37, rfl, hF⟩ := hI
        have hd3 : d 3 = true := rxdep_of hdep 3 (by kernel_rfl)
        obtain rfl := hF.out.f3 hd3
        have HSW : Hid (W.cell? ⟨bx, 5, none⟩ = some (.slice (some ⟨b, o, none⟩) 2 cap) ∧ W.cell? ⟨b, o, none⟩ = some (.int .i64 k0) ∧ W.cell? ⟨b, o + 1, none⟩ = some (.int .u64 (c0.1.toNat : Int)) ∧ W.cell? ⟨b, o + 2, none⟩ = some (.int .u64 (c0.2.1.toNat : Int)) ∧ W.cell? ⟨b, o + 3, none⟩ = some (.int .u64 (c0.2.2.1.toNat : Int)) ∧ W.cell? ⟨b, o + 4, none⟩ = some (.int .u64 (c0.2.2.2.toNat : Int)) ∧ W.cell? ⟨b, o + 5, none⟩ = some (.slice a0 n0 p0) ∧ W.cell? ⟨b, o + 6, none⟩ = some (.int .i64 k1) ∧ W.cell? ⟨b, o + 6 + 1, none⟩ = some (.int .u64 (c1.1.toNat : Int)) ∧ W.cell? ⟨b, o + 6 + 2, none⟩ = some (.int .u64 (c1.2.1.toNat : Int)) ∧ W.cell? ⟨b, o + 6 + 3, none⟩ = some (.int .u64 (c1.2.2.1.toNat : Int)) ∧ W.cell? ⟨b, o + 6 + 4, none⟩ = some (.int .u64 (c1.2.2.2.toNat : Int)) ∧ W.cell? ⟨b, o + 6 + 5, none⟩ = some (.slice a1 n1 p1)) := s2_next HZ.out hbB HS.out hF.out.below hF.out.keep
        have s0 := HSW.out.2.1
        have s1 := HSW.out.2.2.1
        have s2 := HSW.out.2.2.2.1
        have s3 := HSW.out.2.2.2.2.1
        have s4 := HSW.out.2.2.2.2.2.1
        have s5 := HSW.out.2.2.2.2.2.2.1
        clear HSW
        clear hdep hd hd3
        intro K hK
        simp only [Act.put, List.setIfInBounds_toArray, List.set_cons_zero, List.set_cons_succ]
        go_simp
        refine hK.out _ _ ⟨x6, x25, x26, x27, (.pointer (some ⟨b, o, none⟩)), (.agg #[.int .i64 k0, .int .u64 (c0.1.toNat : Int), .int .u64 (c0.2.1.toNat : Int), .int .u64 (c0.2.2.1.toNat : Int), .int .u64 (c0.2.2.2.toNat : Int), .slice a0 n0 p0]), x30, x31, x32, x33, x34, x35, x36, x37, by simp only [Act.put, List.setIfInBounds_toArray, List.set_cons_zero, List.set_cons_succ], ?_⟩
        exact ⟨fun h => hF.out.f0 (by simpa using h), fun h => hF.out.f1 (by simpa using h), fun h => hF.out.f2 (by simpa using h), fun h => hF.out.f3 (by simpa using h), fun _ => rfl, fun h => hF.out.f5 (by simpa using h), fun h => hF.out.f6 (by simpa using h), fun h => hF.out.f7 (by simpa using h), fun h => hF.out.f8 (by simpa using h), fun h => hF.out.f9 (by simpa using h), fun h => hF.out.f10 (by simpa using h), fun h => hF.out.f11 (by simpa using h), fun h => hF.out.f12 (by simpa using h), fun h => hF.out.f13 (by simpa using h), hF.out.below, hF.out.size, hF.out.keep, fun h => hF.out.q0 (by simpa using h), fun h h2 => hF.out.q1 (by simpa using h) (by simpa using h2), fun h => hF.out.q2 (by simpa using h), fun h => by simpa using hF.out.g12 (by simpa using h)⟩
      · intro d a W hI hd hdep
        obtain ⟨x6, x25, x26, x27, x28, x29, x30, x31, x32, x33, x34, x35, x36, x37, rfl, hF⟩ := hI
        clear hdep hd
        intro K hK
        simp only [Act.put, List.setIfInBounds_toArray, List.set_cons_zero, List.set_cons_succ]
        go_simp
        refine hK.out _ _ ⟨x6, x25, x26, x27, x28, x29, (.pointer (some ⟨pp, 0, none⟩)), x31, x32, x33, x34, x35, x36, x37, by simp only [Act.put, List.setIfInBounds_toArray, List.set_cons_zero, List.set_cons_succ], ?_⟩
        exact ⟨fun h => hF.out.f0 (by simpa using h), fun h => hF.out.f1 (by simpa using h), fun h => hF.out.f2 (by simpa using h), fun h => hF.out.f3 (by simpa using h), fun h => hF.out.f4 (by simpa using h), fun _ => rfl, fun h => hF.out.f6 (by simpa using h), fun h => hF.out.f7 (by simpa using h), fun h => hF.out.f8 (by simpa using h), fun h => hF.out.f9 (by simpa using h), fun h => hF.out.f10 (by simpa using h), fun h => hF.out.f11 (by simpa using h), fun h => hF.out.f12 (by simpa using h), fun h => hF.out.f13 (by simpa using h), hF.out.below, hF.out.size, hF.out.keep, fun h => hF.out.q0 (by simpa using h), fun h h2 => hF.out.q1 (by simpa using h) (by simpa using h2), fun h => hF.out.q2 (by simpa using h), fun h => by simpa using hF.out.g12 (by simpa using h)⟩
      · intro d a W hI hd hdep
        obtain ⟨x6, x25, x26, x27, x28, x29, x30, x31, x32, x33, x34, x35, x36, x37, rfl, hF⟩ := hI
        clear hdep hd
        intro K hK
        simp only [Act.put, List.setIfInBounds_toArray, List.set_cons_zero, List.set_cons_succ]
        go_simp
        refine hK.out _ _ ⟨x6, x25, x26, x27, x28, x29, x30, (.pointer (some ⟨bx, 5, none⟩)), x32, x33, x34, x35, x36, x37, by simp only [Act.put, List.setIfInBounds_toArray, List.set_cons_zero, List.set_cons_succ], ?_⟩
        exact ⟨fun h => hF.out.f0 (by simpa using h), fun h => hF.out.f1 (by simpa using h), fun h => hF.out.f2 (by simpa using h), fun h => hF.out.f3 (by simpa using h), fun h => hF.out.f4 (by simpa using h), fun h => hF.out.f5 (by simpa using h), fun _ => rfl, fun h => hF.out.f7 (by simpa using h), fun h => hF.out.f8 (by simpa using h), fun h => hF.out.f9 (by simpa using h), fun h => hF.out.f10 (by simpa using h), fun h => hF.out.f11 (by simpa using h), fun h => hF.out.f12 (by simpa using h), fun h => hF.out.f13 (by simpa using h), hF.out.below, hF.out.size, hF.out.keep, fun h => hF.out.q0 (by simpa using h), fun h h2 => hF.out.q1 (by simpa using h) (by simpa using h2), fun h => hF.out.q2 (by simpa using h), fun h => by simpa using hF.out.g12 (by simpa using h)⟩
      · intro d a W hI hd hdep
        obtain ⟨x6, x25, x26, x27, x28, x29, x30, x31, x32, x33, x34, x35, x36, x37, rfl, hF⟩ := hI
        have hd6 : d 6 = true := rxdep_of hdep 6 (by kernel_rfl)
        obtain rfl := hF.out.f6 hd6
        have HSW : Hid (W.cell? ⟨bx, 5, none⟩ = some (.slice (some ⟨b, o, none⟩) 2 cap) ∧ W.cell? ⟨b, o, none⟩ = some (.int .i64 k0) ∧ W.cell? ⟨b, o + 1, none⟩ = some (.int .u64 (c0.1.toNat : Int)) ∧ W.cell? ⟨b, o + 2, none⟩ = some (.int .u64 (c0.2.1.toNat : Int)) ∧ W.cell? ⟨b, o + 3, none⟩ = some (.int .u64 (c0.2.2.1.toNat : Int)) ∧ W.cell? ⟨b, o + 4, none⟩ = some (.int .u64 (c0.2.2.2.toNat : Int)) ∧ W.cell? ⟨b, o + 5, none⟩ = some (.slice a0 n0 p0) ∧ W.cell? ⟨b, o + 6, none⟩ = some (.int .i64 k1) ∧ W.cell? ⟨b, o + 6 + 1, none⟩ = some (.int .u64 (c1.1.toNat : Int)) ∧ W.cell? ⟨b, o + 6 + 2, none⟩ = some (.int .u64 (c1.2.1.toNat : Int)) ∧ W.cell? ⟨b, o + 6 + 3, none⟩ = some (.int .u64 (c1.2.2.1.toNat : Int)) ∧ W.cell? ⟨b, o + 6 + 4, none⟩ = some (.int .u64 (c1.2.2.2.toNat : Int)) ∧ W.cell? ⟨b, o + 6 + 5, none⟩ = some (.slice a1 n1 p1)) := s2_next HZ.out hbB HS.out hF.out.below hF.out.keep
        have s5 := HSW.out.1
        clear HSW
        clear hdep hd hd6
        intro K hK
        simp only [Act.put, List.setIfInBounds_toArray, List.set_cons_zero, List.set_cons_succ]
        go_simp
        refine hK.out _ _ ⟨x6, x25, x26, x27, x28, x29, x30, (.pointer (some ⟨bx, 5, none⟩)), (.slice (some ⟨b, o, none⟩) 2 cap), x33, x34, x35, x36, x37, by simp only [Act.put, List.setIfInBounds_toArray, List.set_cons_zero, List.set_cons_succ], ?_⟩
        exact ⟨fun h => hF.out.f0 (by simpa using h), fun h => hF.out.f1 (by simpa using h), fun h => hF.out.f2 (by simpa using h), fun h => hF.out.f3 (by simpa using h), fun h => hF.out.f4 (by simpa using h), fun h => hF.out.f5 (by simpa using h), fun h => hF.out.f6 (by simpa using h), fun _ => rfl, fun h => hF.out.f8 (by simpa using h), fun h => hF.out.f9 (by simpa using h), fun h => hF.out.f10 (by simpa using h), fun h => hF.out.f11 (by simpa using h), fun h => hF.out.f12 (by simpa using h), fun h => hF.out.f13 (by simpa using h), hF.out.below, hF.out.size, hF.out.keep, fun h => hF.out.q0 (by simpa using h), fun h h2 => hF.out.q1 (by simpa using h) (by simpa using h2), fun h => hF.out.q2 (by simpa using h), fun h => by simpa using hF.out.g12 (by simpa using h)⟩
      · intro d a W hI hd hdep
        obtain ⟨x6, x25, x26, x27, x28, x29, x30, x31, x32, x33, x34, x35, x36, x37, rfl, hF⟩ := hI
        have hd7 : d 7 = true := rxdep_of hdep 7 (by kernel_rfl)
        obtain rfl := hF.out.f7 hd7
        clear hdep hd hd7
        intro K hK
        simp only [Act.put, List.setIfInBounds_toArray, List.set_cons_zero, List.set_cons_succ]
        go_simp
        refine hK.out _ _ ⟨x6, x25, x26, x27, x28, x29, x30, x31, (.slice (some ⟨b, o, none⟩) 2 cap), (.pointer (some ⟨b, o + 6, none⟩)), x34, x35, x36, x37, by simp only [Act.put, List.setIfInBounds_toArray, List.set_cons_zero, List.set_cons_succ], ?_⟩
        exact ⟨fun h => hF.out.f0 (by simpa using h), fun h => hF.out.f1 (by simpa using h), fun h => hF.out.f2 (by simpa using h), fun h => hF.out.f3 (by simpa using h), fun h => hF.out.f4 (by simpa using h), fun h => hF.out.f5 (by simpa using h), fun h => hF.out.f6 (by simpa using h), fun h => hF.out.f7 (by simpa using h), fun _ => rfl, fun h => hF.out.f9 (by simpa using h), fun h => hF.out.f10 (by simpa using h), fun h => hF.out.f11 (by simpa using h), fun h => hF.out.f12 (by simpa using h), fun h => hF.out.f13 (by simpa using h), hF.out.below, hF.out.size, hF.out.keep, fun h => hF.out.q0 (by simpa using h), fun h h2 => hF.out.q1 (by simpa using h) (by simpa using h2), fun h => hF.out.q2 (by simpa using h), fun h => by simpa using hF.out.g12 (by simpa using h)⟩
      · intro d a W hI hd hdep
        obtain ⟨x6, x25, x26, x27, x28, x29, x30, x31, x32, x33, x34, x35, x36, x37, rfl, hF⟩ := hI
        have hd8 : d 8 = true := rxdep_of hdep 8 (by kernel_rfl)
        obtain rfl := hF.out.f8 hd8
        have HSW : Hid (W.cell? ⟨bx, 5, none⟩ = some (.slice (some ⟨b, o, none⟩) 2 cap) ∧ W.cell? ⟨b, o, none⟩ = some (.int .i64 k0) ∧ W.cell? ⟨b, o + 1, none⟩ = some (.int .u64 (c0.1.toNat : Int)) ∧ W.cell? ⟨b, o + 2, none⟩ = some (.int .u64 (c0.2.1.toNat : Int)) ∧ W.cell? ⟨b, o + 3, none⟩ = some (.int .u64 (c0.2.2.1.toNat : Int)) ∧ W.cell? ⟨b, o + 4, none⟩ = some (.int .u64 (c0.2.2.2.toNat : Int)) ∧ W.cell? ⟨b, o + 5, none⟩ = some (.slice a0 n0 p0) ∧ W.cell? ⟨b, o + 6, none⟩ = some (.int .i64 k1) ∧ W.cell? ⟨b, o + 6 + 1, none⟩ = some (.int .u64 (c1.1.toNat : Int)) ∧ W.cell? ⟨b, o + 6 + 2, none⟩ = some (.int .u64 (c1.2.1.toNat : Int)) ∧ W.cell? ⟨b, o + 6 + 3, none⟩ = some (.int .u64 (c1.2.2.1.toNat : Int)) ∧ W.cell? ⟨b, o + 6 + 4, none⟩ = some (.int .u64 (c1.2.2.2.toNat : Int)) ∧ W.cell? ⟨b, o + 6 + 5, none⟩ = some (.slice a1 n1 p1)) := s2_next HZ.out hbB HS.out hF.out.below hF.out.keep
        have s0 := HSW.out.2.2.2.2.2.2.2.1
        have s1 := HSW.out.2.2.2.2.2.2.2.2.1
        have s2 := HSW.out.2.2.2.2.2.2.2.2.2.1
        have s3 := HSW.out.2.2.2.2.2.2.2.2.2.2.1
        have s4 := HSW.out.2.2.2.2.2.2.2.2.2.2.2.1
        have s5 := HSW.out.2.2.2.2.2.2.2.2.2.2.2.2
        clear HSW
        clear hdep hd hd8
        intro K hK
        simp only [Act.put, List.setIfInBounds_toArray, List.set_cons_zero, List.set_cons_succ]
        go_simp
        refine hK.out _ _ ⟨x6, x25, x26, x27, x28, x29, x30, x31, x32, (.pointer (some ⟨b, o + 6, none⟩)), (.agg #[.int .i64 k1, .int .u64 (c1.1.toNat : Int), .int .u64 (c1.2.1.toNat : Int), .int .u64 (c1.2.2.1.toNat : Int), .int .u64 (c1.2.2.2.toNat : Int), .slice a1 n1 p1]), x35, x36, x37, by simp only [Act.put, List.setIfInBounds_toArray, List.set_cons_zero, List.set_cons_succ], ?_⟩
        exact ⟨fun h => hF.out.f0 (by simpa using h), fun h => hF.out.f1 (by simpa using h), fun h => hF.out.f2 (by simpa using h), fun h => hF.out.f3 (by simpa using h), fun h => hF.out.f4 (by simpa using h), fun h => hF.out.f5 (by simpa using h), fun h => hF.out.f6 (by simpa using h), fun h => hF.out.f7 (by simpa using h), fun h => hF.out.f8 (by simpa using h), fun _ => rfl, fun h => hF.out.f10 (by simpa using h), fun h => hF.out.f11 (by simpa using h), fun h => hF.out.f12 (by simpa using h), fun h => hF.out.f13 (by simpa using h), hF.out.below, hF.out.size, hF.out.keep, fun h => hF.out.q0 (by simpa using h), fun h h2 => hF.out.q1 (by simpa using h) (by simpa using h2), fun h => hF.out.q2 (by simpa using h), fun h => by simpa using hF.out.g12 (by simpa using h)⟩
      · intro d a W hI hd hdep
        obtain ⟨x6, x25, x26, x27, x28, x29, x30, x31, x32, x33, x34, x35, x36, x37, rfl, hF⟩ := hI
        clear hdep hd
        intro K hK
        simp only [Act.put, List.setIfInBounds_toArray, List.set_cons_zero, List.set_cons_succ]
        go_simp
        refine hK.out _ _ ⟨x6, x25, x26, x27, x28, x29, x30, x31, x32, x33, x34, (.int .i64 (nx : Int)), x36, x37, by simp only [Act.put, List.setIfInBounds_toArray, List.set_cons_zero, List.set_cons_succ], ?_⟩
        exact ⟨fun h => hF.out.f0 (by simpa using h), fun h => hF.out.f1 (by simpa using h), fun h => hF.out.f2 (by simpa using h), fun h => hF.out.f3 (by simpa using h), fun h => hF.out.f4 (by simpa using h), fun h => hF.out.f5 (by simpa using h), fun h => hF.out.f6 (by simpa using h), fun h => hF.out.f7 (by simpa using h), fun h => hF.out.f8 (by simpa using h), fun h => hF.out.f9 (by simpa using h), fun _ => rfl, fun h => hF.out.f11 (by simpa using h), fun h => hF.out.f12 (by simpa using h), fun h => hF.out.f13 (by simpa using h), hF.out.below, hF.out.size, hF.out.keep, fun h => hF.out.q0 (by simpa using h), fun h h2 => hF.out.q1 (by simpa using h) (by simpa using h2), fun h => hF.out.q2 (by simpa using h), fun h => by simpa using hF.out.g12 (by simpa using h)⟩
      · intro d a W hI hd hdep
        obtain ⟨x6, x25, x26, x27, x28, x29, x30, x31, x32, x33, x34, x35, x36, x37, rfl, hF⟩ := hI
        have hd5 : d 5 = true := rxdep_of hdep 5 (by kernel_rfl)
        have hd9 : d 9 = true := rxdep_of hdep 9 (by kernel_rfl)
        have hd10 : d 10 = true := rxdep_of hdep 10 (by kernel_rfl)
        obtain rfl := hF.out.f5 hd5
        obtain rfl := hF.out.f9 hd9
        obtain rfl := hF.out.f10 hd10
        have h12 : d 12 = false := by
          cases hx : d 12 with
          | false => rfl
          | true => have := hF.out.g12 hx; rw [hd] at this; cases this
        have hcl := HC1.out W hF.out.below (hF.out.q0 hd) (Nat.le_trans hBW hF.out.size)
        have HD : Hid (d 12 = false) := h12
        clear h12
        clear hdep hd hd5 hd9 hd10
        intro K hK
        simp only [Act.put, List.setIfInBounds_toArray, List.set_cons_zero, List.set_cons_succ]
        go_simp
        refine hcl.mono ?_
        rintro e1 W1 ⟨rfl, hp1, hb1, hk1⟩
        go_simp
        refine hK.out _ _ ⟨x6, x25, x26, x27, x28, x29, (.pointer (some ⟨pp, 0, none⟩)), x31, x32, x33, (.agg #[.int .i64 k1, .int .u64 (c1.1.toNat : Int), .int .u64 (c1.2.1.toNat : Int), .int .u64 (c1.2.2.1.toNat : Int), .int .u64 (c1.2.2.2.toNat : Int), .slice a1 n1 p1]), (.int .i64 (nx : Int)), (.int .i64 (r1v : Int)), x37, by simp only [Act.put, List.setIfInBounds_toArray, List.set_cons_zero, List.set_cons_succ], ?_⟩
        exact ⟨fun h => hF.out.f0 (by simpa using h), fun h => hF.out.f1 (by simpa using h), fun h => hF.out.f2 (by simpa using h), fun h => hF.out.f3 (by simpa using h), fun h => hF.out.f4 (by simpa using h), fun h => hF.out.f5 (by simpa using h), fun h => hF.out.f6 (by simpa using h), fun h => hF.out.f7 (by simpa using h), fun h => hF.out.f8 (by simpa using h), fun h => hF.out.f9 (by simpa using h), fun h => hF.out.f10 (by simpa using h), fun _ => rfl, fun h => hF.out.f12 (by simpa using h), fun h => hF.out.f13 (by simpa using h), hF.out.below.trans hb1, Nat.le_trans hF.out.size hb1.size, hF.out.keep.trans hk1, fun h => by simp at h, fun _ _ => hp1, fun h => rxno_way (HD.out.symm.trans (by simpa using h)), fun _ => by simp⟩
      · intro d a W hI hd hdep
        obtain ⟨x6, x25, x26, x27, x28, x29, x30, x31, x32, x33, x34, x35, x36, x37, rfl, hF⟩ := hI
        have hd0 : d 0 = true := rxdep_of hdep 0 (by kernel_rfl)
        have hd4 : d 4 = true := rxdep_of hdep 4 (by kernel_rfl)
        have hd11 : d 11 = true := rxdep_of hdep 11 (by kernel_rfl)
        obtain rfl := hF.out.f0 hd0
        obtain rfl := hF.out.f4 hd4
        obtain rfl := hF.out.f11 hd11
        have hcl := HC2.out W hF.out.below (hF.out.q1 hd11 hd) (Nat.le_trans hBW hF.out.size)
        have HD : Hid (d 11 = true) := hd11
        clear hdep hd hd0 hd4 hd11
        intro K hK
        simp only [Act.put, List.setIfInBounds_toArray, List.set_cons_zero, List.set_cons_succ]
        go_simp
        refine hcl.mono ?_
        rintro e1 W1 ⟨rfl, hp1, hb1, hk1⟩
        go_simp
        refine hK.out _ _ ⟨x6, (.pointer (some ⟨pp, 0, none⟩)), x26, x27, x28, (.agg #[.int .i64 k0, .int .u64 (c0.1.toNat : Int), .int .u64 (c0.2.1.toNat : Int), .int .u64 (c0.2.2.1.toNat : Int), .int .u64 (c0.2.2.2.toNat : Int), .slice a0 n0 p0]), x30, x31, x32, x33, x34, x35, (.int .i64 (r1v : Int)), (.int .i64 (r2v : Int)), by simp only [Act.put, List.setIfInBounds_toArray, List.set_cons_zero, List.set_cons_succ], ?_⟩
        exact ⟨fun h => hF.out.f0 (by simpa using h), fun h => hF.out.f1 (by simpa using h), fun h => hF.out.f2 (by simpa using h), fun h => hF.out.f3 (by simpa using h), fun h => hF.out.f4 (by simpa using h), fun h => hF.out.f5 (by simpa using h), fun h => hF.out.f6 (by simpa using h), fun h => hF.out.f7 (by simpa using h), fun h => hF.out.f8 (by simpa using h), fun h => hF.out.f9 (by simpa using h), fun h => hF.out.f10 (by simpa using h), fun h => hF.out.f11 (by simpa using h), fun _ => rfl, fun h => hF.out.f13 (by simpa using h), hF.out.below.trans hb1, Nat.le_trans hF.out.size hb1.size, hF.out.keep.trans hk1, fun h => rxno_way ((show d 11 = false by simpa using h).symm.trans HD.out), fun _ h => by simp at h, fun _ => hp1, fun _ => by simpa using HD.out⟩
      · intro d a W hI hd hdep
        obtain ⟨x6, x25, x26, x27, x28, x29, x30, x31, x32, x33, x34, x35, x36, x37, rfl, hF⟩ := hI
        have hd12 : d 12 = true := rxdep_of hdep 12 (by kernel_rfl)
        obtain rfl := hF.out.f12 hd12
        clear hdep hd hd12
        intro K hK
        simp only [Act.put, List.setIfInBounds_toArray, List.set_cons_zero, List.set_cons_succ]
        go_simp
        refine hK.out _ _ ⟨(.int .i64 (r2v : Int)), x25, x26, x27, x28, x29, x30, x31, x32, x33, x34, x35, x36, (.int .i64 (r2v : Int)), by simp only [Act.put, List.setIfInBounds_toArray, List.set_cons_zero, List.set_cons_succ], ?_⟩
        exact ⟨fun h => hF.out.f0 (by simpa using h), fun h => hF.out.f1 (by simpa using h), fun h => hF.out.f2 (by simpa using h), fun h => hF.out.f3 (by simpa using h), fun h => hF.out.f4 (by simpa using h), fun h => hF.out.f5 (by simpa using h), fun h => hF.out.f6 (by simpa using h), fun h => hF.out.f7 (by simpa using h), fun h => hF.out.f8 (by simpa using h), fun h => hF.out.f9 (by simpa using h), fun h => hF.out.f10 (by simpa using h), fun h => hF.out.f11 (by simpa using h), fun h => hF.out.f12 (by simpa using h), fun _ => rfl, hF.out.below, hF.out.size, hF.out.keep, fun h => hF.out.q0 (by simpa using h), fun h h2 => hF.out.q1 (by simpa using h) (by simpa using h2), fun h => hF.out.q2 (by simpa using h), fun h => by simpa using hF.out.g12 (by simpa using h)⟩
    · intro d a W hI hall
      obtain ⟨x6, x25, x26, x27, x28, x29, x30, x31, x32, x33, x34, x35, x36, x37, rfl, hF⟩ := hI
      simp only [List.length_cons, List.length_nil] at hall
      obtain rfl := hF.out.f0 (hall 0 (by omega))
      obtain rfl := hF.out.f1 (hall 1 (by omega))
      obtain rfl := hF.out.f2 (hall 2 (by omega))
      obtain rfl := hF.out.f3 (hall 3 (by omega))
      obtain rfl := hF.out.f4 (hall 4 (by omega))
      obtain rfl := hF.out.f5 (hall 5 (by omega))
      obtain rfl := hF.out.f6 (hall 6 (by omega))
      obtain rfl := hF.out.f7 (hall 7 (by omega))
      obtain rfl := hF.out.f8 (hall 8 (by omega))
      obtain rfl := hF.out.f9 (hall 9 (by omega))
      obtain rfl := hF.out.f10 (hall 10 (by omega))
      obtain rfl := hF.out.f11 (hall 11 (by omega))
      obtain rfl := hF.out.f12 (hall 12 (by omega))
      obtain rfl := hF.out.f13 (hall 13 (by omega))
      have HF : Hid (Below B wr W ∧ Keep3 wr W ∧ Pl B pp f e (lay (.cat x y) ps nx).1 W) := ⟨hF.out.below, hF.out.keep, hF.out.q2 (hall 12 (by omega))⟩
      clear hF hall
      simp only [Act.put, List.setIfInBounds_toArray, List.set_cons_zero, List.set_cons_succ]
      go_wp2_with fail
      go_meet
      case rel => exact ⟨rfl, HF⟩
  case rest =>
    obtain ⟨rfl, HX⟩ := hcut
    go_wp2_with fail
    go_ret
    exact ⟨by rw [HV2.out]; rfl, HX.out.2.2, (hb0.mono hBw).trans HX.out.1, ((Keep3.refl w).below hb0).trans HX.out.2.1⟩
end Go.Proofs.Ytgdaegmmapljgaa
