/-
  The contract of the walk's come.
-/
import Derived.Test.YtlgcggfenljdnaaApLow
import Derived.Test.YtlgcggfenljdnaaTails
import Derived.Deep.AppendLies
namespace Go.Proofs.Ytlgcggfenljdnaa
open Go.RowKit
open Dfa

theorem cell_other {w : World} {a : Addr} {b j : Nat} (u : Value) (h : b ≠ a.block) : (w.setCell a u).cell? ⟨b, j, none⟩ = w.cell? ⟨b, j, none⟩ := by
  simp [World.cell?, Below.heap_setCell w a u b h]
theorem row_box {w : World} {g : Nat} {u v : Value} (h : w.rowIs g 74 2 (fun i => if i = 0 then u else v)) (u' : Value) : (w.setCell ⟨g, 0, none⟩ u').rowIs g 74 2 (fun i => if i = 0 then u' else v) :=
  (h.set 0 u').congr fun i hi => by
    have : i = 0 ∨ i = 1 := by omega
    rcases this with rfl | rfl <;> simp
theorem info76 : (Try.prog.info? 76).map (fun i => (i.zero, i.size, i.bytes)) = some (some (.agg #[.int .i16 0, .int .i16 0, .int .i64 0, .int .u8 0]), 4, 24) := by kernel_rfl
/-- All that is not the walk's stays. -/
structure Mv (G n : Nat) (own : Option Nat) (W W' : World) : Prop where
  os : W'.os = W.os
  tape : W'.tape = W.tape
  output : W'.output = W.output
  size : W.heap.size ≤ W'.heap.size
  blk : ∀ k, k < W.heap.size → (k < G ∨ G + 3 + n ≤ k) → own ≠ some k → W'.heap[k]? = W.heap[k]?
theorem Mv.refl (G n : Nat) (own : Option Nat) (W : World) : Mv G n own W W := ⟨rfl, rfl, rfl, Nat.le_refl _, fun _ _ _ _ => rfl⟩
theorem Mv.below {G n : Nat} {own : Option Nat} {W W' W'' : World} (h : Mv G n own W W') (hb : Below W'.heap.size W' W'') : Mv G n own W W'' :=
  ⟨hb.os.trans h.os, hb.tape.trans h.tape, hb.output.trans h.output, Nat.le_trans h.size hb.size, fun k h1 h2 h3 => (hb.block k (Nat.lt_of_lt_of_le h1 h.size)).trans (h.blk k h1 h2 h3)⟩
theorem Mv.grown {G n : Nat} {own : Option Nat} {W W' W'' : World} (h : Mv G n own W W') (hb : W'.grownBy W'' own) : Mv G n own W W'' :=
  ⟨hb.os.trans h.os, hb.tape.trans h.tape, hb.output.trans h.output, Nat.le_trans h.size hb.size, fun k h1 h2 h3 => (hb.block k (Nat.lt_of_lt_of_le h1 h.size) (fun e => h3 e.symm)).trans (h.blk k h1 h2 h3)⟩
theorem Mv.set {G n : Nat} {own : Option Nat} {W W' : World} (h : Mv G n own W W') (a : Addr) (ha : G ≤ a.block ∧ a.block < G + 3 + n) (u : Value) : Mv G n own W (W'.setCell a u) :=
  ⟨h.os, h.tape, h.output, by simp only [World.setCell, Array.size_modify]; exact h.size, fun k h1 h2 h3 => (Below.heap_setCell _ _ _ _ (by omega)).trans (h.blk k h1 h2 h3)⟩
theorem Mv.box {G n : Nat} {own : Option Nat} {W W' : World} (h : Mv G n own W W') (j : Nat) (u : Value) : Mv G n own W (W'.setCell ⟨G + 1, j, none⟩ u) := h.set _ ⟨by simp, by simp; omega⟩ u
theorem Mv.to {G n : Nat} {own : Option Nat} {W W' : World} (h : Mv G n own W W') (ho : ∀ k, own = some k → G ≤ k) (hG : G ≤ W.heap.size) : Below G W W' :=
  ⟨h.os, h.tape, h.output, h.size, fun k hk => h.blk k (by omega) (Or.inl hk) (fun e => by have := ho k e; omega)⟩
theorem Mv.trans {G n : Nat} {own : Option Nat} {W W' W'' : World} (h : Mv G n own W W') (hb : Mv G n own W' W'') : Mv G n own W W'' :=
  ⟨hb.os.trans h.os, hb.tape.trans h.tape, hb.output.trans h.output, Nat.le_trans h.size hb.size, fun k h1 h2 h3 => (hb.blk k (Nat.lt_of_lt_of_le h1 h.size) h2 h3).trans (h.blk k h1 h2 h3)⟩
/-- All but the walk's own box and its stops stays. -/
structure Mb (G : Nat) (own : Option Nat) (W W' : World) : Prop where
  os : W'.os = W.os
  tape : W'.tape = W.tape
  output : W'.output = W.output
  size : W.heap.size ≤ W'.heap.size
  blk : ∀ k, k < W.heap.size → k ≠ G + 1 → own ≠ some k → W'.heap[k]? = W.heap[k]?
theorem Mb.below {G : Nat} {own : Option Nat} {W W' W'' : World} (h : Mb G own W W') (hb : Below W'.heap.size W' W'') : Mb G own W W'' :=
  ⟨hb.os.trans h.os, hb.tape.trans h.tape, hb.output.trans h.output, Nat.le_trans h.size hb.size, fun k h1 h2 h3 => (hb.block k (Nat.lt_of_lt_of_le h1 h.size)).trans (h.blk k h1 h2 h3)⟩
theorem Mb.grown {G : Nat} {own : Option Nat} {W W' W'' : World} (h : Mb G own W W') (hb : W'.grownBy W'' own) : Mb G own W W'' :=
  ⟨hb.os.trans h.os, hb.tape.trans h.tape, hb.output.trans h.output, Nat.le_trans h.size hb.size, fun k h1 h2 h3 => (hb.block k (Nat.lt_of_lt_of_le h1 h.size) (fun e => h3 e.symm)).trans (h.blk k h1 h2 h3)⟩
theorem Mb.box {G : Nat} {own : Option Nat} {W W' : World} (h : Mb G own W W') (j : Nat) (u : Value) : Mb G own W (W'.setCell ⟨G + 1, j, none⟩ u) :=
  ⟨h.os, h.tape, h.output, by simp only [World.setCell, Array.size_modify]; exact h.size, fun k h1 h2 h3 => (Below.heap_setCell _ _ _ _ (by simpa using h2)).trans (h.blk k h1 h2 h3)⟩
theorem Mb.mv {G n : Nat} {own : Option Nat} {W W' : World} (h : Mb G own W W') : Mv G n own W W' := ⟨h.os, h.tape, h.output, h.size, fun k h1 h2 h3 => h.blk k h1 (by omega) h3⟩
variable {RA RB : Nat → Nat → Int} {G n m : Nat} {F : Nat → Nat → Bool} {Q : List S} {sv : Value} {W W' : World}
def upd (F : Nat → Nat → Bool) (i j : Nat) : Nat → Nat → Bool := fun x y => if x = i ∧ y = j then true else F x y
/-- A place of the table is marked. -/
theorem Wk.mark (h : Wk RA RB G n m F Q sv W) (p q : Nat) (hp : p < n + 1) : Wk RA RB G n m (upd F p q) Q sv (W.setCell ⟨G + 2 + p, q, none⟩ (.bool true)) := by
  have e : ∀ k, k ≠ G + 2 + p → (W.setCell ⟨G + 2 + p, q, none⟩ (.bool true)).heap[k]? = W.heap[k]? := fun k hk => Below.heap_setCell _ _ _ _ hk
  refine ⟨h.top.of_block (e _ (by omega)), fun i hi => ?_, h.box.of_block (e _ (by omega)), own_same h.own fun k hk => e k (by have := (h.own.lt k hk).1; omega)⟩
  by_cases ei : i = p
  · subst ei
    refine ((h.rows i hi).set q (.bool true)).congr fun j hj => ?_
    unfold upd
    by_cases ej : j = q
    · simp [ej]
    · simp [ej]
  · have := (h.rows i hi).of_block (e (G + 2 + i) (by omega))
    refine this.congr fun j hj => ?_
    unfold upd
    simp [ei]
structure RC3 (w w1 : World) (RA RB : Nat → Nat → Int) (G n m : Nat) (F : Nat → Nat → Bool) (Q : List S) (sv : Value) (x y : Int) (fr by_ : Nat) (gb : Nat) (gr : Nat) (cr : Nat) (d : Nat → Bool) (x32 x33 x34 x35 x36 x37 x38 x39 x40 x41 : Value) (W : World) : Prop where
  f0 : d 0 = true → x32 = (.pointer (some ⟨G + 1, 0, none⟩))
  f1 : d 1 = true → x33 = (.pointer (some ⟨G + 1, 0, none⟩))
  f2 : d 2 = true → x34 = (.pointer (some ⟨G + 1, 0, none⟩))
  f3 : d 3 = true → x35 = (.pointer (some ⟨G + 1, 0, none⟩))
  f4 : d 4 = true → sv = x36
  f5 : d 5 = true → x37 = (.agg #[.int .i16 x, .int .i16 y, .int .i64 (fr : Int), .int .u8 (by_ : Int)])
  f6 : d 6 = true → x38 = (.slice (some ⟨gb, 0, none⟩) 1 1)
  f7 : d 7 = true → x39 = (.slice (some ⟨gr, 0, none⟩) (Q.length + 1) cr)
  f8 : d 8 = true → x40 = (.pointer (some ⟨G + 1, 0, none⟩))
  f9 : d 9 = true → x41 = (.pointer (some ⟨G + 1, 0, none⟩))
  f10 : d 10 = true → True
  o74 : d 7 = true → d 4 = true
  o76 : d 7 = true → d 6 = true
  p7 : d 10 = true → d 7 = true
  sz : w1.heap.size ≤ W.heap.size ∧ G + 3 + n ≤ w1.heap.size
  st : W.cell? ⟨w.heap.size, 0, none⟩ = some (.int .i16 x) ∧ W.cell? ⟨w.heap.size, 1, none⟩ = some (.int .i16 y) ∧ W.cell? ⟨w.heap.size, 2, none⟩ = some (.int .i64 (fr : Int)) ∧ W.cell? ⟨w.heap.size, 3, none⟩ = some (.int .u8 (by_ : Int))
  mv : Mb G sv.ownBlock w1 W
  ow : d 7 = false → W.ownsRow (G + 3 + n) 76 4 sv Q.length (scs RA RB Q)
  nw : d 7 = true → W.ownsRow (G + 3 + n) 76 4 (.slice (some ⟨gr, 0, none⟩) (Q.length + 1) cr) (Q.length + 1) (scs RA RB Q ++ [.int .i16 x, .int .i16 y, .int .i64 (fr : Int), .int .u8 (by_ : Int)]) ∧ (sv.ownBlock = some gr ∨ w1.heap.size ≤ gr)
  bs : d 6 = true → d 7 = false → ∀ j u, [.int .i16 x, .int .i16 y, .int .i64 (fr : Int), .int .u8 (by_ : Int)][j]? = some u → W.cell? ⟨gb, j, none⟩ = some u
  bx : d 10 = false → W.rowIs (G + 1) 74 2 (fun i => if i = 0 then sv else .slice (some ⟨G, 0, none⟩) (n + 1) (n + 1))
  by2 : d 10 = true → W.rowIs (G + 1) 74 2 (fun i => if i = 0 then .slice (some ⟨gr, 0, none⟩) (Q.length + 1) cr else .slice (some ⟨G, 0, none⟩) (n + 1) (n + 1))

set_option maxHeartbeats 8000000 in
set_option maxRecDepth 20000 in
theorem come_any (x y : Int) (fr by_ : Nat) (wd : List UInt8) (w : World) (h : Wk RA RB G n m F Q sv w) (hxy : pr RA RB wd = (x, y)) (hx : At n x) (hy : At m y) (hn : n ≤ 200) (hm : m ≤ 200) (hQ : Q.length ≤ 50000) :
    Calls Try.prog 40 #[.pointer (some ⟨G + 1, 0, none⟩), (.agg #[.int .i16 x, .int .i16 y, .int .i64 (fr : Int), .int .u8 (by_ : Int)])] w fun e w' => e = .returned (.tuple #[]) ∧ Mv G n sv.ownBlock w w' ∧
      ((F (x + 1).toNat (y + 1).toNat = true ∧ Wk RA RB G n m F Q sv w') ∨ (F (x + 1).toNat (y + 1).toNat = false ∧ ∃ sv', Wk RA RB G n m (upd F (x + 1).toNat (y + 1).toNat) (Q ++ [⟨wd, fr, by_⟩]) sv' w' ∧ (sv'.ownBlock = sv.ownBlock ∨ ∃ q, sv'.ownBlock = some q ∧ w.heap.size ≤ q))) := by
  obtain ⟨hx1, hx2⟩ := hx
  obtain ⟨hy1, hy2⟩ := hy
  obtain ⟨p, hp⟩ : ∃ p : Nat, (p : Int) = x + 1 := ⟨(x + 1).toNat, by omega⟩
  obtain ⟨q, hq⟩ : ∃ q : Nat, (q : Int) = y + 1 := ⟨(y + 1).toNat, by omega⟩
  have ep : (x + 1).toNat = p := by omega
  have eq : (y + 1).toNat = q := by omega
  rw [ep, eq]
  have hpn : p < n + 1 := by omega
  have hqm : q < m + 1 := by omega
  have HXW : Hid (IntKind.i16.wrap (x + 1) = (p : Int) ∧ IntKind.i16.wrap (y + 1) = (q : Int)) := ⟨by rw [hp]; exact wrap16 (by omega), by rw [hq]; exact wrap16 (by omega)⟩
  have HPR : Hid (pr RA RB wd = (x, y)) := hxy
  have HQ : Hid (Q.length ≤ 50000) := hQ
  have HWB : Hid (Wk RA RB G n m F Q sv (w.alloc (Obj.cells #[.int .i16 x, .int .i16 y, .int .i64 (fr : Int), .int .u8 (by_ : Int)] 76))) := h.below ((Below.refl _ _).alloc (Nat.le_refl _) _)
  have HGS : Hid (G + 3 + n ≤ w.heap.size) := by have := (h.rows n (by omega)).lt; show _ ≤ _; omega
  have HMW : Hid (Mv G n sv.ownBlock w (w.alloc (Obj.cells #[.int .i16 x, .int .i16 y, .int .i64 (fr : Int), .int .u8 (by_ : Int)] 76))) := (Mv.refl _ _ _ _).below ((Below.refl _ _).alloc (Nat.le_refl _) _)
  have HOB : Hid (∀ k, sv.ownBlock = some k → k < w.heap.size) := fun k hk => (h.own.lt k hk).2
  obtain ⟨i45, hi45, hz45, hs45, hb45⟩ := info_parts info76
  have H45 : Hid (Try.prog.info? 76 = some i45 ∧ i45.zero = some (.agg #[.int .i16 0, .int .i16 0, .int .i64 0, .int .u8 0]) ∧ i45.size = 4 ∧ i45.bytes = 24) := ⟨hi45, hz45, hs45, hb45⟩
  clear hi45 hz45 hs45 hb45 h hxy hQ
  have b1 := HWB.out.box.cell (i := 1) (by omega)
  rw [if_neg (by omega)] at b1
  have b2 := HWB.out.top.cell hpn
  have b3 := (HWB.out.rows p hpn).cell hqm
  have hp0 : (0 : Int) ≤ (p : Int) := by omega
  have hp1 : (p : Int) < ((n + 1 : Nat) : Int) := by omega
  have hq0 : (0 : Int) ≤ (q : Int) := by omega
  have hq1 : (q : Int) < ((m + 1 : Nat) : Int) := by omega
  have hp2 : (p : Int) < (n : Int) + 1 := by omega
  have hq2 : (q : Int) < (m : Int) + 1 := by omega
  have HPQ : Hid ((p : Int) = x + 1 ∧ (q : Int) = y + 1) := ⟨hp, hq⟩
  obtain ⟨f, HF⟩ : ∃ f, Hid (F p q = f) := ⟨_, (rfl : F p q = F p q)⟩
  rw [HF.out] at b3
  obtain ⟨hxw, hyw⟩ := HXW.out
  clear hp hq ep eq
  go_enter Try.func40, Try.ntmps40
  cases f
  case true =>
    go_wp2_with (go_quiet (fail))
    refine bodyPost_end (v := .tuple #[]) (by simp [results, Try.results40, go_sem]) rfl ?_
    exact ⟨rfl, HMW.out.below (below_drewN (Below.refl _ _) _), Or.inl ⟨HF.out, HWB.out.below (below_drewN (Below.refl _ _) _)⟩⟩
  case false =>
    go_wp2_with (go_quiet (fail))
    obtain ⟨wr, HWR⟩ : ∃ wr, Hid ((w.alloc (Obj.cells #[.int .i16 x, .int .i16 y, .int .i64 (fr : Int), .int .u8 (by_ : Int)] 76)).drewN nq = wr) := ⟨_, (rfl : _ = _)⟩
    have HWK : Hid (Wk RA RB G n m F Q sv wr) := by rw [← HWR.out]; exact HWB.out.below (below_drewN (Below.refl _ _) _)
    have HMR : Hid (Mv G n sv.ownBlock w wr) := by rw [← HWR.out]; exact HMW.out.below (below_drewN (Below.refl _ _) _)
    have HST : Hid (wr.cell? ⟨w.heap.size, 0, none⟩ = some (.int .i16 x) ∧ wr.cell? ⟨w.heap.size, 1, none⟩ = some (.int .i16 y) ∧ wr.cell? ⟨w.heap.size, 2, none⟩ = some (.int .i64 (fr : Int)) ∧ wr.cell? ⟨w.heap.size, 3, none⟩ = some (.int .u8 (by_ : Int))) := by
      show _ ∧ _
      rw [← HWR.out]; simp
    have HSZ : Hid (w.heap.size + 1 ≤ wr.heap.size) := by show _ ≤ _; rw [← HWR.out]; simp
    rw [HWR.out]
    clear b1 b2 b3 HWB HMW HWR
    have d1 : ∀ p : Kp (Sm wr), p.W.cell? ⟨G + 1, 1, none⟩ = some (.slice (some ⟨G, 0, none⟩) (n + 1) (n + 1)) := fun k => (k.h.cell _).trans (by have := HWK.out.box.cell (i := 1) (by omega); rwa [if_neg (by omega)] at this)
    have d2 : ∀ k : Kp (Sm wr), k.W.cell? ⟨G, p, none⟩ = some (.slice (some ⟨G + 2 + p, 0, none⟩) (m + 1) (m + 1)) := fun k => (k.h.cell _).trans (HWK.out.top.cell hpn)
    have d3 : ∀ p : Kp (Sm wr), p.W.cell? ⟨w.heap.size, 0, none⟩ = some (.int .i16 x) := fun k => (k.h.cell _).trans HST.out.1
    have d4 : ∀ p : Kp (Sm wr), p.W.cell? ⟨w.heap.size, 1, none⟩ = some (.int .i16 y) := fun k => (k.h.cell _).trans HST.out.2.1
    have hne : Nonempty (Kp (Sm wr)) := ⟨⟨_, Sm.drew wr⟩⟩
    refine wp_region_tail [_, _, _, _, _, _, _, _, _, _, _, _, _] _ rfl mixed (by kernel_rfl) (Sm.drew wr) ?_
    simp only [List.cons_append, List.nil_append]
    repeat (go_big_quiet_step (fail))
    refine wpQuiet_nil ?_
    intro k
    have HPW : Hid (Sm wr k.W) := k.h
    have f1 := (k.h.frozen ⟨G + 2 + p, q, none⟩).trans ((HWK.out.rows p hpn).frozen q)
    have d5 := (k.h.cell ⟨G + 2 + p, q, none⟩).trans ((HWK.out.rows p hpn).cell hqm)
    generalize k.W = W6 at HPW f1 d5 ⊢
    clear k d1 d2 d3 d4 hne
    go_simp
    have HW6 : Hid (Wk RA RB G n m F Q sv W6) := HWK.out.same fun k _ => by rw [HPW.out.heap]
    have HM6 : Hid (Mv G n sv.ownBlock w (W6.setCell ⟨G + 2 + p, q, none⟩ (.bool true))) := (HMR.out.below (HPW.out.below _)).set _ ⟨by simp; omega, by simp; omega⟩ _
    have HW7 : Hid (Wk RA RB G n m (upd F p q) Q sv (W6.setCell ⟨G + 2 + p, q, none⟩ (.bool true))) := HW6.out.mark p q hpn
    have HGS' := HGS.out
    have HS7 : Hid ((W6.setCell ⟨G + 2 + p, q, none⟩ (.bool true)).cell? ⟨w.heap.size, 0, none⟩ = some (.int .i16 x) ∧ (W6.setCell ⟨G + 2 + p, q, none⟩ (.bool true)).cell? ⟨w.heap.size, 1, none⟩ = some (.int .i16 y) ∧ (W6.setCell ⟨G + 2 + p, q, none⟩ (.bool true)).cell? ⟨w.heap.size, 2, none⟩ = some (.int .i64 (fr : Int)) ∧ (W6.setCell ⟨G + 2 + p, q, none⟩ (.bool true)).cell? ⟨w.heap.size, 3, none⟩ = some (.int .u8 (by_ : Int))) := by
      have e : ∀ j, (W6.setCell ⟨G + 2 + p, q, none⟩ (.bool true)).cell? ⟨w.heap.size, j, none⟩ = wr.cell? ⟨w.heap.size, j, none⟩ := fun j => (cell_other _ (by simp; omega)).trans (HPW.out.cell _)
      exact ⟨(e _).trans HST.out.1, (e _).trans HST.out.2.1, (e _).trans HST.out.2.2.1, (e _).trans HST.out.2.2.2⟩
    have HSZ7 : Hid (w.heap.size + 1 ≤ (W6.setCell ⟨G + 2 + p, q, none⟩ (.bool true)).heap.size) := by show _ ≤ _; simp only [World.setCell, Array.size_modify]; rw [HPW.out.heap]; exact HSZ.out
    obtain ⟨w1, HW1⟩ : ∃ w1, Hid (W6.setCell ⟨G + 2 + p, q, none⟩ (.bool true) = w1) := ⟨_, (rfl : _ = _)⟩
    rw [HW1.out] at HM6 HW7 HS7 HSZ7
    have HGB : Hid (some w.heap.size ≠ sv.ownBlock) := fun e => by have := HOB.out _ e.symm; omega
    have HGG : Hid (w.heap.size ≠ G + 1) := by show _ ≠ _; omega
    go_wp2_with fail
    rw [HW1.out]
    clear d5 f1 HW6 HMR HWK HST HSZ HPW HW1 HGS'
    refine wp_region_free mixed (fun a0 d a W => ∃ (gb : Nat) (gr : Nat) (cr : Nat) (x32 x33 x34 x35 x36 x37 x38 x39 x40 x41 : Value), a = ((((((((((a0.put (some 32) x32).put (some 33) x33).put (some 34) x34).put (some 35) x35).put (some 36) x36).put (some 37) x37).put (some 38) x38).put (some 39) x39).put (some 40) x40).put (some 41) x41) ∧ Hid (RC3 w w1 RA RB G n m F Q sv x y fr by_ gb gr cr d x32 x33 x34 x35 x36 x37 x38 x39 x40 x41 W)) (by kernel_rfl) ⟨0, 0, 0, undef, undef, undef, undef, undef, undef, undef, undef, undef, undef, by simp only [Act.put, List.setIfInBounds_toArray, List.set_cons_zero, List.set_cons_succ], ?_⟩ ?_ ?_
    · exact ⟨fun h => no_way h, fun h => no_way h, fun h => no_way h, fun h => no_way h, fun h => no_way h, fun h => no_way h, fun h => no_way h, fun h => no_way h, fun h => no_way h, fun h => no_way h, fun _ => trivial, fun h => no_way h, fun h => no_way h, fun h => no_way h, ⟨Nat.le_refl _, by have := HSZ7.out; have := HGS.out; omega⟩, HS7.out, ⟨rfl, rfl, rfl, Nat.le_refl _, fun _ _ _ _ => rfl⟩, fun _ => own_same HW7.out.own fun _ _ => rfl, fun h => no_way h, fun h => no_way h, fun _ => HW7.out.box, fun h => no_way h⟩
    · simp only [StepAll, and_true]
      refine ⟨?_, ?_, ?_, ?_, ?_, ?_, ?_, ?_, ?_, ?_, ?_⟩
      · intro d a W hI hd hdep
        obtain ⟨gb, gr, cr, x32, x33, x34, x35, x36, x37, x38, x39, x40, x41, rfl, hF⟩ := hI
        clear hdep hd
        intro K hK
        simp only [Act.put, List.setIfInBounds_toArray, List.set_cons_zero, List.set_cons_succ]
        go_simp
        refine hK.out _ _ ⟨gb, gr, cr, (.pointer (some ⟨G + 1, 0, none⟩)), x33, x34, x35, x36, x37, x38, x39, x40, x41, by simp only [Act.put, List.setIfInBounds_toArray, List.set_cons_zero, List.set_cons_succ], ?_⟩
        exact ⟨fun _ => rfl, fun h => hF.out.f1 (by simpa using h), fun h => hF.out.f2 (by simpa using h), fun h => hF.out.f3 (by simpa using h), fun h => hF.out.f4 (by simpa using h), fun h => hF.out.f5 (by simpa using h), fun h => hF.out.f6 (by simpa using h), fun h => hF.out.f7 (by simpa using h), fun h => hF.out.f8 (by simpa using h), fun h => hF.out.f9 (by simpa using h), fun h => hF.out.f10 (by simpa using h), fun h => by have := hF.out.o74 (by simpa using h); simpa using this, fun h => by have := hF.out.o76 (by simpa using h); simpa using this, fun h => by have := hF.out.p7 (by simpa using h); simpa using this, hF.out.sz, hF.out.st, hF.out.mv, fun h => hF.out.ow (by simpa using h), fun h => hF.out.nw (by simpa using h), fun h h2 => hF.out.bs (by simpa using h) (by simpa using h2), fun h => hF.out.bx (by simpa using h), fun h => hF.out.by2 (by simpa using h)⟩
      · intro d a W hI hd hdep
        obtain ⟨gb, gr, cr, x32, x33, x34, x35, x36, x37, x38, x39, x40, x41, rfl, hF⟩ := hI
        clear hdep hd
        intro K hK
        simp only [Act.put, List.setIfInBounds_toArray, List.set_cons_zero, List.set_cons_succ]
        go_simp
        refine hK.out _ _ ⟨gb, gr, cr, x32, (.pointer (some ⟨G + 1, 0, none⟩)), x34, x35, x36, x37, x38, x39, x40, x41, by simp only [Act.put, List.setIfInBounds_toArray, List.set_cons_zero, List.set_cons_succ], ?_⟩
        exact ⟨fun h => hF.out.f0 (by simpa using h), fun _ => rfl, fun h => hF.out.f2 (by simpa using h), fun h => hF.out.f3 (by simpa using h), fun h => hF.out.f4 (by simpa using h), fun h => hF.out.f5 (by simpa using h), fun h => hF.out.f6 (by simpa using h), fun h => hF.out.f7 (by simpa using h), fun h => hF.out.f8 (by simpa using h), fun h => hF.out.f9 (by simpa using h), fun h => hF.out.f10 (by simpa using h), fun h => by have := hF.out.o74 (by simpa using h); simpa using this, fun h => by have := hF.out.o76 (by simpa using h); simpa using this, fun h => by have := hF.out.p7 (by simpa using h); simpa using this, hF.out.sz, hF.out.st, hF.out.mv, fun h => hF.out.ow (by simpa using h), fun h => hF.out.nw (by simpa using h), fun h h2 => hF.out.bs (by simpa using h) (by simpa using h2), fun h => hF.out.bx (by simpa using h), fun h => hF.out.by2 (by simpa using h)⟩
      · intro d a W hI hd hdep
        obtain ⟨gb, gr, cr, x32, x33, x34, x35, x36, x37, x38, x39, x40, x41, rfl, hF⟩ := hI
        have hd1 : d 1 = true := dep_of hdep 1 (by kernel_rfl)
        obtain rfl := hF.out.f1 hd1
        clear hdep hd hd1
        intro K hK
        simp only [Act.put, List.setIfInBounds_toArray, List.set_cons_zero, List.set_cons_succ]
        go_simp
        refine hK.out _ _ ⟨gb, gr, cr, x32, (.pointer (some ⟨G + 1, 0, none⟩)), (.pointer (some ⟨G + 1, 0, none⟩)), x35, x36, x37, x38, x39, x40, x41, by simp only [Act.put, List.setIfInBounds_toArray, List.set_cons_zero, List.set_cons_succ], ?_⟩
        exact ⟨fun h => hF.out.f0 (by simpa using h), fun h => hF.out.f1 (by simpa using h), fun _ => rfl, fun h => hF.out.f3 (by simpa using h), fun h => hF.out.f4 (by simpa using h), fun h => hF.out.f5 (by simpa using h), fun h => hF.out.f6 (by simpa using h), fun h => hF.out.f7 (by simpa using h), fun h => hF.out.f8 (by simpa using h), fun h => hF.out.f9 (by simpa using h), fun h => hF.out.f10 (by simpa using h), fun h => by have := hF.out.o74 (by simpa using h); simpa using this, fun h => by have := hF.out.o76 (by simpa using h); simpa using this, fun h => by have := hF.out.p7 (by simpa using h); simpa using this, hF.out.sz, hF.out.st, hF.out.mv, fun h => hF.out.ow (by simpa using h), fun h => hF.out.nw (by simpa using h), fun h h2 => hF.out.bs (by simpa using h) (by simpa using h2), fun h => hF.out.bx (by simpa using h), fun h => hF.out.by2 (by simpa using h)⟩
      · intro d a W hI hd hdep
        obtain ⟨gb, gr, cr, x32, x33, x34, x35, x36, x37, x38, x39, x40, x41, rfl, hF⟩ := hI
        have hd2 : d 2 = true := dep_of hdep 2 (by kernel_rfl)
        obtain rfl := hF.out.f2 hd2
        clear hdep hd hd2
        intro K hK
        simp only [Act.put, List.setIfInBounds_toArray, List.set_cons_zero, List.set_cons_succ]
        go_simp
        refine hK.out _ _ ⟨gb, gr, cr, x32, x33, (.pointer (some ⟨G + 1, 0, none⟩)), (.pointer (some ⟨G + 1, 0, none⟩)), x36, x37, x38, x39, x40, x41, by simp only [Act.put, List.setIfInBounds_toArray, List.set_cons_zero, List.set_cons_succ], ?_⟩
        exact ⟨fun h => hF.out.f0 (by simpa using h), fun h => hF.out.f1 (by simpa using h), fun h => hF.out.f2 (by simpa using h), fun _ => rfl, fun h => hF.out.f4 (by simpa using h), fun h => hF.out.f5 (by simpa using h), fun h => hF.out.f6 (by simpa using h), fun h => hF.out.f7 (by simpa using h), fun h => hF.out.f8 (by simpa using h), fun h => hF.out.f9 (by simpa using h), fun h => hF.out.f10 (by simpa using h), fun h => by have := hF.out.o74 (by simpa using h); simpa using this, fun h => by have := hF.out.o76 (by simpa using h); simpa using this, fun h => by have := hF.out.p7 (by simpa using h); simpa using this, hF.out.sz, hF.out.st, hF.out.mv, fun h => hF.out.ow (by simpa using h), fun h => hF.out.nw (by simpa using h), fun h h2 => hF.out.bs (by simpa using h) (by simpa using h2), fun h => hF.out.bx (by simpa using h), fun h => hF.out.by2 (by simpa using h)⟩
      · intro d a W hI hd hdep
        obtain ⟨gb, gr, cr, x32, x33, x34, x35, x36, x37, x38, x39, x40, x41, rfl, hF⟩ := hI
        have hd3 : d 3 = true := dep_of hdep 3 (by kernel_rfl)
        obtain rfl := hF.out.f3 hd3
        have hn7 := no_later hF.out.o74 hd
        have y0 := (hF.out.bx (no_later hF.out.p7 hn7)).cell (i := 0) (by omega)
        simp only [if_true] at y0
        clear hn7
        clear hdep hd hd3
        intro K hK
        simp only [Act.put, List.setIfInBounds_toArray, List.set_cons_zero, List.set_cons_succ]
        go_simp
        refine hK.out _ _ ⟨gb, gr, cr, x32, x33, x34, (.pointer (some ⟨G + 1, 0, none⟩)), sv, x37, x38, x39, x40, x41, by simp only [Act.put, List.setIfInBounds_toArray, List.set_cons_zero, List.set_cons_succ], ?_⟩
        exact ⟨fun h => hF.out.f0 (by simpa using h), fun h => hF.out.f1 (by simpa using h), fun h => hF.out.f2 (by simpa using h), fun h => hF.out.f3 (by simpa using h), fun _ => rfl, fun h => hF.out.f5 (by simpa using h), fun h => hF.out.f6 (by simpa using h), fun h => hF.out.f7 (by simpa using h), fun h => hF.out.f8 (by simpa using h), fun h => hF.out.f9 (by simpa using h), fun h => hF.out.f10 (by simpa using h), fun _ => by simp, fun h => by have := hF.out.o76 (by simpa using h); simpa using this, fun h => by have := hF.out.p7 (by simpa using h); simpa using this, hF.out.sz, hF.out.st, hF.out.mv, fun h => hF.out.ow (by simpa using h), fun h => hF.out.nw (by simpa using h), fun h h2 => hF.out.bs (by simpa using h) (by simpa using h2), fun h => hF.out.bx (by simpa using h), fun h => hF.out.by2 (by simpa using h)⟩
      · intro d a W hI hd hdep
        obtain ⟨gb, gr, cr, x32, x33, x34, x35, x36, x37, x38, x39, x40, x41, rfl, hF⟩ := hI
        obtain ⟨y0, y1, y2, y3⟩ := hF.out.st
        clear hdep hd
        intro K hK
        simp only [Act.put, List.setIfInBounds_toArray, List.set_cons_zero, List.set_cons_succ]
        go_simp
        refine hK.out _ _ ⟨gb, gr, cr, x32, x33, x34, x35, x36, (.agg #[.int .i16 x, .int .i16 y, .int .i64 (fr : Int), .int .u8 (by_ : Int)]), x38, x39, x40, x41, by simp only [Act.put, List.setIfInBounds_toArray, List.set_cons_zero, List.set_cons_succ], ?_⟩
        exact ⟨fun h => hF.out.f0 (by simpa using h), fun h => hF.out.f1 (by simpa using h), fun h => hF.out.f2 (by simpa using h), fun h => hF.out.f3 (by simpa using h), fun h => hF.out.f4 (by simpa using h), fun _ => rfl, fun h => hF.out.f6 (by simpa using h), fun h => hF.out.f7 (by simpa using h), fun h => hF.out.f8 (by simpa using h), fun h => hF.out.f9 (by simpa using h), fun h => hF.out.f10 (by simpa using h), fun h => by have := hF.out.o74 (by simpa using h); simpa using this, fun h => by have := hF.out.o76 (by simpa using h); simpa using this, fun h => by have := hF.out.p7 (by simpa using h); simpa using this, hF.out.sz, hF.out.st, hF.out.mv, fun h => hF.out.ow (by simpa using h), fun h => hF.out.nw (by simpa using h), fun h h2 => hF.out.bs (by simpa using h) (by simpa using h2), fun h => hF.out.bx (by simpa using h), fun h => hF.out.by2 (by simpa using h)⟩
      · intro d a W hI hd hdep
        obtain ⟨gb, gr, cr, x32, x33, x34, x35, x36, x37, x38, x39, x40, x41, rfl, hF⟩ := hI
        have hd5 : d 5 = true := dep_of hdep 5 (by kernel_rfl)
        obtain rfl := hF.out.f5 hd5
        have hn7 := no_later hF.out.o76 hd
        have HN7 : Hid (d 7 = false) := hn7
        have HN10 : Hid (d 10 = false) := no_later hF.out.p7 hn7
        clear hn7
        clear hdep hd hd5
        intro K hK
        simp only [Act.put, List.setIfInBounds_toArray, List.set_cons_zero, List.set_cons_succ]
        go_simp
        refine hK.out _ _ ⟨W.heap.size, gr, cr, x32, x33, x34, x35, x36, (.agg #[.int .i16 x, .int .i16 y, .int .i64 (fr : Int), .int .u8 (by_ : Int)]), (.slice (some ⟨W.heap.size, 0, none⟩) 1 1), x39, x40, x41, by simp only [Act.put, List.setIfInBounds_toArray, List.set_cons_zero, List.set_cons_succ], ?_⟩
        have B1 := (Below.refl W.heap.size W).alloc (Nat.le_refl _) (Obj.cells #[.int .i16 x, .int .i16 y, .int .i64 (fr : Int), .int .u8 (by_ : Int)] 76)
        exact ⟨fun h => hF.out.f0 (by simpa using h), fun h => hF.out.f1 (by simpa using h), fun h => hF.out.f2 (by simpa using h), fun h => hF.out.f3 (by simpa using h), fun h => hF.out.f4 (by simpa using h), fun h => hF.out.f5 (by simpa using h), fun _ => rfl, fun h => hF.out.f7 (by simpa using h), fun h => hF.out.f8 (by simpa using h), fun h => hF.out.f9 (by simpa using h), fun h => hF.out.f10 (by simpa using h), fun h => by have := hF.out.o74 (by simpa using h); simpa using this, fun _ => by simp, fun h => by have := hF.out.p7 (by simpa using h); simpa using this, ⟨Nat.le_trans hF.out.sz.1 B1.size, hF.out.sz.2⟩, ⟨Go.Lib.cell?_alloc_some _ hF.out.st.1, Go.Lib.cell?_alloc_some _ hF.out.st.2.1, Go.Lib.cell?_alloc_some _ hF.out.st.2.2.1, Go.Lib.cell?_alloc_some _ hF.out.st.2.2.2⟩, hF.out.mv.below B1, fun _ => own_same (hF.out.ow HN7.out) fun k hk => B1.block k ((hF.out.ow HN7.out).lt k hk).2, fun h => by have := HN7.out; simp [this] at h, fun _ _ j u hj => by rw [show (Obj.cells #[Value.int .i16 x, .int .i16 y, .int .i64 (fr : Int), .int .u8 (by_ : Int)] 76) = Obj.cells ([.int .i16 x, .int .i16 y, .int .i64 (fr : Int), .int .u8 (by_ : Int)] : List Value).toArray 76 from rfl, cell_of_block]; exact hj, fun _ => (hF.out.bx HN10.out).of_block (B1.block _ (hF.out.bx HN10.out).lt), fun h => by have := HN10.out; simp [this] at h⟩
      · intro d a W hI hd hdep
        obtain ⟨gb, gr, cr, x32, x33, x34, x35, x36, x37, x38, x39, x40, x41, rfl, hF⟩ := hI
        have hd4 : d 4 = true := dep_of hdep 4 (by kernel_rfl)
        have hd6 : d 6 = true := dep_of hdep 6 (by kernel_rfl)
        obtain rfl := hF.out.f4 hd4
        obtain rfl := hF.out.f6 hd6
        have HN10 : Hid (d 10 = false) := no_later hF.out.p7 hd
        have hbk := hF.out.bs hd6 hd
        have hm := run_append_lies (P := Try.prog) W 71 71 (G + 3 + n) 76 i45 _ 4 24 Try.underlying71 H45.out.1 H45.out.2.1 H45.out.2.2.1 H45.out.2.2.2 rfl (by omega) sv Q.length (scs RA RB Q) (hF.out.ow hd) ⟨gb, 0, none⟩ 1 1 [.int .i16 x, .int .i16 y, .int .i64 (fr : Int), .int .u8 (by_ : Int)] rfl (fun j u hj => by rw [Addr.add_lit, Nat.zero_add]; exact hbk j u hj) (by intro u hu; simp at hu; rcases hu with rfl | rfl | rfl | rfl <;> rfl) (by omega) (by unfold maxLen; have := HQ.out; omega) (by have := HQ.out; omega) (by have := hF.out.sz; omega) W.heap.size rfl
        have hmm := hm.choose_spec.choose_spec.choose_spec
        generalize hm.choose_spec.choose_spec.choose = W1 at hmm
        generalize hm.choose_spec.choose = cr1 at hmm
        generalize hm.choose = gr1 at hmm
        have hrun := hmm.1
        have HM : Hid (W1.ownsRow (G + 3 + n) 76 4 (.slice (some ⟨gr1, 0, none⟩) (Q.length + 1) cr1) (Q.length + 1) (scs RA RB Q ++ [.int .i16 x, .int .i16 y, .int .i64 (fr : Int), .int .u8 (by_ : Int)]) ∧ W.grownBy W1 sv.ownBlock ∧ (sv.ownBlock = some gr1 ∨ gr1 = W.heap.size)) := ⟨hmm.2.1, hmm.2.2.1, hmm.2.2.2.1⟩
        have HOW : Hid (∀ k, sv.ownBlock = some k → G + 3 + n ≤ k) := fun k hk => ((hF.out.ow hd).lt k hk).1
        have hg4 := hd4
        have hg6 := hd6
        clear hmm hm hbk
        clear hdep hd hd4 hd6
        intro K hK
        refine step_call_append (sv := sv) (xv := .slice (some ⟨gb, 0, none⟩) 1 1) (v := .slice (some ⟨gr1, 0, none⟩) (Q.length + 1) cr1) (W1 := W1) (by rfl) _ _ 71 (by rfl) (by simp only [Act.put, List.setIfInBounds_toArray, List.set_cons_zero, List.set_cons_succ]; rfl) (by simp only [Act.put, List.setIfInBounds_toArray, List.set_cons_zero, List.set_cons_succ]; rfl) (by exact hrun) ?_
        simp only [Act.put, List.setIfInBounds_toArray, List.set_cons_zero, List.set_cons_succ]
        refine hK.out _ _ ⟨gb, gr1, cr1, x32, x33, x34, x35, sv, x37, (.slice (some ⟨gb, 0, none⟩) 1 1), (.slice (some ⟨gr1, 0, none⟩) (Q.length + 1) cr1), x40, x41, by simp only [Act.put, List.setIfInBounds_toArray, List.set_cons_zero, List.set_cons_succ], ?_⟩
        exact ⟨fun h => hF.out.f0 (by simpa using h), fun h => hF.out.f1 (by simpa using h), fun h => hF.out.f2 (by simpa using h), fun h => hF.out.f3 (by simpa using h), fun h => hF.out.f4 (by simpa using h), fun h => hF.out.f5 (by simpa using h), fun h => hF.out.f6 (by simpa using h), fun _ => rfl, fun h => hF.out.f8 (by simpa using h), fun h => hF.out.f9 (by simpa using h), fun h => hF.out.f10 (by simpa using h), fun _ => by simpa using hg4, fun _ => by simpa using hg6, fun _ => by simp, ⟨Nat.le_trans hF.out.sz.1 HM.out.2.1.size, hF.out.sz.2⟩, ⟨HM.out.2.1.cell hF.out.st.1 HGB.out, HM.out.2.1.cell hF.out.st.2.1 HGB.out, HM.out.2.1.cell hF.out.st.2.2.1 HGB.out, HM.out.2.1.cell hF.out.st.2.2.2 HGB.out⟩, hF.out.mv.grown HM.out.2.1, fun h => by simp at h, fun _ => ⟨HM.out.1, HM.out.2.2.imp id (fun e => by rw [e]; exact hF.out.sz.1)⟩, fun _ h => by simp at h, fun _ => (hF.out.bx HN10.out).of_block (HM.out.2.1.block _ (hF.out.bx HN10.out).lt (fun e => by have := HOW.out _ e.symm; omega)), fun h => by have := HN10.out; simp [this] at h⟩
      · intro d a W hI hd hdep
        obtain ⟨gb, gr, cr, x32, x33, x34, x35, x36, x37, x38, x39, x40, x41, rfl, hF⟩ := hI
        have hd0 : d 0 = true := dep_of hdep 0 (by kernel_rfl)
        obtain rfl := hF.out.f0 hd0
        clear hdep hd hd0
        intro K hK
        simp only [Act.put, List.setIfInBounds_toArray, List.set_cons_zero, List.set_cons_succ]
        go_simp
        refine hK.out _ _ ⟨gb, gr, cr, (.pointer (some ⟨G + 1, 0, none⟩)), x33, x34, x35, x36, x37, x38, x39, (.pointer (some ⟨G + 1, 0, none⟩)), x41, by simp only [Act.put, List.setIfInBounds_toArray, List.set_cons_zero, List.set_cons_succ], ?_⟩
        exact ⟨fun h => hF.out.f0 (by simpa using h), fun h => hF.out.f1 (by simpa using h), fun h => hF.out.f2 (by simpa using h), fun h => hF.out.f3 (by simpa using h), fun h => hF.out.f4 (by simpa using h), fun h => hF.out.f5 (by simpa using h), fun h => hF.out.f6 (by simpa using h), fun h => hF.out.f7 (by simpa using h), fun _ => rfl, fun h => hF.out.f9 (by simpa using h), fun h => hF.out.f10 (by simpa using h), fun h => by have := hF.out.o74 (by simpa using h); simpa using this, fun h => by have := hF.out.o76 (by simpa using h); simpa using this, fun h => by have := hF.out.p7 (by simpa using h); simpa using this, hF.out.sz, hF.out.st, hF.out.mv, fun h => hF.out.ow (by simpa using h), fun h => hF.out.nw (by simpa using h), fun h h2 => hF.out.bs (by simpa using h) (by simpa using h2), fun h => hF.out.bx (by simpa using h), fun h => hF.out.by2 (by simpa using h)⟩
      · intro d a W hI hd hdep
        obtain ⟨gb, gr, cr, x32, x33, x34, x35, x36, x37, x38, x39, x40, x41, rfl, hF⟩ := hI
        have hd8 : d 8 = true := dep_of hdep 8 (by kernel_rfl)
        obtain rfl := hF.out.f8 hd8
        clear hdep hd hd8
        intro K hK
        simp only [Act.put, List.setIfInBounds_toArray, List.set_cons_zero, List.set_cons_succ]
        go_simp
        refine hK.out _ _ ⟨gb, gr, cr, x32, x33, x34, x35, x36, x37, x38, x39, (.pointer (some ⟨G + 1, 0, none⟩)), (.pointer (some ⟨G + 1, 0, none⟩)), by simp only [Act.put, List.setIfInBounds_toArray, List.set_cons_zero, List.set_cons_succ], ?_⟩
        exact ⟨fun h => hF.out.f0 (by simpa using h), fun h => hF.out.f1 (by simpa using h), fun h => hF.out.f2 (by simpa using h), fun h => hF.out.f3 (by simpa using h), fun h => hF.out.f4 (by simpa using h), fun h => hF.out.f5 (by simpa using h), fun h => hF.out.f6 (by simpa using h), fun h => hF.out.f7 (by simpa using h), fun h => hF.out.f8 (by simpa using h), fun _ => rfl, fun h => hF.out.f10 (by simpa using h), fun h => by have := hF.out.o74 (by simpa using h); simpa using this, fun h => by have := hF.out.o76 (by simpa using h); simpa using this, fun h => by have := hF.out.p7 (by simpa using h); simpa using this, hF.out.sz, hF.out.st, hF.out.mv, fun h => hF.out.ow (by simpa using h), fun h => hF.out.nw (by simpa using h), fun h h2 => hF.out.bs (by simpa using h) (by simpa using h2), fun h => hF.out.bx (by simpa using h), fun h => hF.out.by2 (by simpa using h)⟩
      · intro d a W hI hd hdep
        obtain ⟨gb, gr, cr, x32, x33, x34, x35, x36, x37, x38, x39, x40, x41, rfl, hF⟩ := hI
        have hd9 : d 9 = true := dep_of hdep 9 (by kernel_rfl)
        have hd7 : d 7 = true := dep_of hdep 7 (by kernel_rfl)
        obtain rfl := hF.out.f9 hd9
        obtain rfl := hF.out.f7 hd7
        have hbx := hF.out.bx hd
        have HBX : Hid (W.rowIs (G + 1) 74 2 (fun i => if i = 0 then sv else .slice (some ⟨G, 0, none⟩) (n + 1) (n + 1))) := hbx
        have y0 := hbx.cell (i := 0) (by omega)
        have y1 := hbx.frozen 0
        simp only [if_true] at y0
        have hg7 := hd7
        clear hbx
        clear hdep hd hd9 hd7
        intro K hK
        simp only [Act.put, List.setIfInBounds_toArray, List.set_cons_zero, List.set_cons_succ]
        go_simp
        refine hK.out _ _ ⟨gb, gr, cr, x32, x33, x34, x35, x36, x37, x38, (.slice (some ⟨gr, 0, none⟩) (Q.length + 1) cr), x40, (.pointer (some ⟨G + 1, 0, none⟩)), by simp only [Act.put, List.setIfInBounds_toArray, List.set_cons_zero, List.set_cons_succ], ?_⟩
        exact ⟨fun h => hF.out.f0 (by simpa using h), fun h => hF.out.f1 (by simpa using h), fun h => hF.out.f2 (by simpa using h), fun h => hF.out.f3 (by simpa using h), fun h => hF.out.f4 (by simpa using h), fun h => hF.out.f5 (by simpa using h), fun h => hF.out.f6 (by simpa using h), fun h => hF.out.f7 (by simpa using h), fun h => hF.out.f8 (by simpa using h), fun h => hF.out.f9 (by simpa using h), fun _ => trivial, fun h => by have := hF.out.o74 (by simpa using h); simpa using this, fun h => by have := hF.out.o76 (by simpa using h); simpa using this, fun _ => by simpa using hg7, ⟨by simp only [World.setCell, Array.size_modify]; exact hF.out.sz.1, hF.out.sz.2⟩, ⟨(cell_other _ HGG.out).trans hF.out.st.1, (cell_other _ HGG.out).trans hF.out.st.2.1, (cell_other _ HGG.out).trans hF.out.st.2.2.1, (cell_other _ HGG.out).trans hF.out.st.2.2.2⟩, hF.out.mv.box _ _, fun h => by have := hg7; simp [this] at h, fun _ => ⟨own_same (hF.out.nw hg7).1 fun k hk => Below.heap_setCell _ _ _ _ (by have := ((hF.out.nw hg7).1.lt k hk).1; simp; omega), (hF.out.nw hg7).2⟩, fun _ h => by have := hg7; simp [this] at h, fun h => by simp at h, fun _ => row_box HBX.out _⟩
    · intro d a W hI hall
      obtain ⟨gb, gr, cr, x32, x33, x34, x35, x36, x37, x38, x39, x40, x41, rfl, hF⟩ := hI
      simp only [List.length_cons, List.length_nil] at hall
      obtain rfl := hF.out.f0 (hall 0 (by omega))
      obtain rfl := hF.out.f1 (hall 1 (by omega))
      obtain rfl := hF.out.f2 (hall 2 (by omega))
      obtain rfl := hF.out.f3 (hall 3 (by omega))
      obtain rfl := hF.out.f4 (hall 4 (by omega))
      obtain rfl := hF.out.f5 (hall 5 (by omega))
      obtain rfl := hF.out.f6 (hall 6 (by omega))
      obtain rfl := hF.out.f7 (hall 7 (by omega))
      obtain rfl := hF.out.f8 (hall 8 (by omega))
      obtain rfl := hF.out.f9 (hall 9 (by omega))
      have HR : Hid (Mb G sv.ownBlock w1 W ∧ W.ownsRow (G + 3 + n) 76 4 (.slice (some ⟨gr, 0, none⟩) (Q.length + 1) cr) (Q.length + 1) (scs RA RB Q ++ [.int .i16 x, .int .i16 y, .int .i64 (fr : Int), .int .u8 (by_ : Int)]) ∧ (sv.ownBlock = some gr ∨ w1.heap.size ≤ gr) ∧ W.rowIs (G + 1) 74 2 (fun i => if i = 0 then .slice (some ⟨gr, 0, none⟩) (Q.length + 1) cr else .slice (some ⟨G, 0, none⟩) (n + 1) (n + 1))) := ⟨hF.out.mv, (hF.out.nw (hall 7 (by omega))).1, (hF.out.nw (hall 7 (by omega))).2, hF.out.by2 (hall 10 (by omega))⟩
      clear hF hall
      simp only [Act.put, List.setIfInBounds_toArray, List.set_cons_zero, List.set_cons_succ]
      go_wp2_with fail
      refine bodyPost_end (v := .tuple #[]) (by simp [results, Try.results40, go_sem]) rfl ?_
      have hmv := HR.out.1
      have hsz7 := HSZ7.out
      have hgs := HGS.out
      have hol : ∀ k, sv.ownBlock = some k → G + 3 + n ≤ k := fun k hk => (HW7.out.own.lt k hk).1
      have e : ∀ k, k < G + 3 + n → k ≠ G + 1 → W.heap[k]? = w1.heap[k]? := fun k hk hk2 => hmv.blk k (by omega) hk2 (fun e => by have := hol k e; omega)
      refine ⟨rfl, HM6.out.trans hmv.mv, Or.inr ⟨HF.out, _, ⟨HW7.out.top.of_block (e _ (by omega) (by omega)), fun i hi => (HW7.out.rows i hi).of_block (e _ (by omega) (by omega)), HR.out.2.2.2, ?_⟩, ?_⟩⟩
      · rw [scs_snoc]
        have := HR.out.2.1
        simp only [sc, HPR.out, List.length_append, List.length_cons, List.length_nil]
        exact this
      · rcases HR.out.2.2.1 with h | h
        · left; exact h.symm
        · right; exact ⟨gr, rfl, by omega⟩

end Go.Proofs.Ytlgcggfenljdnaa
