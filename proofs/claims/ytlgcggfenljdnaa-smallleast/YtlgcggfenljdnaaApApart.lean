/-
  The contract of small.Apart: the first text that tells two automata apart.
-/
import Derived.Test.YtlgcggfenljdnaaApText
import Derived.Test.YtlgcggfenljdnaaChecks
namespace Go.Proofs.Ytlgcggfenljdnaa
open Go.RowKit
open Dfa

/-- Do the tags differ there? -/
def Df (TA TB : Nat → Int) (p : Int × Int) : Prop := tagOf TA p.1 ≠ tagOf TB p.2
/-- What is told: the first text of which the tags differ, and whether there is one. -/
def Told (RA RB : Nat → Nat → Int) (TA TB : Nat → Int) (l : List UInt8) (is : Bool) : Prop :=
  (is = true ∧ Df TA TB (pr RA RB l) ∧ ∀ v, Df TA TB (pr RA RB v) → key l ≤ key v) ∨ (is = false ∧ l = [] ∧ ∀ v, ¬ Df TA TB (pr RA RB v))
structure K1 (w : World) (RA RB : Nat → Nat → Int) (vA tA vB tB : Value) (n m G : Nat) (F : Nat → Nat → Bool) (Q : List S) (sv : Value) (W : World) : Prop where
  below : Below w.heap.size w W
  c0 : W.cell? ⟨w.heap.size, 0, none⟩ = some vA
  c1 : W.cell? ⟨w.heap.size, 1, none⟩ = some tA
  c2 : W.cell? ⟨w.heap.size + 1, 0, none⟩ = some vB
  c3 : W.cell? ⟨w.heap.size + 1, 1, none⟩ = some tB
  wk : Wk RA RB G n m F Q sv W
  lt : w.heap.size + 2 ≤ G
structure K2 (w : World) (RA RB : Nat → Nat → Int) (vA tA vB tB : Value) (n m G : Nat) (F : Nat → Nat → Bool) (Q : List S) (sv : Value) (gB : Nat) (x y : Int) (W : World) : Prop where
  k1 : K1 w RA RB vA tA vB tB n m G F Q sv W
  s0 : W.cell? ⟨gB, 0, none⟩ = some (.int .i16 x)
  s1 : W.cell? ⟨gB, 1, none⟩ = some (.int .i16 y)
  gl : gB < W.heap.size ∧ G + 3 + n ≤ gB ∧ sv.ownBlock ≠ some gB
variable {w : World} {RA RB : Nat → Nat → Int} {vA tA vB tB : Value} {n m G : Nat} {F : Nat → Nat → Bool} {Q : List S} {sv : Value} {W W' : World} {gB a j : Nat} {x y x1 y1 : Int} {wd : List UInt8}
theorem K2.below (h : K2 w RA RB vA tA vB tB n m G F Q sv gB x y W) : Below w.heap.size w W := h.k1.below
theorem K2.c0 (h : K2 w RA RB vA tA vB tB n m G F Q sv gB x y W) : W.cell? ⟨w.heap.size, 0, none⟩ = some vA := h.k1.c0
theorem K2.c1 (h : K2 w RA RB vA tA vB tB n m G F Q sv gB x y W) : W.cell? ⟨w.heap.size, 1, none⟩ = some tA := h.k1.c1
theorem K2.c2 (h : K2 w RA RB vA tA vB tB n m G F Q sv gB x y W) : W.cell? ⟨w.heap.size + 1, 0, none⟩ = some vB := h.k1.c2
theorem K2.c3 (h : K2 w RA RB vA tA vB tB n m G F Q sv gB x y W) : W.cell? ⟨w.heap.size + 1, 1, none⟩ = some tB := h.k1.c3
theorem K1.next (h : K1 w RA RB vA tA vB tB n m G F Q sv W) (hb : Below W.heap.size W W') : K1 w RA RB vA tA vB tB n m G F Q sv W' := by
  have hl := h.lt
  have hg := h.wk.top.lt
  exact ⟨h.below.trans (hb.mono h.below.size), (hb.cell (p := ⟨w.heap.size, 0, none⟩) (by simp; omega)).trans h.c0, (hb.cell (p := ⟨w.heap.size, 1, none⟩) (by simp; omega)).trans h.c1, (hb.cell (p := ⟨w.heap.size + 1, 0, none⟩) (by simp; omega)).trans h.c2, (hb.cell (p := ⟨w.heap.size + 1, 1, none⟩) (by simp; omega)).trans h.c3, h.wk.below hb, h.lt⟩
theorem K2.next (h : K2 w RA RB vA tA vB tB n m G F Q sv gB x y W) (hb : Below W.heap.size W W') : K2 w RA RB vA tA vB tB n m G F Q sv gB x y W' :=
  ⟨h.k1.next hb, (hb.cell (p := ⟨gB, 0, none⟩) h.gl.1).trans h.s0, (hb.cell (p := ⟨gB, 1, none⟩) h.gl.1).trans h.s1, Nat.lt_of_lt_of_le h.gl.1 hb.size, h.gl.2⟩
theorem cell_blk {w w' : World} {b j : Nat} (h : w'.heap[b]? = w.heap[b]?) : w'.cell? ⟨b, j, none⟩ = w.cell? ⟨b, j, none⟩ := by simp [World.cell?, h]
theorem K1.moved {F' : Nat → Nat → Bool} {Q' : List S} {sv' : Value} (h : K1 w RA RB vA tA vB tB n m G F Q sv W) (hm : Mv G n sv.ownBlock W W') (hw : Wk RA RB G n m F' Q' sv' W') : K1 w RA RB vA tA vB tB n m G F' Q' sv' W' := by
  have hl := h.lt
  have hg := h.wk.top.lt
  have ho : ∀ k, sv.ownBlock = some k → G + 3 + n ≤ k := fun k hk => (h.wk.own.lt k hk).1
  have hb : Below G W W' := hm.to (fun k hk => by have := ho k hk; omega) (by omega)
  exact ⟨h.below.trans (hb.mono (by omega)), (hb.cell (p := ⟨w.heap.size, 0, none⟩) (by simp; omega)).trans h.c0, (hb.cell (p := ⟨w.heap.size, 1, none⟩) (by simp; omega)).trans h.c1, (hb.cell (p := ⟨w.heap.size + 1, 0, none⟩) (by simp; omega)).trans h.c2, (hb.cell (p := ⟨w.heap.size + 1, 1, none⟩) (by simp; omega)).trans h.c3, hw, h.lt⟩
theorem K2.moved {F' : Nat → Nat → Bool} {Q' : List S} {sv' : Value} (h : K2 w RA RB vA tA vB tB n m G F Q sv gB x y W) (hm : Mv G n sv.ownBlock W W') (hw : Wk RA RB G n m F' Q' sv' W') (hs : sv'.ownBlock = sv.ownBlock ∨ ∃ q, sv'.ownBlock = some q ∧ W.heap.size ≤ q) : K2 w RA RB vA tA vB tB n m G F' Q' sv' gB x y W' := by
  have e := hm.blk gB h.gl.1 (Or.inr h.gl.2.1) h.gl.2.2
  refine ⟨h.k1.moved hm hw, (cell_blk e).trans h.s0, (cell_blk e).trans h.s1, Nat.lt_of_lt_of_le h.gl.1 hm.size, h.gl.2.1, ?_⟩
  rcases hs with hs | ⟨q, hs, hq⟩
  · rw [hs]; exact h.gl.2.2
  · rw [hs]; intro e2; simp at e2; have := h.gl.1; omega
theorem K2.come (h : K2 w RA RB vA tA vB tB n m G F Q sv gB x y W) (hm : Mv G n sv.ownBlock W W')
    (hr : (F (x1 + 1).toNat (y1 + 1).toNat = true ∧ Wk RA RB G n m F Q sv W') ∨ (F (x1 + 1).toNat (y1 + 1).toNat = false ∧ ∃ sv', Wk RA RB G n m (upd F (x1 + 1).toNat (y1 + 1).toNat) (Q ++ [⟨wd ++ [UInt8.ofNat j], a, j⟩]) sv' W' ∧ (sv'.ownBlock = sv.ownBlock ∨ ∃ q, sv'.ownBlock = some q ∧ W.heap.size ≤ q))) :
    ((F (x1 + 1).toNat (y1 + 1).toNat = true ∧ K2 w RA RB vA tA vB tB n m G F Q sv gB x y W') ∨ (F (x1 + 1).toNat (y1 + 1).toNat = false ∧ ∃ sv', K2 w RA RB vA tA vB tB n m G (upd F (x1 + 1).toNat (y1 + 1).toNat) (Q ++ [⟨wd ++ [UInt8.ofNat j], a, j⟩]) sv' gB x y W')) := by
  rcases hr with ⟨h1, h2⟩ | ⟨h1, sv', h2, h3⟩
  · exact Or.inl ⟨h1, h.moved hm h2 (Or.inl rfl)⟩
  · exact Or.inr ⟨h1, sv', h.moved hm h2 h3⟩
structure RA17 (w : World) (RA RB : Nat → Nat → Int) (vA tA vB tB : Value) (n m G : Nat) (TA TB : Nat → Int) (F : Nat → Nat → Bool) (Q : List S) (sv : Value) (gB a j : Nat) (x y x1 y1 : Int) (wd : List UInt8) (d : Nat → Bool) (x57 x58 x59 x60 x61 x62 x63 x64 x65 x66 x67 x68 x69 x70 x71 x72 : Value) (W : World) : Prop where
  f0 : d 0 = true → x57 = (.pointer (some ⟨G + 1, 0, none⟩))
  f1 : d 1 = true → x58 = (.agg #[vA, tA])
  f2 : d 2 = true → x59 = (.pointer (some ⟨gB, 0, none⟩))
  f3 : d 3 = true → x60 = (.int .i16 x)
  f4 : d 4 = true → x61 = (.int .i64 (j : Int))
  f5 : d 5 = true → x62 = (.int .i16 x1)
  f6 : d 6 = true → x63 = (.agg #[vB, tB])
  f7 : d 7 = true → x64 = (.pointer (some ⟨gB, 1, none⟩))
  f8 : d 8 = true → x65 = (.int .i16 y)
  f9 : d 9 = true → x66 = (.int .i64 (j : Int))
  f10 : d 10 = true → x67 = (.int .i16 y1)
  f11 : d 11 = true → x68 = (.int .i64 (a : Int))
  f12 : d 12 = true → x69 = (.int .i64 (j : Int))
  f13 : d 13 = true → x70 = (.int .u8 (j : Int))
  f14 : d 14 = true → x71 = (.agg #[.int .i16 x1, .int .i16 y1, .int .i64 (a : Int), .int .u8 (j : Int)])
  f15 : d 15 = true → x72 = (.tuple #[])
  o14_5 : d 14 = true → d 5 = true
  o14_10 : d 14 = true → d 10 = true
  o5_1 : d 5 = true → d 1 = true
  o5_3 : d 5 = true → d 3 = true
  o10_6 : d 10 = true → d 6 = true
  o10_8 : d 10 = true → d 8 = true
  p1 : d 15 = true → d 1 = true
  p3 : d 15 = true → d 3 = true
  p5 : d 15 = true → d 5 = true
  p6 : d 15 = true → d 6 = true
  p8 : d 15 = true → d 8 = true
  p10 : d 15 = true → d 10 = true
  k2 : d 15 = false → K2 w RA RB vA tA vB tB n m G F Q sv gB x y W
  fin : d 15 = true → ((F (x1 + 1).toNat (y1 + 1).toNat = true ∧ K2 w RA RB vA tA vB tB n m G F Q sv gB x y W) ∨ (F (x1 + 1).toNat (y1 + 1).toNat = false ∧ ∃ sv', K2 w RA RB vA tA vB tB n m G (upd F (x1 + 1).toNat (y1 + 1).toNat) (Q ++ [⟨wd ++ [UInt8.ofNat j], a, j⟩]) sv' gB x y W))

def Fq (RA RB : Nat → Nat → Int) (n m : Nat) (F : Nat → Nat → Bool) (Q : List S) : Prop := ∀ i j, i < n + 1 → j < m + 1 → (F i j = true ↔ ∃ k, k < Q.length ∧ pr RA RB (Dfa.g Q k).wd = ((i : Int) - 1, (j : Int) - 1))
theorem come_next {TA TB : Nat → Int} (hf : ((F (x1 + 1).toNat (y1 + 1).toNat = true ∧ K2 w RA RB vA tA vB tB n m G F Q sv gB x y W) ∨ (F (x1 + 1).toNat (y1 + 1).toNat = false ∧ ∃ sv', K2 w RA RB vA tA vB tB n m G (upd F (x1 + 1).toNat (y1 + 1).toNat) (Q ++ [⟨wd ++ [UInt8.ofNat j], a, j⟩]) sv' gB x y W))) (hi : Inv (pr RA RB) Q a j) (hq : Fq RA RB n m F Q) (hwd : (Dfa.g Q a).wd = wd) (ha : a < Q.length) (hj : j < 256) (hp : pr RA RB (wd ++ [UInt8.ofNat j]) = (x1, y1)) (h1 : At n x1) (h2 : At m y1) (hnd : ∀ i, i ≤ a → ¬ Df TA TB (pr RA RB (Dfa.g Q i).wd)) :
    ∃ F' Q' sv', K2 w RA RB vA tA vB tB n m G F' Q' sv' gB x y W ∧ Inv (pr RA RB) Q' a (j + 1) ∧ Fq RA RB n m F' Q' ∧ (Dfa.g Q' a).wd = wd ∧ a < Q'.length ∧ ∀ i, i ≤ a → ¬ Df TA TB (pr RA RB (Dfa.g Q' i).wd) := by
  obtain ⟨p1, p2⟩ := h1
  obtain ⟨q1, q2⟩ := h2
  have e1 : (((x1 + 1).toNat : Nat) : Int) - 1 = x1 := by omega
  have e2 : (((y1 + 1).toNat : Nat) : Int) - 1 = y1 := by omega
  have hqq := hq (x1 + 1).toNat (y1 + 1).toNat (by omega) (by omega)
  rw [e1, e2, ← hp] at hqq
  rcases hf with ⟨hf, hk⟩ | ⟨hf, sv', hk⟩
  · have := hi.seen ha hj (by rw [hwd]; exact hqq.1 hf)
    exact ⟨F, Q, sv, hk, this, hq, hwd, ha, hnd⟩
  · have hno : ¬ ∃ k, k < Q.length ∧ pr RA RB (Dfa.g Q k).wd = pr RA RB ((Dfa.g Q a).wd ++ [UInt8.ofNat j]) := by rw [hwd]; intro h; rw [hqq.2 h] at hf; cases hf
    have hnew := hi.new ha hj hno
    rw [hwd] at hnew
    refine ⟨_, _, sv', hk, hnew, fun i k hi2 hk2 => ?_, by rw [g_left _ _ _ ha]; exact hwd, by simp; omega, fun i hi2 => by rw [g_left _ _ _ (by omega)]; exact hnd i hi2⟩
    unfold upd
    constructor
    · intro h
      split at h
      · rename_i hh
        refine ⟨Q.length, by simp, ?_⟩
        rw [g_new, hh.1, hh.2, e1, e2]; exact hp
      · obtain ⟨z, z1, z2⟩ := (hq i k hi2 hk2).1 h
        exact ⟨z, by simp; omega, by rw [g_left _ _ _ z1]; exact z2⟩
    · rintro ⟨z, z1, z2⟩
      by_cases ez : z < Q.length
      · rw [g_left _ _ _ ez] at z2
        have := (hq i k hi2 hk2).2 ⟨z, ez, z2⟩
        split
        · rfl
        · exact this
      · obtain rfl : z = Q.length := by simp at z1; omega
        rw [g_new] at z2
        have z3 : pr RA RB (wd ++ [UInt8.ofNat j]) = ((i : Int) - 1, (k : Int) - 1) := z2
        rw [hp] at z3
        have z4 := congrArg Prod.fst z3
        have z5 := congrArg Prod.snd z3
        simp only at z4 z5
        rw [if_pos ⟨by omega, by omega⟩]
theorem inv_len {pair : List UInt8 → Int × Int} {a b : Nat} (h : Inv pair Q a b) : ∀ i, i < Q.length → (Dfa.g Q i).wd.length ≤ i := by
  intro i
  induction i using Nat.strongRecOn with
  | ind i ih =>
    intro hi
    by_cases h0 : i = 0
    · subst h0; rw [h.h0]; exact Nat.le_refl _
    · obtain ⟨h1, -, h3⟩ := h.hw i (by omega) hi
      rw [h3]
      have := ih _ h1 (by omega)
      simp; omega
theorem pr_at (h1 : rowsOk n RA = true) (h2 : rowsOk m RB = true) (hn : 0 < n) (hm : 0 < m) (l : List UInt8) : At n (pr RA RB l).1 ∧ At m (pr RA RB l).2 :=
  ⟨at_goes h1 l ⟨by omega, by omega⟩, at_goes h2 l ⟨by omega, by omega⟩⟩

set_option maxHeartbeats 8000000 in
set_option maxRecDepth 20000 in
theorem apart_ok (vA tA vB tB : Value) (n m : Nat) (RA RB : Nat → Nat → Int) (TA TB : Nat → Int) (w : World) (hA : Rw w vA n RA) (hTA : Ts w tA n TA) (hB : Rw w vB m RB) (hTB : Ts w tB m TB) (h1 : chk n n RA TA = 0) (h2 : chk m m RB TB = 0) :
    Calls Try.prog 16 #[.agg #[vA, tA], .agg #[vB, tB]] w fun e w' => ∃ s is, e = .returned (.tuple #[.string s, .bool is, .int .i64 0]) ∧ Told RA RB TA TB s.data.toList is ∧ s.size ≤ 50000 ∧ Below w.heap.size w w' := by
  obtain ⟨n0, n1, -, n2, -⟩ := chk_zero h1
  obtain ⟨m0, m1, -, m2, -⟩ := chk_zero h2
  have HRW : Hid (Rw w vA n RA ∧ Ts w tA n TA ∧ Rw w vB m RB ∧ Ts w tB m TB) := ⟨hA, hTA, hB, hTB⟩
  have HCK : Hid (chk n n RA TA = 0 ∧ chk m m RB TB = 0) := ⟨h1, h2⟩
  have HNM : Hid (n ≤ 200 ∧ m ≤ 200 ∧ 0 < n ∧ 0 < m) := ⟨n1, m1, n0, m0⟩
  have HPA : Hid (∀ l, At n (pr RA RB l).1 ∧ At m (pr RA RB l).2) := fun l => pr_at n2 m2 n0 m0 l
  have B0 : Below w.heap.size w ((w.alloc (Obj.cells #[vA, tA] 25)).alloc (Obj.cells #[vB, tB] 25)) := ((Below.refl _ _).alloc (Nat.le_refl _) _).alloc (by simp) _
  clear h1 h2 n2 m2 hA hTA hB hTB
  go_enter Try.func16, Try.ntmps16
  go_wp2_with fail
  have hc := check_any vA tA n n RA TA _ (HRW.out.1.below B0 (Nat.le_refl _)) (HRW.out.2.1.below B0 (Nat.le_refl _))
  rw [HCK.out.1] at hc
  refine hc.mono ?_
  rintro _ w1 ⟨rfl, hb1⟩
  have B1 : Below w.heap.size w w1 := B0.trans (hb1.mono (by simp; omega))
  have c0 : w1.cell? ⟨w.heap.size, 0, none⟩ = some vA := (hb1.cell (by simp; omega)).trans (by simp)
  have c1 : w1.cell? ⟨w.heap.size, 1, none⟩ = some tA := (hb1.cell (by simp; omega)).trans (by simp)
  have c2 : w1.cell? ⟨w.heap.size + 1, 0, none⟩ = some vB := (hb1.cell (by simp)).trans (by simp)
  have c3 : w1.cell? ⟨w.heap.size + 1, 1, none⟩ = some tB := (hb1.cell (by simp)).trans (by simp)
  have hsz1 : w.heap.size + 2 ≤ w1.heap.size := by have := hb1.size; simpa using this
  clear hb1 hc B0
  go_wp2_with fail
  have hc := check_any vB tB m m RB TB _ (HRW.out.2.2.1.below B1 (Nat.le_refl _)) (HRW.out.2.2.2.below B1 (Nat.le_refl _))
  rw [HCK.out.2] at hc
  refine hc.mono ?_
  rintro _ w2 ⟨rfl, hb2⟩
  have B2 : Below w.heap.size w w2 := B1.trans (hb2.mono B1.size)
  have e0 := (hb2.cell (p := ⟨w.heap.size, 0, none⟩) (by simp; omega)).trans c0
  have e1 := (hb2.cell (p := ⟨w.heap.size, 1, none⟩) (by simp; omega)).trans c1
  have e2 := (hb2.cell (p := ⟨w.heap.size + 1, 0, none⟩) (by simp; omega)).trans c2
  have e3 := (hb2.cell (p := ⟨w.heap.size + 1, 1, none⟩) (by simp; omega)).trans c3
  have hsz2 : w.heap.size + 2 ≤ w2.heap.size := by have := hb2.size; omega
  clear hb2 hc c0 c1 c2 c3 B1 hsz1
  go_wp2_with fail
  have hc := newWalk_any RA RB vA tA vB tB n n m m TA TB w2 (HRW.out.1.below B2 (Nat.le_refl _)) (HRW.out.2.1.below B2 (Nat.le_refl _)) (HRW.out.2.2.1.below B2 (Nat.le_refl _)) (HRW.out.2.2.2.below B2 (Nat.le_refl _)) HNM.out.1 HNM.out.2.1 HNM.out.2.2.1 HNM.out.2.2.2
  obtain ⟨G, HG⟩ : ∃ G, Hid (w2.heap.size + 2 = G) := ⟨_, (rfl : _ = _)⟩
  rw [show w2.heap.size + 3 = G + 1 by have := HG.out; omega, HG.out] at hc
  refine hc.mono ?_
  rintro _ w3 ⟨rfl, hb3, F0, sv0, hwk, hF0⟩
  have HK0 : Hid (K1 w RA RB vA tA vB tB n m G F0 [s0] sv0 w3 ∧ Inv (pr RA RB) [s0] 0 0 ∧ Fq RA RB n m F0 [s0] ∧ ∀ i, i < 0 → i < [s0].length → ¬ Df TA TB (pr RA RB (Dfa.g [s0] i).wd)) := by
    refine ⟨⟨B2.trans (hb3.mono B2.size), (hb3.cell (p := ⟨w.heap.size, 0, none⟩) (by simp; omega)).trans e0, (hb3.cell (p := ⟨w.heap.size, 1, none⟩) (by simp; omega)).trans e1, (hb3.cell (p := ⟨w.heap.size + 1, 0, none⟩) (by simp; omega)).trans e2, (hb3.cell (p := ⟨w.heap.size + 1, 1, none⟩) (by simp; omega)).trans e3, hwk, by have := HG.out; omega⟩, Inv.start _, fun i j _ _ => ?_, fun i hi => by omega⟩
    rw [hF0]
    constructor
    · intro h
      simp at h
      exact ⟨0, by simp, by rw [h.1, h.2]; rfl⟩
    · rintro ⟨k, hk, h⟩
      obtain rfl : k = 0 := by simp at hk; omega
      have h3 : ((0 : Int), (0 : Int)) = ((i : Int) - 1, (j : Int) - 1) := h
      simp only [Prod.mk.injEq] at h3
      simp; omega
  clear hb3 hwk hF0 hc e0 e1 e2 e3 B2 hsz2
  go_wp2_with fail
  go_loopw [10] (fun i wr => ∃ a : Nat, a ≤ 40401 ∧ i = .int .i64 (a : Int) ∧ Hid (∃ F Q sv, K1 w RA RB vA tA vB tB n m G F Q sv wr ∧ Inv (pr RA RB) Q a 0 ∧ Fq RA RB n m F Q ∧ ∀ i, i < a → i < Q.length → ¬ Df TA TB (pr RA RB (Dfa.g Q i).wd))) (fun i _ => 50000 - (intOf i).toNat)
  case atStart => exact ⟨0, by omega, rfl, _, _, _, HK0.out⟩
  case round =>
    clear HK0
    obtain ⟨a, ha4, rfl, HE⟩ := hrel
    obtain ⟨F, Q, sv, hk1, hinv, hfq, hnd⟩ := HE.out
    have HK1 : Hid (K1 w RA RB vA tA vB tB n m G F Q sv wr) := hk1
    have HIV : Hid (Inv (pr RA RB) Q a 0) := hinv
    have HFQ : Hid (Fq RA RB n m F Q) := hfq
    have HNDa : Hid (∀ i, i < a → i < Q.length → ¬ Df TA TB (pr RA RB (Dfa.g Q i).wd)) := hnd
    have hql : Q.length ≤ 40401 := by
      have h := hinv.few n m (fun i _ => HPA.out _)
      have h2 : (n + 1) * (m + 1) ≤ 201 * 201 := Nat.mul_le_mul (by have := HNM.out.1; omega) (by have := HNM.out.2.1; omega)
      omega
    obtain ⟨gs, cap, rfl, hgs, hgl, hcell⟩ := hk1.wk.stop hinv.pos
    have hbx := hk1.wk.box.cell (i := 0) (by omega)
    simp only [if_true] at hbx
    have HQP : Hid (0 < Q.length) := hinv.pos
    clear hk1 hinv hfq hnd HE
    by_cases hlt : a < Q.length
    · have y0 := hcell a hlt 0 (by omega)
      have y1 := hcell a hlt 1 (by omega)
      have y2 := hcell a hlt 2 (by omega)
      have y3 := hcell a hlt 3 (by omega)
      simp only [sc, List.getElem?_cons_succ, List.getElem?_cons_zero, Nat.add_zero] at y0 y1 y2 y3
      have HWX : Hid (∀ l, l = (Dfa.g Q a).wd → pr RA RB l = pr RA RB (Dfa.g Q a).wd) := fun l h => by rw [h]
      obtain ⟨wd, HWD0⟩ : ∃ q, Hid ((Dfa.g Q a).wd = q) := ⟨_, (rfl : _ = _)⟩
      obtain ⟨x, HXX⟩ : ∃ q, Hid ((pr RA RB (Dfa.g Q a).wd).1 = q) := ⟨_, (rfl : _ = _)⟩
      obtain ⟨y, HYY⟩ : ∃ q, Hid ((pr RA RB (Dfa.g Q a).wd).2 = q) := ⟨_, (rfl : _ = _)⟩
      obtain ⟨fr, HFR⟩ : ∃ q, Hid ((Dfa.g Q a).fr = q) := ⟨_, (rfl : _ = _)⟩
      obtain ⟨bb, HBB⟩ : ∃ q, Hid ((Dfa.g Q a).by_ = q) := ⟨_, (rfl : _ = _)⟩
      rw [HXX.out] at y0
      rw [HYY.out] at y1
      rw [HFR.out] at y2
      rw [HBB.out] at y3
      have HAT : Hid (At n x ∧ At m y) := by have := HPA.out (Dfa.g Q a).wd; rw [HXX.out, HYY.out] at this; exact this
      have HPW : Hid (pr RA RB wd = (x, y)) := by show _ = _; rw [← HWD0.out, ← HXX.out, ← HYY.out]
      have ha0 : (0 : Int) ≤ (a : Int) := by omega
      have ha1 : (a : Int) < (Q.length : Int) := by omega
      have HK2 : Hid (K2 w RA RB vA tA vB tB n m G F Q (.slice (some ⟨gs, 0, none⟩) Q.length cap) wr.heap.size x y (wr.alloc (Obj.cells #[.int .i16 x, .int .i16 y, .int .i64 (fr : Int), .int .u8 (bb : Int)] 76))) := by
        refine ⟨HK1.out.next ((Below.refl _ _).alloc (Nat.le_refl _) _), by simp, by simp, by simp, by omega, ?_⟩
        simp [Value.ownBlock]; omega
      obtain ⟨gB, HGB⟩ : ∃ q, Hid (wr.heap.size = q) := ⟨_, (rfl : _ = _)⟩
      rw [HGB.out] at HK2
      obtain ⟨wb, HWB⟩ : ∃ q, Hid (wr.alloc (Obj.cells #[.int .i16 x, .int .i16 y, .int .i64 (fr : Int), .int .u8 (bb : Int)] 76) = q) := ⟨_, (rfl : _ = _)⟩
      rw [HWB.out] at HK2
      clear hcell HK1
      go_wp2_with fail
      rw [HGB.out, HWB.out]
      have HNX : Hid (∀ W W' : World, (K2 w RA RB vA tA vB tB n m G F Q (.slice (some ⟨gs, 0, none⟩) Q.length cap) gB x y) W → Below W.heap.size W W' → (K2 w RA RB vA tA vB tB n m G F Q (.slice (some ⟨gs, 0, none⟩) Q.length cap) gB x y) W') := fun W W' h hb => h.next hb
      obtain ⟨t1, HT1⟩ : ∃ q, Hid (tagOf TA x = q) := ⟨_, (rfl : _ = _)⟩
      obtain ⟨t2, HT2⟩ : ∃ q, Hid (tagOf TB y = q) := ⟨_, (rfl : _ = _)⟩
      have HCA : Hid (∀ p : Kp (K2 w RA RB vA tA vB tB n m G F Q (.slice (some ⟨gs, 0, none⟩) Q.length cap) gB x y), Calls Try.prog 38 #[.agg #[vA, tA], .int .i16 x] p.W fun e w'' => e = .returned (.int .i64 t1) ∧ ∃ q : Kp (K2 w RA RB vA tA vB tB n m G F Q (.slice (some ⟨gs, 0, none⟩) Q.length cap) gB x y), w'' = q.W) := fun p => by
        have := tagOfP_any vA tA n n RA TA x p.W (HRW.out.1.below p.h.below (Nat.le_refl _)) (HRW.out.2.1.below p.h.below (Nat.le_refl _)) HAT.out.1
        rw [HT1.out] at this
        exact Kp.calls p HNX.out this
      have HCB : Hid (∀ p : Kp (K2 w RA RB vA tA vB tB n m G F Q (.slice (some ⟨gs, 0, none⟩) Q.length cap) gB x y), Calls Try.prog 38 #[.agg #[vB, tB], .int .i16 y] p.W fun e w'' => e = .returned (.int .i64 t2) ∧ ∃ q : Kp (K2 w RA RB vA tA vB tB n m G F Q (.slice (some ⟨gs, 0, none⟩) Q.length cap) gB x y), w'' = q.W) := fun p => by
        have := tagOfP_any vB tB m m RB TB y p.W (HRW.out.2.2.1.below p.h.below (Nat.le_refl _)) (HRW.out.2.2.2.below p.h.below (Nat.le_refl _)) HAT.out.2
        rw [HT2.out] at this
        exact Kp.calls p HNX.out this
      have p0 : ∀ p : Kp (K2 w RA RB vA tA vB tB n m G F Q (.slice (some ⟨gs, 0, none⟩) Q.length cap) gB x y), p.W.cell? ⟨w.heap.size, 0, none⟩ = some vA := fun p => p.h.c0
      have p1 : ∀ p : Kp (K2 w RA RB vA tA vB tB n m G F Q (.slice (some ⟨gs, 0, none⟩) Q.length cap) gB x y), p.W.cell? ⟨w.heap.size, 1, none⟩ = some tA := fun p => p.h.c1
      have p2 : ∀ p : Kp (K2 w RA RB vA tA vB tB n m G F Q (.slice (some ⟨gs, 0, none⟩) Q.length cap) gB x y), p.W.cell? ⟨w.heap.size + 1, 0, none⟩ = some vB := fun p => p.h.c2
      have p3 : ∀ p : Kp (K2 w RA RB vA tA vB tB n m G F Q (.slice (some ⟨gs, 0, none⟩) Q.length cap) gB x y), p.W.cell? ⟨w.heap.size + 1, 1, none⟩ = some tB := fun p => p.h.c3
      have p4 : ∀ p : Kp (K2 w RA RB vA tA vB tB n m G F Q (.slice (some ⟨gs, 0, none⟩) Q.length cap) gB x y), p.W.cell? ⟨gB, 0, none⟩ = some (.int .i16 x) := fun p => p.h.s0
      have p5 : ∀ p : Kp (K2 w RA RB vA tA vB tB n m G F Q (.slice (some ⟨gs, 0, none⟩) Q.length cap) gB x y), p.W.cell? ⟨gB, 1, none⟩ = some (.int .i16 y) := fun p => p.h.s1
      have hne : Nonempty (Kp (K2 w RA RB vA tA vB tB n m G F Q (.slice (some ⟨gs, 0, none⟩) Q.length cap) gB x y)) := ⟨⟨_, HK2.out⟩⟩
      clear y0 y1 y2 y3 hbx HWB HGB
      refine wp_region_kept mixed (by kernel_rfl) (HK2.out.next (Below.refl _ _).drew) ?_
      repeat (go_big_quiet_step (first
        | (go_at_call 38; with_reducible exact HCA.out _)
        | (go_at_call 38; with_reducible exact HCB.out _)))
      refine wpQuiet_nil ?_
      intro W2 hw2
      obtain ⟨⟨W2, HS2⟩, rfl⟩ := hw2
      have HK3 : Hid ((K2 w RA RB vA tA vB tB n m G F Q (.slice (some ⟨gs, 0, none⟩) Q.length cap) gB x y) W2) := HS2
      clear HS2 hne p0 p1 p2 p3 p4 p5 HCA HCB HNX HK2
      by_cases hdf : t1 = t2
      · have HDF : Hid (t1 = t2) := hdf
        have hbb : (t1 != t2) = false := by simp [hdf]
        have HND : Hid (∀ i, i ≤ a → ¬ Df TA TB (pr RA RB (Dfa.g Q i).wd)) := fun i hi => by
          by_cases e : i = a
          · subst e; unfold Df; rw [HXX.out, HYY.out, HT1.out, HT2.out]; simp [HDF.out]
          · exact HNDa.out i (by omega) (by omega)
        rw [hbb]
        clear hdf hbb
        go_wp2_with fail
        go_loopw [54] (fun i wr => ∃ j : Nat, j ≤ 256 ∧ i = .int .i64 (j : Int) ∧ Hid (∃ F' Q' sv', K2 w RA RB vA tA vB tB n m G F' Q' sv' gB x y wr ∧ Inv (pr RA RB) Q' a j ∧ Fq RA RB n m F' Q' ∧ (Dfa.g Q' a).wd = wd ∧ a < Q'.length ∧ ∀ i, i ≤ a → ¬ Df TA TB (pr RA RB (Dfa.g Q' i).wd))) (fun i _ => 256 - (intOf i).toNat)
        case atStart => exact ⟨0, by omega, rfl, F, Q, _, HK3.out, HIV.out, HFQ.out, HWD0.out, hlt, HND.out⟩
        case round =>
          clear HK3 HIV HFQ HND HWX HXX HYY HFR HBB HNDa HQP HWD0
          obtain ⟨j, hj, rfl, HE⟩ := hrel
          obtain ⟨F', Q', sv', hk2, hinv, hfq, hwd, haq, hnd⟩ := HE.out
          have HK2 : Hid (K2 w RA RB vA tA vB tB n m G F' Q' sv' gB x y wr) := hk2
          have HIV : Hid (Inv (pr RA RB) Q' a j) := hinv
          have HFQ : Hid (Fq RA RB n m F' Q') := hfq
          have HWD : Hid ((Dfa.g Q' a).wd = wd ∧ a < Q'.length) := ⟨hwd, haq⟩
          have HND : Hid (∀ i, i ≤ a → ¬ Df TA TB (pr RA RB (Dfa.g Q' i).wd)) := hnd
          have HQL : Hid (Q'.length ≤ 50000) := by
            have h := hinv.few n m (fun i _ => HPA.out _)
            have h2 : (n + 1) * (m + 1) ≤ 201 * 201 := Nat.mul_le_mul (by have := HNM.out.1; omega) (by have := HNM.out.2.1; omega)
            show _ ≤ _; omega
          clear hk2 hinv hfq hwd haq hnd HE
          by_cases hjt : j < 256
          · have HJ : Hid (j < 256) := hjt
            have hj1 : (j : Int) < 256 := by omega
            obtain ⟨x1, HX1N⟩ : ∃ q, Hid (nx RA x j = q) := ⟨_, (rfl : _ = _)⟩
            obtain ⟨y1, HY1N⟩ : ∃ q, Hid (nx RB y j = q) := ⟨_, (rfl : _ = _)⟩
            have HPR : Hid (pr RA RB (wd ++ [UInt8.ofNat j]) = (x1, y1)) := by show _ = _; rw [pr_snoc, HPW.out, ofNat_small hjt, ← HX1N.out, ← HY1N.out]
            have HBA : Hid (∀ W, Below w.heap.size w W → Calls Try.prog 41 #[.agg #[vA, tA], .int .i16 x, .int .i64 (j : Int)] W fun e w' => e = .returned (.int .i16 x1) ∧ Below W.heap.size W w') := fun W hb => by
              have := behindP_any vA tA n n RA TA x j W (HRW.out.1.below hb (Nat.le_refl _)) (HRW.out.2.1.below hb (Nat.le_refl _)) HAT.out.1 hjt
              rwa [HX1N.out] at this
            have HBB : Hid (∀ W, Below w.heap.size w W → Calls Try.prog 41 #[.agg #[vB, tB], .int .i16 y, .int .i64 (j : Int)] W fun e w' => e = .returned (.int .i16 y1) ∧ Below W.heap.size W w') := fun W hb => by
              have := behindP_any vB tB m m RB TB y j W (HRW.out.2.2.1.below hb (Nat.le_refl _)) (HRW.out.2.2.2.below hb (Nat.le_refl _)) HAT.out.2 hjt
              rwa [HY1N.out] at this
            clear HX1N HY1N
            have HAN : Hid (At n x1 ∧ At m y1) := by have := HPA.out (wd ++ [UInt8.ofNat j]); rw [HPR.out] at this; exact this
            have HW8 : Hid (IntKind.u8.wrap (j : Int) = (j : Int)) := by show _ = _; unfold IntKind.wrap; simp [IntKind.bits, IntKind.signed]; omega
            go_wp2_with fail
            refine wp_region_free mixed (fun a0 d act W => ∃ (x57 x58 x59 x60 x61 x62 x63 x64 x65 x66 x67 x68 x69 x70 x71 x72 : Value), act = ((((((((((((((((a0.put (some 57) x57).put (some 58) x58).put (some 59) x59).put (some 60) x60).put (some 61) x61).put (some 62) x62).put (some 63) x63).put (some 64) x64).put (some 65) x65).put (some 66) x66).put (some 67) x67).put (some 68) x68).put (some 69) x69).put (some 70) x70).put (some 71) x71).put (some 72) x72) ∧ Hid (RA17 w RA RB vA tA vB tB n m G TA TB F' Q' sv' gB a j x y x1 y1 wd d x57 x58 x59 x60 x61 x62 x63 x64 x65 x66 x67 x68 x69 x70 x71 x72 W)) (by kernel_rfl) ⟨u57, u58, u59, u60, u61, u62, u63, u64, u65, u66, u67, u68, u69, u70, u71, u72, by simp only [Act.put, List.setIfInBounds_toArray, List.set_cons_zero, List.set_cons_succ], ?_⟩ ?_ ?_
            · exact ⟨fun h => no_way h, fun h => no_way h, fun h => no_way h, fun h => no_way h, fun h => no_way h, fun h => no_way h, fun h => no_way h, fun h => no_way h, fun h => no_way h, fun h => no_way h, fun h => no_way h, fun h => no_way h, fun h => no_way h, fun h => no_way h, fun h => no_way h, fun h => no_way h, fun h => no_way h, fun h => no_way h, fun h => no_way h, fun h => no_way h, fun h => no_way h, fun h => no_way h, fun h => no_way h, fun h => no_way h, fun h => no_way h, fun h => no_way h, fun h => no_way h, fun h => no_way h, fun _ => HK2.out.next (Below.refl _ _).drew, fun h => no_way h⟩
            · simp only [StepAll, and_true]
              refine ⟨?_, ?_, ?_, ?_, ?_, ?_, ?_, ?_, ?_, ?_, ?_, ?_, ?_, ?_, ?_, ?_⟩
              · intro d act W hI hd hdep
                obtain ⟨x57, x58, x59, x60, x61, x62, x63, x64, x65, x66, x67, x68, x69, x70, x71, x72, rfl, hF⟩ := hI
                clear hdep hd
                intro K hK
                simp only [Act.put, List.setIfInBounds_toArray, List.set_cons_zero, List.set_cons_succ]
                go_simp
                refine hK.out _ _ ⟨(.pointer (some ⟨G + 1, 0, none⟩)), x58, x59, x60, x61, x62, x63, x64, x65, x66, x67, x68, x69, x70, x71, x72, by simp only [Act.put, List.setIfInBounds_toArray, List.set_cons_zero, List.set_cons_succ], ?_⟩
                exact ⟨fun _ => rfl, fun h => hF.out.f1 (by simpa using h), fun h => hF.out.f2 (by simpa using h), fun h => hF.out.f3 (by simpa using h), fun h => hF.out.f4 (by simpa using h), fun h => hF.out.f5 (by simpa using h), fun h => hF.out.f6 (by simpa using h), fun h => hF.out.f7 (by simpa using h), fun h => hF.out.f8 (by simpa using h), fun h => hF.out.f9 (by simpa using h), fun h => hF.out.f10 (by simpa using h), fun h => hF.out.f11 (by simpa using h), fun h => hF.out.f12 (by simpa using h), fun h => hF.out.f13 (by simpa using h), fun h => hF.out.f14 (by simpa using h), fun h => hF.out.f15 (by simpa using h), fun h => by have := hF.out.o14_5 (by simpa using h); simpa using this, fun h => by have := hF.out.o14_10 (by simpa using h); simpa using this, fun h => by have := hF.out.o5_1 (by simpa using h); simpa using this, fun h => by have := hF.out.o5_3 (by simpa using h); simpa using this, fun h => by have := hF.out.o10_6 (by simpa using h); simpa using this, fun h => by have := hF.out.o10_8 (by simpa using h); simpa using this, fun h => by have := hF.out.p1 (by simpa using h); simpa using this, fun h => by have := hF.out.p3 (by simpa using h); simpa using this, fun h => by have := hF.out.p5 (by simpa using h); simpa using this, fun h => by have := hF.out.p6 (by simpa using h); simpa using this, fun h => by have := hF.out.p8 (by simpa using h); simpa using this, fun h => by have := hF.out.p10 (by simpa using h); simpa using this, fun h => hF.out.k2 (by simpa using h), fun h => hF.out.fin (by simpa using h)⟩
              · intro d act W hI hd hdep
                obtain ⟨x57, x58, x59, x60, x61, x62, x63, x64, x65, x66, x67, x68, x69, x70, x71, x72, rfl, hF⟩ := hI
                have hn15 := no_later hF.out.p1 hd
                have hk := hF.out.k2 hn15
                have HN15 : Hid (d 15 = false) := hn15
                clear hn15
                have y0 := hk.c0
                have y1 := hk.c1
                clear hdep hd
                intro K hK
                simp only [Act.put, List.setIfInBounds_toArray, List.set_cons_zero, List.set_cons_succ]
                go_simp
                refine hK.out _ _ ⟨x57, (.agg #[vA, tA]), x59, x60, x61, x62, x63, x64, x65, x66, x67, x68, x69, x70, x71, x72, by simp only [Act.put, List.setIfInBounds_toArray, List.set_cons_zero, List.set_cons_succ], ?_⟩
                exact ⟨fun h => hF.out.f0 (by simpa using h), fun _ => rfl, fun h => hF.out.f2 (by simpa using h), fun h => hF.out.f3 (by simpa using h), fun h => hF.out.f4 (by simpa using h), fun h => hF.out.f5 (by simpa using h), fun h => hF.out.f6 (by simpa using h), fun h => hF.out.f7 (by simpa using h), fun h => hF.out.f8 (by simpa using h), fun h => hF.out.f9 (by simpa using h), fun h => hF.out.f10 (by simpa using h), fun h => hF.out.f11 (by simpa using h), fun h => hF.out.f12 (by simpa using h), fun h => hF.out.f13 (by simpa using h), fun h => hF.out.f14 (by simpa using h), fun h => hF.out.f15 (by simpa using h), fun h => by have := hF.out.o14_5 (by simpa using h); simpa using this, fun h => by have := hF.out.o14_10 (by simpa using h); simpa using this, fun _ => by simp, fun h => by have := hF.out.o5_3 (by simpa using h); simpa using this, fun h => by have := hF.out.o10_6 (by simpa using h); simpa using this, fun h => by have := hF.out.o10_8 (by simpa using h); simpa using this, fun _ => by simp, fun h => by have := hF.out.p3 (by simpa using h); simpa using this, fun h => by have := hF.out.p5 (by simpa using h); simpa using this, fun h => by have := hF.out.p6 (by simpa using h); simpa using this, fun h => by have := hF.out.p8 (by simpa using h); simpa using this, fun h => by have := hF.out.p10 (by simpa using h); simpa using this, fun h => hF.out.k2 (by simpa using h), fun h => hF.out.fin (by simpa using h)⟩
              · intro d act W hI hd hdep
                obtain ⟨x57, x58, x59, x60, x61, x62, x63, x64, x65, x66, x67, x68, x69, x70, x71, x72, rfl, hF⟩ := hI
                clear hdep hd
                intro K hK
                simp only [Act.put, List.setIfInBounds_toArray, List.set_cons_zero, List.set_cons_succ]
                go_simp
                refine hK.out _ _ ⟨x57, x58, (.pointer (some ⟨gB, 0, none⟩)), x60, x61, x62, x63, x64, x65, x66, x67, x68, x69, x70, x71, x72, by simp only [Act.put, List.setIfInBounds_toArray, List.set_cons_zero, List.set_cons_succ], ?_⟩
                exact ⟨fun h => hF.out.f0 (by simpa using h), fun h => hF.out.f1 (by simpa using h), fun _ => rfl, fun h => hF.out.f3 (by simpa using h), fun h => hF.out.f4 (by simpa using h), fun h => hF.out.f5 (by simpa using h), fun h => hF.out.f6 (by simpa using h), fun h => hF.out.f7 (by simpa using h), fun h => hF.out.f8 (by simpa using h), fun h => hF.out.f9 (by simpa using h), fun h => hF.out.f10 (by simpa using h), fun h => hF.out.f11 (by simpa using h), fun h => hF.out.f12 (by simpa using h), fun h => hF.out.f13 (by simpa using h), fun h => hF.out.f14 (by simpa using h), fun h => hF.out.f15 (by simpa using h), fun h => by have := hF.out.o14_5 (by simpa using h); simpa using this, fun h => by have := hF.out.o14_10 (by simpa using h); simpa using this, fun h => by have := hF.out.o5_1 (by simpa using h); simpa using this, fun h => by have := hF.out.o5_3 (by simpa using h); simpa using this, fun h => by have := hF.out.o10_6 (by simpa using h); simpa using this, fun h => by have := hF.out.o10_8 (by simpa using h); simpa using this, fun h => by have := hF.out.p1 (by simpa using h); simpa using this, fun h => by have := hF.out.p3 (by simpa using h); simpa using this, fun h => by have := hF.out.p5 (by simpa using h); simpa using this, fun h => by have := hF.out.p6 (by simpa using h); simpa using this, fun h => by have := hF.out.p8 (by simpa using h); simpa using this, fun h => by have := hF.out.p10 (by simpa using h); simpa using this, fun h => hF.out.k2 (by simpa using h), fun h => hF.out.fin (by simpa using h)⟩
              · intro d act W hI hd hdep
                obtain ⟨x57, x58, x59, x60, x61, x62, x63, x64, x65, x66, x67, x68, x69, x70, x71, x72, rfl, hF⟩ := hI
                have hd2 : d 2 = true := dep_of hdep 2 (by kernel_rfl)
                obtain rfl := hF.out.f2 hd2
                have hn15 := no_later hF.out.p3 hd
                have hk := hF.out.k2 hn15
                have HN15 : Hid (d 15 = false) := hn15
                clear hn15
                have y0 := hk.s0
                clear hdep hd hd2
                intro K hK
                simp only [Act.put, List.setIfInBounds_toArray, List.set_cons_zero, List.set_cons_succ]
                go_simp
                refine hK.out _ _ ⟨x57, x58, (.pointer (some ⟨gB, 0, none⟩)), (.int .i16 x), x61, x62, x63, x64, x65, x66, x67, x68, x69, x70, x71, x72, by simp only [Act.put, List.setIfInBounds_toArray, List.set_cons_zero, List.set_cons_succ], ?_⟩
                exact ⟨fun h => hF.out.f0 (by simpa using h), fun h => hF.out.f1 (by simpa using h), fun h => hF.out.f2 (by simpa using h), fun _ => rfl, fun h => hF.out.f4 (by simpa using h), fun h => hF.out.f5 (by simpa using h), fun h => hF.out.f6 (by simpa using h), fun h => hF.out.f7 (by simpa using h), fun h => hF.out.f8 (by simpa using h), fun h => hF.out.f9 (by simpa using h), fun h => hF.out.f10 (by simpa using h), fun h => hF.out.f11 (by simpa using h), fun h => hF.out.f12 (by simpa using h), fun h => hF.out.f13 (by simpa using h), fun h => hF.out.f14 (by simpa using h), fun h => hF.out.f15 (by simpa using h), fun h => by have := hF.out.o14_5 (by simpa using h); simpa using this, fun h => by have := hF.out.o14_10 (by simpa using h); simpa using this, fun h => by have := hF.out.o5_1 (by simpa using h); simpa using this, fun _ => by simp, fun h => by have := hF.out.o10_6 (by simpa using h); simpa using this, fun h => by have := hF.out.o10_8 (by simpa using h); simpa using this, fun h => by have := hF.out.p1 (by simpa using h); simpa using this, fun _ => by simp, fun h => by have := hF.out.p5 (by simpa using h); simpa using this, fun h => by have := hF.out.p6 (by simpa using h); simpa using this, fun h => by have := hF.out.p8 (by simpa using h); simpa using this, fun h => by have := hF.out.p10 (by simpa using h); simpa using this, fun h => hF.out.k2 (by simpa using h), fun h => hF.out.fin (by simpa using h)⟩
              · intro d act W hI hd hdep
                obtain ⟨x57, x58, x59, x60, x61, x62, x63, x64, x65, x66, x67, x68, x69, x70, x71, x72, rfl, hF⟩ := hI
                clear hdep hd
                intro K hK
                simp only [Act.put, List.setIfInBounds_toArray, List.set_cons_zero, List.set_cons_succ]
                go_simp
                refine hK.out _ _ ⟨x57, x58, x59, x60, (.int .i64 (j : Int)), x62, x63, x64, x65, x66, x67, x68, x69, x70, x71, x72, by simp only [Act.put, List.setIfInBounds_toArray, List.set_cons_zero, List.set_cons_succ], ?_⟩
                exact ⟨fun h => hF.out.f0 (by simpa using h), fun h => hF.out.f1 (by simpa using h), fun h => hF.out.f2 (by simpa using h), fun h => hF.out.f3 (by simpa using h), fun _ => rfl, fun h => hF.out.f5 (by simpa using h), fun h => hF.out.f6 (by simpa using h), fun h => hF.out.f7 (by simpa using h), fun h => hF.out.f8 (by simpa using h), fun h => hF.out.f9 (by simpa using h), fun h => hF.out.f10 (by simpa using h), fun h => hF.out.f11 (by simpa using h), fun h => hF.out.f12 (by simpa using h), fun h => hF.out.f13 (by simpa using h), fun h => hF.out.f14 (by simpa using h), fun h => hF.out.f15 (by simpa using h), fun h => by have := hF.out.o14_5 (by simpa using h); simpa using this, fun h => by have := hF.out.o14_10 (by simpa using h); simpa using this, fun h => by have := hF.out.o5_1 (by simpa using h); simpa using this, fun h => by have := hF.out.o5_3 (by simpa using h); simpa using this, fun h => by have := hF.out.o10_6 (by simpa using h); simpa using this, fun h => by have := hF.out.o10_8 (by simpa using h); simpa using this, fun h => by have := hF.out.p1 (by simpa using h); simpa using this, fun h => by have := hF.out.p3 (by simpa using h); simpa using this, fun h => by have := hF.out.p5 (by simpa using h); simpa using this, fun h => by have := hF.out.p6 (by simpa using h); simpa using this, fun h => by have := hF.out.p8 (by simpa using h); simpa using this, fun h => by have := hF.out.p10 (by simpa using h); simpa using this, fun h => hF.out.k2 (by simpa using h), fun h => hF.out.fin (by simpa using h)⟩
              · intro d act W hI hd hdep
                obtain ⟨x57, x58, x59, x60, x61, x62, x63, x64, x65, x66, x67, x68, x69, x70, x71, x72, rfl, hF⟩ := hI
                have hd1 : d 1 = true := dep_of hdep 1 (by kernel_rfl)
                have hd3 : d 3 = true := dep_of hdep 3 (by kernel_rfl)
                have hd4 : d 4 = true := dep_of hdep 4 (by kernel_rfl)
                obtain rfl := hF.out.f1 hd1
                obtain rfl := hF.out.f3 hd3
                obtain rfl := hF.out.f4 hd4
                have hn15 := no_later hF.out.p5 hd
                have hk := hF.out.k2 hn15
                have HN15 : Hid (d 15 = false) := hn15
                clear hn15
                have e5_1 := hd1
                have e5_3 := hd3
                clear hdep hd hd1 hd3 hd4
                intro K hK
                simp only [Act.put, List.setIfInBounds_toArray, List.set_cons_zero, List.set_cons_succ]
                go_simp
                refine (HBA.out W hk.below).mono ?_
                rintro _ W1 ⟨rfl, hB⟩
                go_simp
                refine hK.out _ _ ⟨x57, (.agg #[vA, tA]), x59, (.int .i16 x), (.int .i64 (j : Int)), (.int .i16 x1), x63, x64, x65, x66, x67, x68, x69, x70, x71, x72, by simp only [Act.put, List.setIfInBounds_toArray, List.set_cons_zero, List.set_cons_succ], ?_⟩
                exact ⟨fun h => hF.out.f0 (by simpa using h), fun h => hF.out.f1 (by simpa using h), fun h => hF.out.f2 (by simpa using h), fun h => hF.out.f3 (by simpa using h), fun h => hF.out.f4 (by simpa using h), fun _ => rfl, fun h => hF.out.f6 (by simpa using h), fun h => hF.out.f7 (by simpa using h), fun h => hF.out.f8 (by simpa using h), fun h => hF.out.f9 (by simpa using h), fun h => hF.out.f10 (by simpa using h), fun h => hF.out.f11 (by simpa using h), fun h => hF.out.f12 (by simpa using h), fun h => hF.out.f13 (by simpa using h), fun h => hF.out.f14 (by simpa using h), fun h => hF.out.f15 (by simpa using h), fun _ => by simp, fun h => by have := hF.out.o14_10 (by simpa using h); simpa using this, fun _ => by simpa using e5_1, fun _ => by simpa using e5_3, fun h => by have := hF.out.o10_6 (by simpa using h); simpa using this, fun h => by have := hF.out.o10_8 (by simpa using h); simpa using this, fun h => by have := hF.out.p1 (by simpa using h); simpa using this, fun h => by have := hF.out.p3 (by simpa using h); simpa using this, fun _ => by simp, fun h => by have := hF.out.p6 (by simpa using h); simpa using this, fun h => by have := hF.out.p8 (by simpa using h); simpa using this, fun h => by have := hF.out.p10 (by simpa using h); simpa using this, fun _ => hk.next hB, fun h => by have := HN15.out; simp [this] at h⟩
              · intro d act W hI hd hdep
                obtain ⟨x57, x58, x59, x60, x61, x62, x63, x64, x65, x66, x67, x68, x69, x70, x71, x72, rfl, hF⟩ := hI
                have hn15 := no_later hF.out.p6 hd
                have hk := hF.out.k2 hn15
                have HN15 : Hid (d 15 = false) := hn15
                clear hn15
                have y0 := hk.c2
                have y1 := hk.c3
                clear hdep hd
                intro K hK
                simp only [Act.put, List.setIfInBounds_toArray, List.set_cons_zero, List.set_cons_succ]
                go_simp
                refine hK.out _ _ ⟨x57, x58, x59, x60, x61, x62, (.agg #[vB, tB]), x64, x65, x66, x67, x68, x69, x70, x71, x72, by simp only [Act.put, List.setIfInBounds_toArray, List.set_cons_zero, List.set_cons_succ], ?_⟩
                exact ⟨fun h => hF.out.f0 (by simpa using h), fun h => hF.out.f1 (by simpa using h), fun h => hF.out.f2 (by simpa using h), fun h => hF.out.f3 (by simpa using h), fun h => hF.out.f4 (by simpa using h), fun h => hF.out.f5 (by simpa using h), fun _ => rfl, fun h => hF.out.f7 (by simpa using h), fun h => hF.out.f8 (by simpa using h), fun h => hF.out.f9 (by simpa using h), fun h => hF.out.f10 (by simpa using h), fun h => hF.out.f11 (by simpa using h), fun h => hF.out.f12 (by simpa using h), fun h => hF.out.f13 (by simpa using h), fun h => hF.out.f14 (by simpa using h), fun h => hF.out.f15 (by simpa using h), fun h => by have := hF.out.o14_5 (by simpa using h); simpa using this, fun h => by have := hF.out.o14_10 (by simpa using h); simpa using this, fun h => by have := hF.out.o5_1 (by simpa using h); simpa using this, fun h => by have := hF.out.o5_3 (by simpa using h); simpa using this, fun _ => by simp, fun h => by have := hF.out.o10_8 (by simpa using h); simpa using this, fun h => by have := hF.out.p1 (by simpa using h); simpa using this, fun h => by have := hF.out.p3 (by simpa using h); simpa using this, fun h => by have := hF.out.p5 (by simpa using h); simpa using this, fun _ => by simp, fun h => by have := hF.out.p8 (by simpa using h); simpa using this, fun h => by have := hF.out.p10 (by simpa using h); simpa using this, fun h => hF.out.k2 (by simpa using h), fun h => hF.out.fin (by simpa using h)⟩
              · intro d act W hI hd hdep
                obtain ⟨x57, x58, x59, x60, x61, x62, x63, x64, x65, x66, x67, x68, x69, x70, x71, x72, rfl, hF⟩ := hI
                clear hdep hd
                intro K hK
                simp only [Act.put, List.setIfInBounds_toArray, List.set_cons_zero, List.set_cons_succ]
                go_simp
                refine hK.out _ _ ⟨x57, x58, x59, x60, x61, x62, x63, (.pointer (some ⟨gB, 1, none⟩)), x65, x66, x67, x68, x69, x70, x71, x72, by simp only [Act.put, List.setIfInBounds_toArray, List.set_cons_zero, List.set_cons_succ], ?_⟩
                exact ⟨fun h => hF.out.f0 (by simpa using h), fun h => hF.out.f1 (by simpa using h), fun h => hF.out.f2 (by simpa using h), fun h => hF.out.f3 (by simpa using h), fun h => hF.out.f4 (by simpa using h), fun h => hF.out.f5 (by simpa using h), fun h => hF.out.f6 (by simpa using h), fun _ => rfl, fun h => hF.out.f8 (by simpa using h), fun h => hF.out.f9 (by simpa using h), fun h => hF.out.f10 (by simpa using h), fun h => hF.out.f11 (by simpa using h), fun h => hF.out.f12 (by simpa using h), fun h => hF.out.f13 (by simpa using h), fun h => hF.out.f14 (by simpa using h), fun h => hF.out.f15 (by simpa using h), fun h => by have := hF.out.o14_5 (by simpa using h); simpa using this, fun h => by have := hF.out.o14_10 (by simpa using h); simpa using this, fun h => by have := hF.out.o5_1 (by simpa using h); simpa using this, fun h => by have := hF.out.o5_3 (by simpa using h); simpa using this, fun h => by have := hF.out.o10_6 (by simpa using h); simpa using this, fun h => by have := hF.out.o10_8 (by simpa using h); simpa using this, fun h => by have := hF.out.p1 (by simpa using h); simpa using this, fun h => by have := hF.out.p3 (by simpa using h); simpa using this, fun h => by have := hF.out.p5 (by simpa using h); simpa using this, fun h => by have := hF.out.p6 (by simpa using h); simpa using this, fun h => by have := hF.out.p8 (by simpa using h); simpa using this, fun h => by have := hF.out.p10 (by simpa using h); simpa using this, fun h => hF.out.k2 (by simpa using h), fun h => hF.out.fin (by simpa using h)⟩
              · intro d act W hI hd hdep
                obtain ⟨x57, x58, x59, x60, x61, x62, x63, x64, x65, x66, x67, x68, x69, x70, x71, x72, rfl, hF⟩ := hI
                have hd7 : d 7 = true := dep_of hdep 7 (by kernel_rfl)
                obtain rfl := hF.out.f7 hd7
                have hn15 := no_later hF.out.p8 hd
                have hk := hF.out.k2 hn15
                have HN15 : Hid (d 15 = false) := hn15
                clear hn15
                have y0 := hk.s1
                clear hdep hd hd7
                intro K hK
                simp only [Act.put, List.setIfInBounds_toArray, List.set_cons_zero, List.set_cons_succ]
                go_simp
                refine hK.out _ _ ⟨x57, x58, x59, x60, x61, x62, x63, (.pointer (some ⟨gB, 1, none⟩)), (.int .i16 y), x66, x67, x68, x69, x70, x71, x72, by simp only [Act.put, List.setIfInBounds_toArray, List.set_cons_zero, List.set_cons_succ], ?_⟩
                exact ⟨fun h => hF.out.f0 (by simpa using h), fun h => hF.out.f1 (by simpa using h), fun h => hF.out.f2 (by simpa using h), fun h => hF.out.f3 (by simpa using h), fun h => hF.out.f4 (by simpa using h), fun h => hF.out.f5 (by simpa using h), fun h => hF.out.f6 (by simpa using h), fun h => hF.out.f7 (by simpa using h), fun _ => rfl, fun h => hF.out.f9 (by simpa using h), fun h => hF.out.f10 (by simpa using h), fun h => hF.out.f11 (by simpa using h), fun h => hF.out.f12 (by simpa using h), fun h => hF.out.f13 (by simpa using h), fun h => hF.out.f14 (by simpa using h), fun h => hF.out.f15 (by simpa using h), fun h => by have := hF.out.o14_5 (by simpa using h); simpa using this, fun h => by have := hF.out.o14_10 (by simpa using h); simpa using this, fun h => by have := hF.out.o5_1 (by simpa using h); simpa using this, fun h => by have := hF.out.o5_3 (by simpa using h); simpa using this, fun h => by have := hF.out.o10_6 (by simpa using h); simpa using this, fun _ => by simp, fun h => by have := hF.out.p1 (by simpa using h); simpa using this, fun h => by have := hF.out.p3 (by simpa using h); simpa using this, fun h => by have := hF.out.p5 (by simpa using h); simpa using this, fun h => by have := hF.out.p6 (by simpa using h); simpa using this, fun _ => by simp, fun h => by have := hF.out.p10 (by simpa using h); simpa using this, fun h => hF.out.k2 (by simpa using h), fun h => hF.out.fin (by simpa using h)⟩
              · intro d act W hI hd hdep
                obtain ⟨x57, x58, x59, x60, x61, x62, x63, x64, x65, x66, x67, x68, x69, x70, x71, x72, rfl, hF⟩ := hI
                clear hdep hd
                intro K hK
                simp only [Act.put, List.setIfInBounds_toArray, List.set_cons_zero, List.set_cons_succ]
                go_simp
                refine hK.out _ _ ⟨x57, x58, x59, x60, x61, x62, x63, x64, x65, (.int .i64 (j : Int)), x67, x68, x69, x70, x71, x72, by simp only [Act.put, List.setIfInBounds_toArray, List.set_cons_zero, List.set_cons_succ], ?_⟩
                exact ⟨fun h => hF.out.f0 (by simpa using h), fun h => hF.out.f1 (by simpa using h), fun h => hF.out.f2 (by simpa using h), fun h => hF.out.f3 (by simpa using h), fun h => hF.out.f4 (by simpa using h), fun h => hF.out.f5 (by simpa using h), fun h => hF.out.f6 (by simpa using h), fun h => hF.out.f7 (by simpa using h), fun h => hF.out.f8 (by simpa using h), fun _ => rfl, fun h => hF.out.f10 (by simpa using h), fun h => hF.out.f11 (by simpa using h), fun h => hF.out.f12 (by simpa using h), fun h => hF.out.f13 (by simpa using h), fun h => hF.out.f14 (by simpa using h), fun h => hF.out.f15 (by simpa using h), fun h => by have := hF.out.o14_5 (by simpa using h); simpa using this, fun h => by have := hF.out.o14_10 (by simpa using h); simpa using this, fun h => by have := hF.out.o5_1 (by simpa using h); simpa using this, fun h => by have := hF.out.o5_3 (by simpa using h); simpa using this, fun h => by have := hF.out.o10_6 (by simpa using h); simpa using this, fun h => by have := hF.out.o10_8 (by simpa using h); simpa using this, fun h => by have := hF.out.p1 (by simpa using h); simpa using this, fun h => by have := hF.out.p3 (by simpa using h); simpa using this, fun h => by have := hF.out.p5 (by simpa using h); simpa using this, fun h => by have := hF.out.p6 (by simpa using h); simpa using this, fun h => by have := hF.out.p8 (by simpa using h); simpa using this, fun h => by have := hF.out.p10 (by simpa using h); simpa using this, fun h => hF.out.k2 (by simpa using h), fun h => hF.out.fin (by simpa using h)⟩
              · intro d act W hI hd hdep
                obtain ⟨x57, x58, x59, x60, x61, x62, x63, x64, x65, x66, x67, x68, x69, x70, x71, x72, rfl, hF⟩ := hI
                have hd6 : d 6 = true := dep_of hdep 6 (by kernel_rfl)
                have hd8 : d 8 = true := dep_of hdep 8 (by kernel_rfl)
                have hd9 : d 9 = true := dep_of hdep 9 (by kernel_rfl)
                obtain rfl := hF.out.f6 hd6
                obtain rfl := hF.out.f8 hd8
                obtain rfl := hF.out.f9 hd9
                have hn15 := no_later hF.out.p10 hd
                have hk := hF.out.k2 hn15
                have HN15 : Hid (d 15 = false) := hn15
                clear hn15
                have e10_6 := hd6
                have e10_8 := hd8
                clear hdep hd hd6 hd8 hd9
                intro K hK
                simp only [Act.put, List.setIfInBounds_toArray, List.set_cons_zero, List.set_cons_succ]
                go_simp
                refine (HBB.out W hk.below).mono ?_
                rintro _ W1 ⟨rfl, hB⟩
                go_simp
                refine hK.out _ _ ⟨x57, x58, x59, x60, x61, x62, (.agg #[vB, tB]), x64, (.int .i16 y), (.int .i64 (j : Int)), (.int .i16 y1), x68, x69, x70, x71, x72, by simp only [Act.put, List.setIfInBounds_toArray, List.set_cons_zero, List.set_cons_succ], ?_⟩
                exact ⟨fun h => hF.out.f0 (by simpa using h), fun h => hF.out.f1 (by simpa using h), fun h => hF.out.f2 (by simpa using h), fun h => hF.out.f3 (by simpa using h), fun h => hF.out.f4 (by simpa using h), fun h => hF.out.f5 (by simpa using h), fun h => hF.out.f6 (by simpa using h), fun h => hF.out.f7 (by simpa using h), fun h => hF.out.f8 (by simpa using h), fun h => hF.out.f9 (by simpa using h), fun _ => rfl, fun h => hF.out.f11 (by simpa using h), fun h => hF.out.f12 (by simpa using h), fun h => hF.out.f13 (by simpa using h), fun h => hF.out.f14 (by simpa using h), fun h => hF.out.f15 (by simpa using h), fun h => by have := hF.out.o14_5 (by simpa using h); simpa using this, fun _ => by simp, fun h => by have := hF.out.o5_1 (by simpa using h); simpa using this, fun h => by have := hF.out.o5_3 (by simpa using h); simpa using this, fun _ => by simpa using e10_6, fun _ => by simpa using e10_8, fun h => by have := hF.out.p1 (by simpa using h); simpa using this, fun h => by have := hF.out.p3 (by simpa using h); simpa using this, fun h => by have := hF.out.p5 (by simpa using h); simpa using this, fun h => by have := hF.out.p6 (by simpa using h); simpa using this, fun h => by have := hF.out.p8 (by simpa using h); simpa using this, fun _ => by simp, fun _ => hk.next hB, fun h => by have := HN15.out; simp [this] at h⟩
              · intro d act W hI hd hdep
                obtain ⟨x57, x58, x59, x60, x61, x62, x63, x64, x65, x66, x67, x68, x69, x70, x71, x72, rfl, hF⟩ := hI
                clear hdep hd
                intro K hK
                simp only [Act.put, List.setIfInBounds_toArray, List.set_cons_zero, List.set_cons_succ]
                go_simp
                refine hK.out _ _ ⟨x57, x58, x59, x60, x61, x62, x63, x64, x65, x66, x67, (.int .i64 (a : Int)), x69, x70, x71, x72, by simp only [Act.put, List.setIfInBounds_toArray, List.set_cons_zero, List.set_cons_succ], ?_⟩
                exact ⟨fun h => hF.out.f0 (by simpa using h), fun h => hF.out.f1 (by simpa using h), fun h => hF.out.f2 (by simpa using h), fun h => hF.out.f3 (by simpa using h), fun h => hF.out.f4 (by simpa using h), fun h => hF.out.f5 (by simpa using h), fun h => hF.out.f6 (by simpa using h), fun h => hF.out.f7 (by simpa using h), fun h => hF.out.f8 (by simpa using h), fun h => hF.out.f9 (by simpa using h), fun h => hF.out.f10 (by simpa using h), fun _ => rfl, fun h => hF.out.f12 (by simpa using h), fun h => hF.out.f13 (by simpa using h), fun h => hF.out.f14 (by simpa using h), fun h => hF.out.f15 (by simpa using h), fun h => by have := hF.out.o14_5 (by simpa using h); simpa using this, fun h => by have := hF.out.o14_10 (by simpa using h); simpa using this, fun h => by have := hF.out.o5_1 (by simpa using h); simpa using this, fun h => by have := hF.out.o5_3 (by simpa using h); simpa using this, fun h => by have := hF.out.o10_6 (by simpa using h); simpa using this, fun h => by have := hF.out.o10_8 (by simpa using h); simpa using this, fun h => by have := hF.out.p1 (by simpa using h); simpa using this, fun h => by have := hF.out.p3 (by simpa using h); simpa using this, fun h => by have := hF.out.p5 (by simpa using h); simpa using this, fun h => by have := hF.out.p6 (by simpa using h); simpa using this, fun h => by have := hF.out.p8 (by simpa using h); simpa using this, fun h => by have := hF.out.p10 (by simpa using h); simpa using this, fun h => hF.out.k2 (by simpa using h), fun h => hF.out.fin (by simpa using h)⟩
              · intro d act W hI hd hdep
                obtain ⟨x57, x58, x59, x60, x61, x62, x63, x64, x65, x66, x67, x68, x69, x70, x71, x72, rfl, hF⟩ := hI
                clear hdep hd
                intro K hK
                simp only [Act.put, List.setIfInBounds_toArray, List.set_cons_zero, List.set_cons_succ]
                go_simp
                refine hK.out _ _ ⟨x57, x58, x59, x60, x61, x62, x63, x64, x65, x66, x67, x68, (.int .i64 (j : Int)), x70, x71, x72, by simp only [Act.put, List.setIfInBounds_toArray, List.set_cons_zero, List.set_cons_succ], ?_⟩
                exact ⟨fun h => hF.out.f0 (by simpa using h), fun h => hF.out.f1 (by simpa using h), fun h => hF.out.f2 (by simpa using h), fun h => hF.out.f3 (by simpa using h), fun h => hF.out.f4 (by simpa using h), fun h => hF.out.f5 (by simpa using h), fun h => hF.out.f6 (by simpa using h), fun h => hF.out.f7 (by simpa using h), fun h => hF.out.f8 (by simpa using h), fun h => hF.out.f9 (by simpa using h), fun h => hF.out.f10 (by simpa using h), fun h => hF.out.f11 (by simpa using h), fun _ => rfl, fun h => hF.out.f13 (by simpa using h), fun h => hF.out.f14 (by simpa using h), fun h => hF.out.f15 (by simpa using h), fun h => by have := hF.out.o14_5 (by simpa using h); simpa using this, fun h => by have := hF.out.o14_10 (by simpa using h); simpa using this, fun h => by have := hF.out.o5_1 (by simpa using h); simpa using this, fun h => by have := hF.out.o5_3 (by simpa using h); simpa using this, fun h => by have := hF.out.o10_6 (by simpa using h); simpa using this, fun h => by have := hF.out.o10_8 (by simpa using h); simpa using this, fun h => by have := hF.out.p1 (by simpa using h); simpa using this, fun h => by have := hF.out.p3 (by simpa using h); simpa using this, fun h => by have := hF.out.p5 (by simpa using h); simpa using this, fun h => by have := hF.out.p6 (by simpa using h); simpa using this, fun h => by have := hF.out.p8 (by simpa using h); simpa using this, fun h => by have := hF.out.p10 (by simpa using h); simpa using this, fun h => hF.out.k2 (by simpa using h), fun h => hF.out.fin (by simpa using h)⟩
              · intro d act W hI hd hdep
                obtain ⟨x57, x58, x59, x60, x61, x62, x63, x64, x65, x66, x67, x68, x69, x70, x71, x72, rfl, hF⟩ := hI
                have hd12 : d 12 = true := dep_of hdep 12 (by kernel_rfl)
                obtain rfl := hF.out.f12 hd12
                have hw8 := HW8.out
                clear hdep hd hd12
                intro K hK
                simp only [Act.put, List.setIfInBounds_toArray, List.set_cons_zero, List.set_cons_succ]
                go_simp
                refine hK.out _ _ ⟨x57, x58, x59, x60, x61, x62, x63, x64, x65, x66, x67, x68, (.int .i64 (j : Int)), (.int .u8 (j : Int)), x71, x72, by simp only [Act.put, List.setIfInBounds_toArray, List.set_cons_zero, List.set_cons_succ], ?_⟩
                exact ⟨fun h => hF.out.f0 (by simpa using h), fun h => hF.out.f1 (by simpa using h), fun h => hF.out.f2 (by simpa using h), fun h => hF.out.f3 (by simpa using h), fun h => hF.out.f4 (by simpa using h), fun h => hF.out.f5 (by simpa using h), fun h => hF.out.f6 (by simpa using h), fun h => hF.out.f7 (by simpa using h), fun h => hF.out.f8 (by simpa using h), fun h => hF.out.f9 (by simpa using h), fun h => hF.out.f10 (by simpa using h), fun h => hF.out.f11 (by simpa using h), fun h => hF.out.f12 (by simpa using h), fun _ => rfl, fun h => hF.out.f14 (by simpa using h), fun h => hF.out.f15 (by simpa using h), fun h => by have := hF.out.o14_5 (by simpa using h); simpa using this, fun h => by have := hF.out.o14_10 (by simpa using h); simpa using this, fun h => by have := hF.out.o5_1 (by simpa using h); simpa using this, fun h => by have := hF.out.o5_3 (by simpa using h); simpa using this, fun h => by have := hF.out.o10_6 (by simpa using h); simpa using this, fun h => by have := hF.out.o10_8 (by simpa using h); simpa using this, fun h => by have := hF.out.p1 (by simpa using h); simpa using this, fun h => by have := hF.out.p3 (by simpa using h); simpa using this, fun h => by have := hF.out.p5 (by simpa using h); simpa using this, fun h => by have := hF.out.p6 (by simpa using h); simpa using this, fun h => by have := hF.out.p8 (by simpa using h); simpa using this, fun h => by have := hF.out.p10 (by simpa using h); simpa using this, fun h => hF.out.k2 (by simpa using h), fun h => hF.out.fin (by simpa using h)⟩
              · intro d act W hI hd hdep
                obtain ⟨x57, x58, x59, x60, x61, x62, x63, x64, x65, x66, x67, x68, x69, x70, x71, x72, rfl, hF⟩ := hI
                have hd5 : d 5 = true := dep_of hdep 5 (by kernel_rfl)
                have hd10 : d 10 = true := dep_of hdep 10 (by kernel_rfl)
                have hd11 : d 11 = true := dep_of hdep 11 (by kernel_rfl)
                have hd13 : d 13 = true := dep_of hdep 13 (by kernel_rfl)
                obtain rfl := hF.out.f5 hd5
                obtain rfl := hF.out.f10 hd10
                obtain rfl := hF.out.f11 hd11
                obtain rfl := hF.out.f13 hd13
                have e14_5 := hd5
                have e14_10 := hd10
                clear hdep hd hd5 hd10 hd11 hd13
                intro K hK
                simp only [Act.put, List.setIfInBounds_toArray, List.set_cons_zero, List.set_cons_succ]
                go_simp
                refine hK.out _ _ ⟨x57, x58, x59, x60, x61, (.int .i16 x1), x63, x64, x65, x66, (.int .i16 y1), (.int .i64 (a : Int)), x69, (.int .u8 (j : Int)), (.agg #[.int .i16 x1, .int .i16 y1, .int .i64 (a : Int), .int .u8 (j : Int)]), x72, by simp only [Act.put, List.setIfInBounds_toArray, List.set_cons_zero, List.set_cons_succ], ?_⟩
                exact ⟨fun h => hF.out.f0 (by simpa using h), fun h => hF.out.f1 (by simpa using h), fun h => hF.out.f2 (by simpa using h), fun h => hF.out.f3 (by simpa using h), fun h => hF.out.f4 (by simpa using h), fun h => hF.out.f5 (by simpa using h), fun h => hF.out.f6 (by simpa using h), fun h => hF.out.f7 (by simpa using h), fun h => hF.out.f8 (by simpa using h), fun h => hF.out.f9 (by simpa using h), fun h => hF.out.f10 (by simpa using h), fun h => hF.out.f11 (by simpa using h), fun h => hF.out.f12 (by simpa using h), fun h => hF.out.f13 (by simpa using h), fun _ => rfl, fun h => hF.out.f15 (by simpa using h), fun _ => by simpa using e14_5, fun _ => by simpa using e14_10, fun h => by have := hF.out.o5_1 (by simpa using h); simpa using this, fun h => by have := hF.out.o5_3 (by simpa using h); simpa using this, fun h => by have := hF.out.o10_6 (by simpa using h); simpa using this, fun h => by have := hF.out.o10_8 (by simpa using h); simpa using this, fun h => by have := hF.out.p1 (by simpa using h); simpa using this, fun h => by have := hF.out.p3 (by simpa using h); simpa using this, fun h => by have := hF.out.p5 (by simpa using h); simpa using this, fun h => by have := hF.out.p6 (by simpa using h); simpa using this, fun h => by have := hF.out.p8 (by simpa using h); simpa using this, fun h => by have := hF.out.p10 (by simpa using h); simpa using this, fun h => hF.out.k2 (by simpa using h), fun h => hF.out.fin (by simpa using h)⟩
              · intro d act W hI hd hdep
                obtain ⟨x57, x58, x59, x60, x61, x62, x63, x64, x65, x66, x67, x68, x69, x70, x71, x72, rfl, hF⟩ := hI
                have hd0 : d 0 = true := dep_of hdep 0 (by kernel_rfl)
                have hd14 : d 14 = true := dep_of hdep 14 (by kernel_rfl)
                obtain rfl := hF.out.f0 hd0
                obtain rfl := hF.out.f14 hd14
                have hk := hF.out.k2 hd
                have g5 := hF.out.o14_5 hd14
                have g10 := hF.out.o14_10 hd14
                have g1 := hF.out.o5_1 g5
                have g3 := hF.out.o5_3 g5
                have g6 := hF.out.o10_6 g10
                have g8 := hF.out.o10_8 g10
                clear hdep hd hd0 hd14
                intro K hK
                simp only [Act.put, List.setIfInBounds_toArray, List.set_cons_zero, List.set_cons_succ]
                go_simp
                refine (come_any x1 y1 a j (wd ++ [UInt8.ofNat j]) W hk.k1.wk HPR.out HAN.out.1 HAN.out.2 HNM.out.1 HNM.out.2.1 HQL.out).mono ?_
                rintro _ W1 ⟨rfl, hmv, hres⟩
                go_simp
                refine hK.out _ _ ⟨(.pointer (some ⟨G + 1, 0, none⟩)), x58, x59, x60, x61, x62, x63, x64, x65, x66, x67, x68, x69, x70, (.agg #[.int .i16 x1, .int .i16 y1, .int .i64 (a : Int), .int .u8 (j : Int)]), (.tuple #[]), by simp only [Act.put, List.setIfInBounds_toArray, List.set_cons_zero, List.set_cons_succ], ?_⟩
                exact ⟨fun h => hF.out.f0 (by simpa using h), fun h => hF.out.f1 (by simpa using h), fun h => hF.out.f2 (by simpa using h), fun h => hF.out.f3 (by simpa using h), fun h => hF.out.f4 (by simpa using h), fun h => hF.out.f5 (by simpa using h), fun h => hF.out.f6 (by simpa using h), fun h => hF.out.f7 (by simpa using h), fun h => hF.out.f8 (by simpa using h), fun h => hF.out.f9 (by simpa using h), fun h => hF.out.f10 (by simpa using h), fun h => hF.out.f11 (by simpa using h), fun h => hF.out.f12 (by simpa using h), fun h => hF.out.f13 (by simpa using h), fun h => hF.out.f14 (by simpa using h), fun _ => rfl, fun h => by have := hF.out.o14_5 (by simpa using h); simpa using this, fun h => by have := hF.out.o14_10 (by simpa using h); simpa using this, fun h => by have := hF.out.o5_1 (by simpa using h); simpa using this, fun h => by have := hF.out.o5_3 (by simpa using h); simpa using this, fun h => by have := hF.out.o10_6 (by simpa using h); simpa using this, fun h => by have := hF.out.o10_8 (by simpa using h); simpa using this, fun _ => by simpa using g1, fun _ => by simpa using g3, fun _ => by simpa using g5, fun _ => by simpa using g6, fun _ => by simpa using g8, fun _ => by simpa using g10, fun h => by simp at h, fun _ => K2.come hk hmv hres⟩
            · intro d act W hI hall
              obtain ⟨x57, x58, x59, x60, x61, x62, x63, x64, x65, x66, x67, x68, x69, x70, x71, x72, rfl, hF⟩ := hI
              simp only [List.length_cons, List.length_nil] at hall
              obtain rfl := hF.out.f0 (hall 0 (by omega))
              obtain rfl := hF.out.f1 (hall 1 (by omega))
              obtain rfl := hF.out.f2 (hall 2 (by omega))
              obtain rfl := hF.out.f3 (hall 3 (by omega))
              obtain rfl := hF.out.f4 (hall 4 (by omega))
              obtain rfl := hF.out.f5 (hall 5 (by omega))
              obtain rfl := hF.out.f6 (hall 6 (by omega))
              obtain rfl := hF.out.f7 (hall 7 (by omega))
              obtain rfl := hF.out.f8 (hall 8 (by omega))
              obtain rfl := hF.out.f9 (hall 9 (by omega))
              obtain rfl := hF.out.f10 (hall 10 (by omega))
              obtain rfl := hF.out.f11 (hall 11 (by omega))
              obtain rfl := hF.out.f12 (hall 12 (by omega))
              obtain rfl := hF.out.f13 (hall 13 (by omega))
              obtain rfl := hF.out.f14 (hall 14 (by omega))
              obtain rfl := hF.out.f15 (hall 15 (by omega))
              have HFN : Hid (((F' (x1 + 1).toNat (y1 + 1).toNat = true ∧ K2 w RA RB vA tA vB tB n m G F' Q' sv' gB x y W) ∨ (F' (x1 + 1).toNat (y1 + 1).toNat = false ∧ ∃ svN, K2 w RA RB vA tA vB tB n m G (upd F' (x1 + 1).toNat (y1 + 1).toNat) (Q' ++ [⟨wd ++ [UInt8.ofNat j], a, j⟩]) svN gB x y W))) := hF.out.fin (hall 15 (by omega))
              clear hF hall
              simp only [Act.put, List.setIfInBounds_toArray, List.set_cons_zero, List.set_cons_succ]
              have HX1 : Hid (∃ FN QN svN, K2 w RA RB vA tA vB tB n m G FN QN svN gB x y W ∧ Inv (pr RA RB) QN a (j + 1) ∧ Fq RA RB n m FN QN ∧ (Dfa.g QN a).wd = wd ∧ a < QN.length ∧ ∀ i, i ≤ a → ¬ Df TA TB (pr RA RB (Dfa.g QN i).wd)) := come_next HFN.out HIV.out HFQ.out HWD.out.1 HWD.out.2 HJ.out HPR.out HAN.out.1 HAN.out.2 HND.out
              clear HFN
              go_wp2_with fail
              go_roundw
              case rel => exact ⟨j + 1, by omega, by go_num, HX1⟩
              case measure => simp [intOf]; omega

          · obtain rfl : j = 256 := by omega
            have HIN : Hid (Inv (pr RA RB) Q' (a + 1) 0) := HIV.out.next
            have hq2 : a + 1 ≤ 40401 := by omega
            go_wp2_with fail
            go_roundw
            case rel => exact ⟨a + 1, hq2, by go_num, F', Q', sv', HK2.out.k1, HIN.out, HFQ.out, fun i hi _ => HND.out i (by omega)⟩
            case measure => simp [intOf]; omega
      · have HDF : Hid (¬ t1 = t2) := hdf
        have hbb : (t1 != t2) = true := by simp [hdf]
        have HTO : Hid (Told RA RB TA TB wd true) := by
          refine Or.inl ⟨rfl, ?_, fun v hv => ?_⟩
          · rw [HPW.out]; unfold Df; rw [HT1.out, HT2.out]; exact HDF.out
          · have := (HIV.out.least (pr_next RA RB) (Df TA TB) HNDa.out v hv).2
            rwa [HWD0.out] at this
        have HWL : Hid (wd.toArray.size ≤ 50000) := by
          have := inv_len HIV.out a hlt
          rw [HWD0.out] at this
          show _ ≤ _; rw [List.size_toArray]; omega
        have htx := text_any a W2 HK3.out.k1.wk HIV.out hlt (by omega)
        rw [HWD0.out] at htx
        have HTX : Hid (Calls Try.prog 39 #[.pointer (some ⟨G + 1, 0, none⟩), .int .i64 (a : Int)] W2 fun e w' => e = .returned (.string ⟨wd.toArray⟩) ∧ Below W2.heap.size W2 w') := htx
        have HB2 : Hid (Below w.heap.size w W2) := HK3.out.below
        clear hdf htx
        go_wp2_with fail
        refine HTX.out.mono ?_
        rintro _ w5 ⟨rfl, hb⟩
        have HB5 : Hid (Below w.heap.size w w5) := HB2.out.trans (hb.mono HB2.out.size)
        clear hb
        go_wp2_with fail
        go_ret3
        exact ⟨⟨wd.toArray⟩, true, rfl, HTO.out, HWL.out, HB5.out⟩
    · have HTO : Hid (Told RA RB TA TB [] false) := by
        refine Or.inr ⟨rfl, rfl, fun v hv => ?_⟩
        have := (HIV.out.least (pr_next RA RB) (Df TA TB) HNDa.out v hv).1
        omega
      have HB : Hid (Below w.heap.size w wr) := HK1.out.below
      clear hcell
      go_wp2_with fail
      go_ret3
      exact ⟨⟨#[]⟩, false, rfl, HTO.out, by show 0 ≤ 50000; omega, HB.out⟩
end Go.Proofs.Ytlgcggfenljdnaa
