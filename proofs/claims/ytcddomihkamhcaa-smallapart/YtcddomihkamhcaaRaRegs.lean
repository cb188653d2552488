/-
  The contract of the document's own answer: pushref.Apart.
-/
import Derived.Test.YtcddomihkamhcaaRaKeep
import Derived.Deep.AppendLies
import Derived.Laws.BytesArg
namespace Go.Proofs.Ytcddomihkamhcaa
open Go.RowKit
open Dfa

theorem row_two52 (w : World) : (w.alloc (.cells #[Value.int .i64 0, Value.int .i64 0] 52)).rowIs w.heap.size 52 2 (fun _ => .int .i64 0) := by
  have := World.rowIs_alloc w #[Value.int .i64 0, Value.int .i64 0] 52 (fun _ => .int .i64 0) (fun i hi => by
    have : i = 0 ∨ i = 1 := by simp at hi; omega
    rcases this with rfl | rfl <;> simp)
  exact this
theorem row_two_set52 {w : World} {g : Nat} {f : Nat → Value} (h : w.rowIs g 52 2 f) (u v : Value) : ((w.setCell ⟨g, 0, none⟩ u).setCell ⟨g, 1, none⟩ v).rowIs g 52 2 (fun i => if i = 0 then u else v) :=
  ((h.set 0 u).set 1 v).congr fun i hi => by
    have : i = 0 ∨ i = 1 := by omega
    rcases this with rfl | rfl <;> simp
theorem RK.size {w : World} {RA RB : Nat → Nat → Int} {vA tA vB tB : Value} {F : Nat → Bool} {N M1 M2 : List S} {nv tv hv sv : Value} {W : World} (h : RK w RA RB vA tA vB tB F N M1 M2 nv tv hv sv W) : w.heap.size + 3 ≤ W.heap.size := h.seen.lt
theorem RK.fresh {w : World} {RA RB : Nat → Nat → Int} {vA tA vB tB : Value} {F : Nat → Bool} {N M1 M2 : List S} {nv tv hv sv : Value} {W : World} (h : RK w RA RB vA tA vB tB F N M1 M2 nv tv hv sv W) : ∀ v : Value, (v = nv ∨ v = tv ∨ v = hv ∨ v = sv) → v.ownBlock ≠ some W.heap.size := by
  rintro v (rfl | rfl | rfl | rfl) e
  · have := (h.now.lt _ e).2; omega
  · have := (h.txt.lt _ e).2; omega
  · have := (h.thn.lt _ e).2; omega
  · have := (h.sad.lt _ e).2; omega
theorem RK.other {w : World} {RA RB : Nat → Nat → Int} {vA tA vB tB : Value} {F : Nat → Bool} {N M1 M2 : List S} {nv tv hv sv : Value} {W : World} {gX : Nat} {u1 u2 : Value} (h : RK w RA RB vA tA vB tB F N M1 M2 nv tv hv sv W) (hg : w.heap.size + 3 ≤ gX) (hv' : ∀ v : Value, (v = nv ∨ v = tv ∨ v = hv ∨ v = sv) → v.ownBlock ≠ some gX) :
    RK w RA RB vA tA vB tB F N M1 M2 nv tv hv sv ((W.setCell ⟨gX, 0, none⟩ u1).setCell ⟨gX, 1, none⟩ u2) := by
  have e : ∀ k, k ≠ gX → ((W.setCell ⟨gX, 0, none⟩ u1).setCell ⟨gX, 1, none⟩ u2).heap[k]? = W.heap[k]? := fun k hk => (Below.heap_setCell _ _ _ _ hk).trans (Below.heap_setCell _ _ _ _ hk)
  exact ⟨(h.below.setCell (by simp; omega) _).setCell (by simp; omega) _, (cell_at (e _ (by omega))).trans h.c0, (cell_at (e _ (by omega))).trans h.c1, (cell_at (e _ (by omega))).trans h.c2, (cell_at (e _ (by omega))).trans h.c3, h.seen.of_block (e _ (by omega)),
    own_same h.now fun k hk => e k (fun x => hv' nv (by simp) (by rw [hk, x])), own_same h.txt fun k hk => e k (fun x => hv' tv (by simp) (by rw [hk, x])), own_same h.thn fun k hk => e k (fun x => hv' hv (by simp) (by rw [hk, x])), own_same h.sad fun k hk => e k (fun x => hv' sv (by simp) (by rw [hk, x])), h.ne1, h.ne2⟩
theorem conv_one {c g : Nat} {W : World} (hc : c < 256) (h : W.cell? ⟨g, 0, none⟩ = some (.int .u8 (c : Int))) : (convert 58 9 (.slice (some ⟨g, 0, none⟩) 1 1)).run Try.prog W = .ok (.string ⟨#[UInt8.ofNat c]⟩) W := by
  have := run_convert_bytes_back (P := Try.prog) W 58 9 5 ⟨g, 0, none⟩ 1 [UInt8.ofNat c] Try.underlying58 Try.underlying5 Try.underlying9 (fun j hj => by
    obtain rfl : j = 0 := by simp at hj; omega
    rw [Go.WideShapes.add_plain, Nat.zero_add, h]
    simp [ofNat_small hc])
  exact this
theorem cell_of_one9 {W : World} {u : Value} {j : Nat} : (W.alloc (.cells #[u] 9)).cell? ⟨W.heap.size, j, none⟩ = ([u] : List Value)[j]? := cell_of_block W [u] 9 j
theorem bytes_ext2 {s t : ByteArray} (h : s.data.toList = t.data.toList) : s = t := by
  obtain ⟨⟨l⟩⟩ := s
  obtain ⟨⟨m⟩⟩ := t
  simp at h
  rw [h]
theorem rk_start (w : World) (RA RB : Nat → Nat → Int) (vA tA vB tB : Value) (cs : Array Value) (h1 : cs.size = 40602) (h2 : ∀ i, i < 40602 → cs[i]? = some (.bool false)) :
    RK w RA RB vA tA vB tB (fun _ => false) [s0] [] [] (.slice (some ⟨w.heap.size + 3, 0, none⟩) 1 1) (.slice (some ⟨w.heap.size + 4, 0, none⟩) 1 1) (.slice none 0 0) (.slice none 0 0) (((((w.alloc (Obj.cells #[vA, tA] 25)).alloc (Obj.cells #[vB, tB] 25)).alloc (Obj.cells cs 4)).alloc (Obj.cells #[Value.int IntKind.i64 0, Value.int IntKind.i64 0] 52)).alloc (Obj.cells #[Value.string ⟨#[]⟩] 9)) := by
  have ea : (w.alloc (Obj.cells #[vA, tA] 25)).heap.size = w.heap.size + 1 := by simp
  have eb : ((w.alloc (Obj.cells #[vA, tA] 25)).alloc (Obj.cells #[vB, tB] 25)).heap.size = w.heap.size + 2 := by simp
  have ec : (((w.alloc (Obj.cells #[vA, tA] 25)).alloc (Obj.cells #[vB, tB] 25)).alloc (Obj.cells cs 4)).heap.size = w.heap.size + 3 := by simp
  have ed : ((((w.alloc (Obj.cells #[vA, tA] 25)).alloc (Obj.cells #[vB, tB] 25)).alloc (Obj.cells cs 4)).alloc (Obj.cells #[Value.int IntKind.i64 0, Value.int IntKind.i64 0] 52)).heap.size = w.heap.size + 4 := by simp
  have c0 := cell_of_block w [vA, tA] 25 0
  have c1 := cell_of_block w [vA, tA] 25 1
  have c2 := cell_of_block (w.alloc (Obj.cells #[vA, tA] 25)) [vB, tB] 25 0
  have c3 := cell_of_block (w.alloc (Obj.cells #[vA, tA] 25)) [vB, tB] 25 1
  rw [ea] at c2 c3
  have hs := World.rowIs_alloc ((w.alloc (Obj.cells #[vA, tA] 25)).alloc (Obj.cells #[vB, tB] 25)) cs 4 (fun _ => .bool false) (fun i hi => h2 i (by omega))
  rw [eb, h1] at hs
  have b3 : (((((w.alloc (Obj.cells #[vA, tA] 25)).alloc (Obj.cells #[vB, tB] 25)).alloc (Obj.cells cs 4)).alloc (Obj.cells #[Value.int IntKind.i64 0, Value.int IntKind.i64 0] 52)).alloc (Obj.cells #[Value.string ⟨#[]⟩] 9)).heap[w.heap.size + 3]? = some (Obj.cells #[Value.int IntKind.i64 0, Value.int IntKind.i64 0] 52) := by
    rw [Below.heap_alloc _ _ _ (by rw [ed]; omega), ← ec]; exact heap_alloc_last _ _
  have b4 : (((((w.alloc (Obj.cells #[vA, tA] 25)).alloc (Obj.cells #[vB, tB] 25)).alloc (Obj.cells cs 4)).alloc (Obj.cells #[Value.int IntKind.i64 0, Value.int IntKind.i64 0] 52)).alloc (Obj.cells #[Value.string ⟨#[]⟩] 9)).heap[w.heap.size + 4]? = some (Obj.cells #[Value.string ⟨#[]⟩] 9) := by
    rw [← ed]; exact heap_alloc_last _ _
  refine ⟨((((((Below.refl _ _).alloc (Nat.le_refl _) _).alloc (by simp) _).alloc (by simp; omega) _).alloc (by simp; omega) _).alloc (by simp; omega) _), Go.Lib.cell?_alloc_some _ (Go.Lib.cell?_alloc_some _ (Go.Lib.cell?_alloc_some _ (Go.Lib.cell?_alloc_some _ c0))), Go.Lib.cell?_alloc_some _ (Go.Lib.cell?_alloc_some _ (Go.Lib.cell?_alloc_some _ (Go.Lib.cell?_alloc_some _ c1))), Go.Lib.cell?_alloc_some _ (Go.Lib.cell?_alloc_some _ (Go.Lib.cell?_alloc_some _ c2)), Go.Lib.cell?_alloc_some _ (Go.Lib.cell?_alloc_some _ (Go.Lib.cell?_alloc_some _ c3)), (hs.alloc _).alloc _,
    ⟨rfl, Or.inr ⟨w.heap.size + 3, 1, _, rfl, by omega, b3, by simp, by unfold maxLen; omega, rfl, rfl⟩⟩, ⟨rfl, Or.inr ⟨w.heap.size + 4, 1, _, rfl, by omega, b4, by simp, by unfold maxLen; omega, rfl, rfl⟩⟩, ⟨rfl, Or.inl ⟨rfl, rfl⟩⟩, ⟨rfl, Or.inl ⟨rfl, rfl⟩⟩, fun k _ h => by simp [Value.ownBlock] at h, fun k _ h => by simp [Value.ownBlock] at h⟩
theorem RK.turn {w : World} {RA RB : Nat → Nat → Int} {vA tA vB tB : Value} {F : Nat → Bool} {N M : List S} {nv tv hv sv : Value} {W : World} (h : RK w RA RB vA tA vB tB F N M M nv tv hv sv W) : RK w RA RB vA tA vB tB F M [] [] hv sv (.slice none 0 0) (.slice none 0 0) W :=
  ⟨h.below, h.c0, h.c1, h.c2, h.c3, h.seen, h.thn, h.sad, ⟨rfl, Or.inl ⟨rfl, rfl⟩⟩, ⟨rfl, Or.inl ⟨rfl, rfl⟩⟩, fun k _ h => by simp [Value.ownBlock] at h, fun k _ h => by simp [Value.ownBlock] at h⟩
theorem tagOf_any' (rv tv : Value) (n m : Nat) (R : Nat → Nat → Int) (T : Nat → Int) (x : Int) (w : World) (_hr : Rw w rv n R) (ht : Ts w tv m T) (hx : At m x) :
    Calls Try.prog 17 #[.agg #[rv, tv], .int .i64 x] w fun e w' => e = .returned (.int .i64 (tagOf T x)) ∧ Below w.heap.size w w' := tagOf_any rv tv m T x w ht hx.2
theorem info9 : (Try.prog.info? 9).map (fun i => (i.zero, i.size, i.bytes)) = some (some (.string ⟨#[]⟩), 1, 16) := by kernel_rfl
structure RR21 (w : World) (RA RB : Nat → Nat → Int) (vA tA vB tB : Value) (Q M : List S) (lo L gv ncap gt tcap : Nat) (F : Nat → Bool) (hv sv : Value) (i c : Nat) (x y x1 y1 : Int) (gX : Nat) (d : Nat → Bool) (x16 x66 x67 x68 x69 x70 x71 x72 x73 x74 x75 x76 x77 x78 x79 x80 x81 x82 x83 x84 : Value) (W : World) : Prop where
  f0 : d 0 = true → x66 = (.func (Fn.func 15) #[] #[])
  f1 : d 1 = true → x67 = (.agg #[vA, tA])
  f2 : d 2 = true → x68 = (.slice (some ⟨gv, 0, none⟩) L ncap)
  f3 : d 3 = true → x69 = (.int .i64 (i : Int))
  f4 : d 4 = true → x70 = (.pointer (some ⟨gv, i * 2, none⟩))
  f5 : d 5 = true → x71 = (.pointer (some ⟨gv, i * 2, none⟩))
  f6 : d 6 = true → x72 = (.int .i64 x)
  f7 : d 7 = true → x73 = (.int .i64 (c : Int))
  f8 : d 8 = true → x74 = (.int .i64 x1)
  f9 : d 9 = true → x75 = (.func (Fn.func 15) #[] #[])
  f10 : d 10 = true → x76 = (.agg #[vB, tB])
  f11 : d 11 = true → x77 = (.slice (some ⟨gv, 0, none⟩) L ncap)
  f12 : d 12 = true → x78 = (.int .i64 (i : Int))
  f13 : d 13 = true → x79 = (.pointer (some ⟨gv, i * 2, none⟩))
  f14 : d 14 = true → x80 = (.pointer (some ⟨gv, i * 2 + 1, none⟩))
  f15 : d 15 = true → x81 = (.int .i64 y)
  f16 : d 16 = true → x82 = (.int .i64 (c : Int))
  f17 : d 17 = true → x83 = (.int .i64 y1)
  f18 : d 18 = true → x84 = (.agg #[.int .i64 x1, .int .i64 y1])
  f19 : d 19 = true → x16 = (.pointer (some ⟨gX, 0, none⟩))
  f20 : d 20 = true → True
  o18_8 : d 18 = true → d 8 = true
  o18_17 : d 18 = true → d 17 = true
  p8 : d 20 = true → d 8 = true
  p17 : d 20 = true → d 17 = true
  p19 : d 20 = true → d 19 = true
  rk : RK w RA RB vA tA vB tB F (Q.drop lo) M M (.slice (some ⟨gv, 0, none⟩) L ncap) (.slice (some ⟨gt, 0, none⟩) L tcap) hv sv W
  gx : d 19 = true → w.heap.size + 3 ≤ gX ∧ gX < W.heap.size ∧ (∀ v : Value, (v = (.slice (some ⟨gv, 0, none⟩) L ncap) ∨ v = (.slice (some ⟨gt, 0, none⟩) L tcap) ∨ v = hv ∨ v = sv) → v.ownBlock ≠ some gX)
  al : d 19 = true → d 20 = false → W.rowIs gX 52 2 (fun _ => .int .i64 0)
  fin : d 20 = true → W.rowIs gX 52 2 (fun k => if k = 0 then .int .i64 x1 else .int .i64 y1)

structure RR25 (w : World) (RA RB : Nat → Nat → Int) (vA tA vB tB : Value) (Q M M1 : List S) (lo L gv ncap gt tcap : Nat) (F : Nat → Bool) (hv sv : Value) (i c : Nat) (wd : List UInt8) (gb : Nat) (g2 : Nat) (gr : Nat) (cr : Nat) (d : Nat → Bool) (x12 x101 x102 x103 x104 x105 x106 x107 x108 x109 x110 x111 x112 : Value) (W : World) : Prop where
  f0 : d 0 = true → sv = x101
  f1 : d 1 = true → x102 = (.slice (some ⟨gt, 0, none⟩) L tcap)
  f2 : d 2 = true → x103 = (.int .i64 (i : Int))
  f3 : d 3 = true → x104 = (.pointer (some ⟨gt, i, none⟩))
  f4 : d 4 = true → x105 = (.string ⟨wd.toArray⟩)
  f5 : d 5 = true → x106 = (.int .i64 (c : Int))
  f6 : d 6 = true → x107 = (.int .u8 (c : Int))
  f7 : d 7 = true → x108 = (.slice (some ⟨gb, 0, none⟩) 1 1)
  f8 : d 8 = true → x109 = (.string ⟨#[UInt8.ofNat c]⟩)
  f9 : d 9 = true → x110 = (.string ⟨(wd ++ [UInt8.ofNat c]).toArray⟩)
  f10 : d 10 = true → x111 = (.slice (some ⟨g2, 0, none⟩) 1 1)
  f11 : d 11 = true → x112 = (.slice (some ⟨gr, 0, none⟩) (M.length + 1) cr)
  f12 : d 12 = true → x12 = (.slice (some ⟨gr, 0, none⟩) (M.length + 1) cr)
  q8_7 : d 8 = true → d 7 = true
  q9_4 : d 9 = true → d 4 = true
  q9_8 : d 9 = true → d 8 = true
  q10_9 : d 10 = true → d 9 = true
  q10_7 : d 10 = true → d 7 = true
  q12_11 : d 12 = true → d 11 = true
  q12_0 : d 12 = true → d 0 = true
  q4 : d 11 = true → d 4 = true
  q7 : d 11 = true → d 7 = true
  q8 : d 11 = true → d 8 = true
  q10 : d 11 = true → d 10 = true
  s12 : d 12 = false → sv = x12
  rk : d 11 = false → RK w RA RB vA tA vB tB F (Q.drop lo) M1 M (.slice (some ⟨gv, 0, none⟩) L ncap) (.slice (some ⟨gt, 0, none⟩) L tcap) hv sv W
  b5 : d 7 = true → d 8 = false → W.cell? ⟨gb, 0, none⟩ = some (.int .u8 (c : Int))
  b9 : d 10 = true → d 11 = false → ∀ j u, ([(.string ⟨(wd ++ [UInt8.ofNat c]).toArray⟩)] : List Value)[j]? = some u → W.cell? ⟨g2, j, none⟩ = some u
  fin : d 11 = true → RK w RA RB vA tA vB tB F (Q.drop lo) M1 (M ++ [⟨wd ++ [UInt8.ofNat c], lo + i, c⟩]) (.slice (some ⟨gv, 0, none⟩) L ncap) (.slice (some ⟨gt, 0, none⟩) L tcap) hv (.slice (some ⟨gr, 0, none⟩) (M.length + 1) cr) W

end Go.Proofs.Ytcddomihkamhcaa
