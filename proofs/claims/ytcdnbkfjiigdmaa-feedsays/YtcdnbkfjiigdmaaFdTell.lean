/-
  The contract of reader.tell.
-/
import Derived.Test.YtcdnbkfjiigdmaaFdHold
import Derived.Test.YtcdnbkfjiigdmaaFree
import Derived.BigQuiet
import Derived.Deep.Cut
namespace Go.Proofs.Ytcdnbkfjiigdmaa
open Go.RowKit
open Dfa

theorem step_call_append {P : Program} {ops : Array Oper} {o : Oper} {a : Act} {K : Act → World → Prop} {Q : Exit → Act → World → Prop} {E : Prop} {W W1 : World} {v sv xv : Value} (hgd : o.guard = none) (s x : Operand) (t : TypeId) (ho : o.op = .call { callee := .builtin .append, args := #[s, x], argTypes := #[t, t] })
    (hs : a.eval s = sv) (hx : a.eval x = xv) (hr : (Builtin.append_ #[t, t] o.type #[sv, xv]).run P W = .ok v W1) (h : K (a.put o.dst v) W1) : if Region.wanted o (yielded ops a.tmps) = true then Oper.wp P o a W K Q else E := by
  have hw : Region.wanted o (yielded ops a.tmps) = true := by simp [Region.wanted, hgd]
  rw [if_pos hw]
  unfold Oper.wp
  simp [execOp, ho, resolve, invoke, builtin, hs, hx, hr, Result.andThen]
  exact h
structure RT4 (w1 : World) (O : Nat → Nat) (nv tv : Value) (B g b ia z : Nat) (r : Int) (s : ByteArray) (o : Int) (va : Option Addr) (vc : Nat) (ts : List (Int × Nat × Nat)) (gb : Nat) (gr : Nat) (cr : Nat) (d : Nat → Bool) (x18 x19 x20 x21 x22 x23 x24 x25 x26 x27 x28 x29 x30 x31 x32 x33 x34 x35 : Value) (W : World) : Prop where
  f0 : d 0 = true → x18 = (.pointer (some ⟨g, 0, none⟩))
  f1 : d 1 = true → x19 = (.pointer (some ⟨g, 0, none⟩))
  f2 : d 2 = true → x20 = (.pointer (some ⟨g, 0, none⟩))
  f3 : d 3 = true → x21 = (.pointer (some ⟨g, 261, none⟩))
  f4 : d 4 = true → x22 = (.slice va ts.length vc)
  f5 : d 5 = true → x23 = (.pointer (some ⟨b, 0, none⟩))
  f6 : d 6 = true → x24 = (.int .i64 r)
  f7 : d 7 = true → x25 = (.pointer (some ⟨g, 0, none⟩))
  f8 : d 8 = true → x26 = (.pointer (some ⟨g, 0, none⟩))
  f9 : d 9 = true → x27 = (.pointer (some ⟨g, 258, none⟩))
  f10 : d 10 = true → x28 = (.pointer (some ⟨g, 258, none⟩))
  f11 : d 11 = true → x29 = (.int .i64 (ia : Int))
  f12 : d 12 = true → x30 = (.int .i64 ((ia : Int) + (z : Int)))
  f13 : d 13 = true → x31 = (.agg #[.int .i64 r, .int .i64 (ia : Int), .int .i64 ((ia : Int) + (z : Int))])
  f14 : d 14 = true → x32 = (.slice (some ⟨gb, 0, none⟩) 1 1)
  f15 : d 15 = true → x33 = (.slice (some ⟨gr, 0, none⟩) (ts.length + 1) cr)
  f16 : d 16 = true → x34 = (.pointer (some ⟨g, 0, none⟩))
  f17 : d 17 = true → x35 = (.pointer (some ⟨g, 261, none⟩))
  f18 : d 18 = true → True
  o15_4 : d 15 = true → d 4 = true
  o15_14 : d 15 = true → d 14 = true
  q18_15 : d 18 = true → d 15 = true
  kk : Mk B g w1 W
  bx : W.heap[b]? = w1.heap[b]?
  ca : W.cell? ⟨g, 258, none⟩ = some (.int .i64 (ia : Int))
  rd : d 15 = false → Rd O nv tv B g ia s o (.slice va ts.length vc) ts W
  bs : d 14 = true → d 15 = false → ∀ j u, ([.int .i64 r, .int .i64 (ia : Int), .int .i64 ((ia : Int) + (z : Int))] : List Value)[j]? = some u → W.cell? ⟨gb, j, none⟩ = some u
  th : d 15 = true → d 18 = false → W.rowIs g 42 262 (rf O nv tv (ia : Int) s o (.slice va ts.length vc)) ∧ W.ownsRow B 37 3 (.slice (some ⟨gr, 0, none⟩) (ts.length + 1) cr) (ts.length + 1) (tcs (ts ++ [(r, ia, ia + z)])) ∧ B ≤ W.heap.size
  fin : d 18 = true → Rd O nv tv B g ia s o (.slice (some ⟨gr, 0, none⟩) (ts.length + 1) cr) (ts ++ [(r, ia, ia + z)]) W

structure RT5 (w1 : World) (O : Nat → Nat) (nv tv : Value) (B g b ia z : Nat) (s : ByteArray) (o : Int) (v : Value) (ts : List (Int × Nat × Nat)) (ac : Nat) (sc : ByteArray) (d : Nat → Bool) (x36 x37 x38 x39 x40 x41 x42 x43 x44 x45 x46 x47 x48 x49 x50 x51 x52 : Value) (W : World) : Prop where
  f0 : d 0 = true → x36 = (.pointer (some ⟨g, 0, none⟩))
  f1 : d 1 = true → x37 = (.pointer (some ⟨g, 0, none⟩))
  f2 : d 2 = true → x38 = (.int .i64 ((ia : Int) + (z : Int)))
  f3 : d 3 = true → x39 = (.pointer (some ⟨g, 0, none⟩))
  f4 : d 4 = true → x40 = (.pointer (some ⟨g, 0, none⟩))
  f5 : d 5 = true → x41 = (.pointer (some ⟨g, 258, none⟩))
  f6 : d 6 = true → x42 = (.pointer (some ⟨g, 259, none⟩))
  f7 : d 7 = true → x43 = (.string s)
  f8 : d 8 = true → x44 = (.pointer (some ⟨b, 1, none⟩))
  f9 : d 9 = true → x45 = (.int .i64 (z : Int))
  f10 : d 10 = true → x46 = (.string (s.extract z s.size))
  f11 : d 11 = true → x47 = (.pointer (some ⟨g, 0, none⟩))
  f12 : d 12 = true → x48 = (.pointer (some ⟨g, 258, none⟩))
  f13 : d 13 = true → x49 = (.pointer (some ⟨g, 258, none⟩))
  f14 : d 14 = true → True
  f15 : d 15 = true → x50 = (.pointer (some ⟨g, 0, none⟩))
  f16 : d 16 = true → x51 = (.pointer (some ⟨g, 258, none⟩))
  f17 : d 17 = true → x52 = (.pointer (some ⟨g, 259, none⟩))
  f18 : d 18 = true → True
  o10_7 : d 10 = true → d 7 = true
  q18_10 : d 18 = true → d 10 = true
  kk : Mk B g w1 W
  bx : W.heap[b]? = w1.heap[b]?
  rd : Rd O nv tv B g ac sc o v ts W
  fs : d 18 = false → sc = s
  ga : d 14 = true → ac = ia + z
  gs : d 18 = true → sc = s.extract z s.size

set_option maxHeartbeats 8000000 in
set_option maxRecDepth 20000 in
theorem tell_ok (O : Nat → Nat) (nv tv : Value) (B g ia z : Nat) (r : Int) (c : Bool) (s : ByteArray) (o : Int) (v : Value) (ts : List (Int × Nat × Nat)) (w : World) (h : Rd O nv tv B g ia s o v ts w) (hz : 0 < z) (hzs : z ≤ s.size) (ha : ia + z ≤ 2000000000000) (ht : ts.length ≤ 10000) :
    Calls Try.prog 14 #[.pointer (some ⟨g, 0, none⟩), .agg #[.int .i64 r, .int .i64 (z : Int), .bool c]] w fun e w' => e = .returned (.tuple #[]) ∧ ∃ v', Rd O nv tv B g (ia + z) (s.extract z s.size) o v' (ts ++ [(r, ia, ia + z)]) w' ∧ Mk B g w w' := by
  obtain ⟨va, vc, rfl⟩ := own_form h.own
  obtain ⟨i3, hi3, hz3, hs3, hb3⟩ := info_parts info37
  have H3 : Hid (Try.prog.info? 37 = some i3 ∧ i3.zero = some (.agg #[.int .i64 0, .int .i64 0, .int .i64 0]) ∧ i3.size = 3 ∧ i3.bytes = 24) := ⟨hi3, hz3, hs3, hb3⟩
  clear hi3 hz3 hs3 hb3
  have HTL : Hid (ts.length ≤ 10000) := ht
  have HZS : Hid (z ≤ s.size) := hzs
  have HGB : Hid (g < B) := h.lt
  have hbx := (Below.refl w.heap.size w).alloc (Nat.le_refl _) (Obj.cells #[Value.int .i64 r, Value.int .i64 (z : Int), Value.bool c] 45)
  have c0 : (w.alloc (Obj.cells #[Value.int .i64 r, Value.int .i64 (z : Int), Value.bool c] 45)).cell? ⟨w.heap.size, 0, none⟩ = some (.int .i64 r) := by simp
  have c1 : (w.alloc (Obj.cells #[Value.int .i64 r, Value.int .i64 (z : Int), Value.bool c] 45)).cell? ⟨w.heap.size, 1, none⟩ = some (.int .i64 (z : Int)) := by simp
  have c2 : w.heap.size < (w.alloc (Obj.cells #[Value.int .i64 r, Value.int .i64 (z : Int), Value.bool c] 45)).heap.size := by simp
  have c3 : ((.slice va ts.length vc) : Value).ownBlock ≠ some w.heap.size := fun e => by have := (h.own.lt _ e).2; omega
  have hgb : g < w.heap.size := h.row.lt
  have HRD : Hid (Rd O nv tv B g ia s o (.slice va ts.length vc) ts (w.alloc (Obj.cells #[Value.int .i64 r, Value.int .i64 (z : Int), Value.bool c] 45))) := h.next hbx
  have HMK : Hid (Mk B g w (w.alloc (Obj.cells #[Value.int .i64 r, Value.int .i64 (z : Int), Value.bool c] 45))) := (Mk.refl B g w).next hbx h.sz
  obtain ⟨w0, HW0⟩ : ∃ q, Hid (w.alloc (Obj.cells #[Value.int .i64 r, Value.int .i64 (z : Int), Value.bool c] 45) = q) := ⟨_, (rfl : _ = _)⟩
  obtain ⟨b, HB⟩ : ∃ q, Hid (w.heap.size = q) := ⟨_, (rfl : _ = _)⟩
  rw [HW0.out] at c0 c1 c2 HRD HMK
  rw [HB.out] at c0 c1 c2 c3 hgb
  have HBG : Hid (b ≠ g) := by show _ ≠ _; omega
  clear h hbx
  have hzb : ((z : Int) == 0) = false := by simp; omega
  have y0 := HRD.out.c258
  go_enter Try.func14, Try.ntmps14
  go_upto_region 1 with fail
  rw [HW0.out, HB.out]
  clear HW0 HB
  go_wp2_with (go_quiet (fail))
  have HRD1 : Hid (Rd O nv tv B g ia s o (.slice va ts.length vc) ts (w0.drewN nq)) := HRD.out.next (below_drewN (Below.refl _ _) nq)
  have HMK1 : Hid (Mk B g w (w0.drewN nq)) := HMK.out.next (below_drewN (Below.refl _ _) nq) HRD.out.sz
  have HBX : Hid ((w0.drewN nq).cell? ⟨b, 0, none⟩ = some (.int .i64 r) ∧ (w0.drewN nq).cell? ⟨b, 1, none⟩ = some (.int .i64 (z : Int)) ∧ b < (w0.drewN nq).heap.size ∧ ((.slice va ts.length vc) : Value).ownBlock ≠ some b) := ⟨c0, c1, c2, c3⟩
  clear c0 c1 c2 c3 y0 HRD HMK
  generalize w0.drewN nq = w1 at HRD1 HMK1 HBX ⊢
  refine wp_region_free mixed (fun a0 d a W => ∃ (gb : Nat) (gr : Nat) (cr : Nat) (x18 x19 x20 x21 x22 x23 x24 x25 x26 x27 x28 x29 x30 x31 x32 x33 x34 x35 : Value), a = ((((((((((((((((((a0.put (some 18) x18).put (some 19) x19).put (some 20) x20).put (some 21) x21).put (some 22) x22).put (some 23) x23).put (some 24) x24).put (some 25) x25).put (some 26) x26).put (some 27) x27).put (some 28) x28).put (some 29) x29).put (some 30) x30).put (some 31) x31).put (some 32) x32).put (some 33) x33).put (some 34) x34).put (some 35) x35) ∧ Hid (RT4 w1 O nv tv B g b ia z r s o va vc ts gb gr cr d x18 x19 x20 x21 x22 x23 x24 x25 x26 x27 x28 x29 x30 x31 x32 x33 x34 x35 W)) (by kernel_rfl) ⟨0, 0, 0, undef, undef, undef, undef, undef, undef, undef, undef, undef, undef, undef, undef, undef, undef, undef, undef, undef, undef, by simp only [Act.put, List.setIfInBounds_toArray, List.set_cons_zero, List.set_cons_succ], ?_⟩ ?_ ?_
  · exact ⟨fun h => no_way h, fun h => no_way h, fun h => no_way h, fun h => no_way h, fun h => no_way h, fun h => no_way h, fun h => no_way h, fun h => no_way h, fun h => no_way h, fun h => no_way h, fun h => no_way h, fun h => no_way h, fun h => no_way h, fun h => no_way h, fun h => no_way h, fun h => no_way h, fun h => no_way h, fun h => no_way h, fun _ => trivial, fun h => no_way h, fun h => no_way h, fun h => no_way h, (Mk.refl _ _ _).drew, rfl, HRD1.out.c258, fun _ => HRD1.out.drew, fun h => no_way h, fun h => no_way h, fun h => no_way h⟩
  · simp only [StepAll, and_true]
    refine ⟨?_, ?_, ?_, ?_, ?_, ?_, ?_, ?_, ?_, ?_, ?_, ?_, ?_, ?_, ?_, ?_, ?_, ?_, ?_⟩
    · intro d a W hI hd hdep
      obtain ⟨gb, gr, cr, x18, x19, x20, x21, x22, x23, x24, x25, x26, x27, x28, x29, x30, x31, x32, x33, x34, x35, rfl, hF⟩ := hI
      clear hdep hd
      intro K hK
      simp only [Act.put, List.setIfInBounds_toArray, List.set_cons_zero, List.set_cons_succ]
      go_simp
      refine hK.out _ _ ⟨gb, gr, cr, (.pointer (some ⟨g, 0, none⟩)), x19, x20, x21, x22, x23, x24, x25, x26, x27, x28, x29, x30, x31, x32, x33, x34, x35, by simp only [Act.put, List.setIfInBounds_toArray, List.set_cons_zero, List.set_cons_succ], ?_⟩
      exact ⟨fun _ => rfl, fun h => hF.out.f1 (by simpa using h), fun h => hF.out.f2 (by simpa using h), fun h => hF.out.f3 (by simpa using h), fun h => hF.out.f4 (by simpa using h), fun h => hF.out.f5 (by simpa using h), fun h => hF.out.f6 (by simpa using h), fun h => hF.out.f7 (by simpa using h), fun h => hF.out.f8 (by simpa using h), fun h => hF.out.f9 (by simpa using h), fun h => hF.out.f10 (by simpa using h), fun h => hF.out.f11 (by simpa using h), fun h => hF.out.f12 (by simpa using h), fun h => hF.out.f13 (by simpa using h), fun h => hF.out.f14 (by simpa using h), fun h => hF.out.f15 (by simpa using h), fun h => hF.out.f16 (by simpa using h), fun h => hF.out.f17 (by simpa using h), fun h => hF.out.f18 (by simpa using h), fun h => by have := hF.out.o15_4 (by simpa using h); simpa using this, fun h => by have := hF.out.o15_14 (by simpa using h); simpa using this, fun h => by have := hF.out.q18_15 (by simpa using h); simpa using this, hF.out.kk, hF.out.bx, hF.out.ca, fun h => hF.out.rd (by simpa using h), fun h h2 => hF.out.bs (by simpa using h) (by simpa using h2), fun h h2 => hF.out.th (by simpa using h) (by simpa using h2), fun h => hF.out.fin (by simpa using h)⟩
    · intro d a W hI hd hdep
      obtain ⟨gb, gr, cr, x18, x19, x20, x21, x22, x23, x24, x25, x26, x27, x28, x29, x30, x31, x32, x33, x34, x35, rfl, hF⟩ := hI
      clear hdep hd
      intro K hK
      simp only [Act.put, List.setIfInBounds_toArray, List.set_cons_zero, List.set_cons_succ]
      go_simp
      refine hK.out _ _ ⟨gb, gr, cr, x18, (.pointer (some ⟨g, 0, none⟩)), x20, x21, x22, x23, x24, x25, x26, x27, x28, x29, x30, x31, x32, x33, x34, x35, by simp only [Act.put, List.setIfInBounds_toArray, List.set_cons_zero, List.set_cons_succ], ?_⟩
      exact ⟨fun h => hF.out.f0 (by simpa using h), fun _ => rfl, fun h => hF.out.f2 (by simpa using h), fun h => hF.out.f3 (by simpa using h), fun h => hF.out.f4 (by simpa using h), fun h => hF.out.f5 (by simpa using h), fun h => hF.out.f6 (by simpa using h), fun h => hF.out.f7 (by simpa using h), fun h => hF.out.f8 (by simpa using h), fun h => hF.out.f9 (by simpa using h), fun h => hF.out.f10 (by simpa using h), fun h => hF.out.f11 (by simpa using h), fun h => hF.out.f12 (by simpa using h), fun h => hF.out.f13 (by simpa using h), fun h => hF.out.f14 (by simpa using h), fun h => hF.out.f15 (by simpa using h), fun h => hF.out.f16 (by simpa using h), fun h => hF.out.f17 (by simpa using h), fun h => hF.out.f18 (by simpa using h), fun h => by have := hF.out.o15_4 (by simpa using h); simpa using this, fun h => by have := hF.out.o15_14 (by simpa using h); simpa using this, fun h => by have := hF.out.q18_15 (by simpa using h); simpa using this, hF.out.kk, hF.out.bx, hF.out.ca, fun h => hF.out.rd (by simpa using h), fun h h2 => hF.out.bs (by simpa using h) (by simpa using h2), fun h h2 => hF.out.th (by simpa using h) (by simpa using h2), fun h => hF.out.fin (by simpa using h)⟩
    · intro d a W hI hd hdep
      obtain ⟨gb, gr, cr, x18, x19, x20, x21, x22, x23, x24, x25, x26, x27, x28, x29, x30, x31, x32, x33, x34, x35, rfl, hF⟩ := hI
      have hd1 : d 1 = true := dep_of hdep 1 (by kernel_rfl)
      obtain rfl := hF.out.f1 hd1
      clear hdep hd hd1
      intro K hK
      simp only [Act.put, List.setIfInBounds_toArray, List.set_cons_zero, List.set_cons_succ]
      go_simp
      refine hK.out _ _ ⟨gb, gr, cr, x18, (.pointer (some ⟨g, 0, none⟩)), (.pointer (some ⟨g, 0, none⟩)), x21, x22, x23, x24, x25, x26, x27, x28, x29, x30, x31, x32, x33, x34, x35, by simp only [Act.put, List.setIfInBounds_toArray, List.set_cons_zero, List.set_cons_succ], ?_⟩
      exact ⟨fun h => hF.out.f0 (by simpa using h), fun h => hF.out.f1 (by simpa using h), fun _ => rfl, fun h => hF.out.f3 (by simpa using h), fun h => hF.out.f4 (by simpa using h), fun h => hF.out.f5 (by simpa using h), fun h => hF.out.f6 (by simpa using h), fun h => hF.out.f7 (by simpa using h), fun h => hF.out.f8 (by simpa using h), fun h => hF.out.f9 (by simpa using h), fun h => hF.out.f10 (by simpa using h), fun h => hF.out.f11 (by simpa using h), fun h => hF.out.f12 (by simpa using h), fun h => hF.out.f13 (by simpa using h), fun h => hF.out.f14 (by simpa using h), fun h => hF.out.f15 (by simpa using h), fun h => hF.out.f16 (by simpa using h), fun h => hF.out.f17 (by simpa using h), fun h => hF.out.f18 (by simpa using h), fun h => by have := hF.out.o15_4 (by simpa using h); simpa using this, fun h => by have := hF.out.o15_14 (by simpa using h); simpa using this, fun h => by have := hF.out.q18_15 (by simpa using h); simpa using this, hF.out.kk, hF.out.bx, hF.out.ca, fun h => hF.out.rd (by simpa using h), fun h h2 => hF.out.bs (by simpa using h) (by simpa using h2), fun h h2 => hF.out.th (by simpa using h) (by simpa using h2), fun h => hF.out.fin (by simpa using h)⟩
    · intro d a W hI hd hdep
      obtain ⟨gb, gr, cr, x18, x19, x20, x21, x22, x23, x24, x25, x26, x27, x28, x29, x30, x31, x32, x33, x34, x35, rfl, hF⟩ := hI
      have hd2 : d 2 = true := dep_of hdep 2 (by kernel_rfl)
      obtain rfl := hF.out.f2 hd2
      clear hdep hd hd2
      intro K hK
      simp only [Act.put, List.setIfInBounds_toArray, List.set_cons_zero, List.set_cons_succ]
      go_simp
      refine hK.out _ _ ⟨gb, gr, cr, x18, x19, (.pointer (some ⟨g, 0, none⟩)), (.pointer (some ⟨g, 261, none⟩)), x22, x23, x24, x25, x26, x27, x28, x29, x30, x31, x32, x33, x34, x35, by simp only [Act.put, List.setIfInBounds_toArray, List.set_cons_zero, List.set_cons_succ], ?_⟩
      exact ⟨fun h => hF.out.f0 (by simpa using h), fun h => hF.out.f1 (by simpa using h), fun h => hF.out.f2 (by simpa using h), fun _ => rfl, fun h => hF.out.f4 (by simpa using h), fun h => hF.out.f5 (by simpa using h), fun h => hF.out.f6 (by simpa using h), fun h => hF.out.f7 (by simpa using h), fun h => hF.out.f8 (by simpa using h), fun h => hF.out.f9 (by simpa using h), fun h => hF.out.f10 (by simpa using h), fun h => hF.out.f11 (by simpa using h), fun h => hF.out.f12 (by simpa using h), fun h => hF.out.f13 (by simpa using h), fun h => hF.out.f14 (by simpa using h), fun h => hF.out.f15 (by simpa using h), fun h => hF.out.f16 (by simpa using h), fun h => hF.out.f17 (by simpa using h), fun h => hF.out.f18 (by simpa using h), fun h => by have := hF.out.o15_4 (by simpa using h); simpa using this, fun h => by have := hF.out.o15_14 (by simpa using h); simpa using this, fun h => by have := hF.out.q18_15 (by simpa using h); simpa using this, hF.out.kk, hF.out.bx, hF.out.ca, fun h => hF.out.rd (by simpa using h), fun h h2 => hF.out.bs (by simpa using h) (by simpa using h2), fun h h2 => hF.out.th (by simpa using h) (by simpa using h2), fun h => hF.out.fin (by simpa using h)⟩
    · intro d a W hI hd hdep
      obtain ⟨gb, gr, cr, x18, x19, x20, x21, x22, x23, x24, x25, x26, x27, x28, x29, x30, x31, x32, x33, x34, x35, rfl, hF⟩ := hI
      have hd3 : d 3 = true := dep_of hdep 3 (by kernel_rfl)
      obtain rfl := hF.out.f3 hd3
      have HN15 : Hid (d 15 = false) := no_later hF.out.o15_4 hd
      have ya := (hF.out.rd HN15.out).c261
      clear hdep hd hd3
      intro K hK
      simp only [Act.put, List.setIfInBounds_toArray, List.set_cons_zero, List.set_cons_succ]
      go_simp
      refine hK.out _ _ ⟨gb, gr, cr, x18, x19, x20, (.pointer (some ⟨g, 261, none⟩)), (.slice va ts.length vc), x23, x24, x25, x26, x27, x28, x29, x30, x31, x32, x33, x34, x35, by simp only [Act.put, List.setIfInBounds_toArray, List.set_cons_zero, List.set_cons_succ], ?_⟩
      exact ⟨fun h => hF.out.f0 (by simpa using h), fun h => hF.out.f1 (by simpa using h), fun h => hF.out.f2 (by simpa using h), fun h => hF.out.f3 (by simpa using h), fun _ => rfl, fun h => hF.out.f5 (by simpa using h), fun h => hF.out.f6 (by simpa using h), fun h => hF.out.f7 (by simpa using h), fun h => hF.out.f8 (by simpa using h), fun h => hF.out.f9 (by simpa using h), fun h => hF.out.f10 (by simpa using h), fun h => hF.out.f11 (by simpa using h), fun h => hF.out.f12 (by simpa using h), fun h => hF.out.f13 (by simpa using h), fun h => hF.out.f14 (by simpa using h), fun h => hF.out.f15 (by simpa using h), fun h => hF.out.f16 (by simpa using h), fun h => hF.out.f17 (by simpa using h), fun h => hF.out.f18 (by simpa using h), fun _ => by simp, fun h => by have := hF.out.o15_14 (by simpa using h); simpa using this, fun h => by have := hF.out.q18_15 (by simpa using h); simpa using this, hF.out.kk, hF.out.bx, hF.out.ca, fun h => hF.out.rd (by simpa using h), fun h h2 => hF.out.bs (by simpa using h) (by simpa using h2), fun h h2 => hF.out.th (by simpa using h) (by simpa using h2), fun h => hF.out.fin (by simpa using h)⟩
    · intro d a W hI hd hdep
      obtain ⟨gb, gr, cr, x18, x19, x20, x21, x22, x23, x24, x25, x26, x27, x28, x29, x30, x31, x32, x33, x34, x35, rfl, hF⟩ := hI
      clear hdep hd
      intro K hK
      simp only [Act.put, List.setIfInBounds_toArray, List.set_cons_zero, List.set_cons_succ]
      go_simp
      refine hK.out _ _ ⟨gb, gr, cr, x18, x19, x20, x21, x22, (.pointer (some ⟨b, 0, none⟩)), x24, x25, x26, x27, x28, x29, x30, x31, x32, x33, x34, x35, by simp only [Act.put, List.setIfInBounds_toArray, List.set_cons_zero, List.set_cons_succ], ?_⟩
      exact ⟨fun h => hF.out.f0 (by simpa using h), fun h => hF.out.f1 (by simpa using h), fun h => hF.out.f2 (by simpa using h), fun h => hF.out.f3 (by simpa using h), fun h => hF.out.f4 (by simpa using h), fun _ => rfl, fun h => hF.out.f6 (by simpa using h), fun h => hF.out.f7 (by simpa using h), fun h => hF.out.f8 (by simpa using h), fun h => hF.out.f9 (by simpa using h), fun h => hF.out.f10 (by simpa using h), fun h => hF.out.f11 (by simpa using h), fun h => hF.out.f12 (by simpa using h), fun h => hF.out.f13 (by simpa using h), fun h => hF.out.f14 (by simpa using h), fun h => hF.out.f15 (by simpa using h), fun h => hF.out.f16 (by simpa using h), fun h => hF.out.f17 (by simpa using h), fun h => hF.out.f18 (by simpa using h), fun h => by have := hF.out.o15_4 (by simpa using h); simpa using this, fun h => by have := hF.out.o15_14 (by simpa using h); simpa using this, fun h => by have := hF.out.q18_15 (by simpa using h); simpa using this, hF.out.kk, hF.out.bx, hF.out.ca, fun h => hF.out.rd (by simpa using h), fun h h2 => hF.out.bs (by simpa using h) (by simpa using h2), fun h h2 => hF.out.th (by simpa using h) (by simpa using h2), fun h => hF.out.fin (by simpa using h)⟩
    · intro d a W hI hd hdep
      obtain ⟨gb, gr, cr, x18, x19, x20, x21, x22, x23, x24, x25, x26, x27, x28, x29, x30, x31, x32, x33, x34, x35, rfl, hF⟩ := hI
      have hd5 : d 5 = true := dep_of hdep 5 (by kernel_rfl)
      obtain rfl := hF.out.f5 hd5
      have ya := (cell_same hF.out.bx 0).trans HBX.out.1
      clear hdep hd hd5
      intro K hK
      simp only [Act.put, List.setIfInBounds_toArray, List.set_cons_zero, List.set_cons_succ]
      go_simp
      refine hK.out _ _ ⟨gb, gr, cr, x18, x19, x20, x21, x22, (.pointer (some ⟨b, 0, none⟩)), (.int .i64 r), x25, x26, x27, x28, x29, x30, x31, x32, x33, x34, x35, by simp only [Act.put, List.setIfInBounds_toArray, List.set_cons_zero, List.set_cons_succ], ?_⟩
      exact ⟨fun h => hF.out.f0 (by simpa using h), fun h => hF.out.f1 (by simpa using h), fun h => hF.out.f2 (by simpa using h), fun h => hF.out.f3 (by simpa using h), fun h => hF.out.f4 (by simpa using h), fun h => hF.out.f5 (by simpa using h), fun _ => rfl, fun h => hF.out.f7 (by simpa using h), fun h => hF.out.f8 (by simpa using h), fun h => hF.out.f9 (by simpa using h), fun h => hF.out.f10 (by simpa using h), fun h => hF.out.f11 (by simpa using h), fun h => hF.out.f12 (by simpa using h), fun h => hF.out.f13 (by simpa using h), fun h => hF.out.f14 (by simpa using h), fun h => hF.out.f15 (by simpa using h), fun h => hF.out.f16 (by simpa using h), fun h => hF.out.f17 (by simpa using h), fun h => hF.out.f18 (by simpa using h), fun h => by have := hF.out.o15_4 (by simpa using h); simpa using this, fun h => by have := hF.out.o15_14 (by simpa using h); simpa using this, fun h => by have := hF.out.q18_15 (by simpa using h); simpa using this, hF.out.kk, hF.out.bx, hF.out.ca, fun h => hF.out.rd (by simpa using h), fun h h2 => hF.out.bs (by simpa using h) (by simpa using h2), fun h h2 => hF.out.th (by simpa using h) (by simpa using h2), fun h => hF.out.fin (by simpa using h)⟩
    · intro d a W hI hd hdep
      obtain ⟨gb, gr, cr, x18, x19, x20, x21, x22, x23, x24, x25, x26, x27, x28, x29, x30, x31, x32, x33, x34, x35, rfl, hF⟩ := hI
      clear hdep hd
      intro K hK
      simp only [Act.put, List.setIfInBounds_toArray, List.set_cons_zero, List.set_cons_succ]
      go_simp
      refine hK.out _ _ ⟨gb, gr, cr, x18, x19, x20, x21, x22, x23, x24, (.pointer (some ⟨g, 0, none⟩)), x26, x27, x28, x29, x30, x31, x32, x33, x34, x35, by simp only [Act.put, List.setIfInBounds_toArray, List.set_cons_zero, List.set_cons_succ], ?_⟩
      exact ⟨fun h => hF.out.f0 (by simpa using h), fun h => hF.out.f1 (by simpa using h), fun h => hF.out.f2 (by simpa using h), fun h => hF.out.f3 (by simpa using h), fun h => hF.out.f4 (by simpa using h), fun h => hF.out.f5 (by simpa using h), fun h => hF.out.f6 (by simpa using h), fun _ => rfl, fun h => hF.out.f8 (by simpa using h), fun h => hF.out.f9 (by simpa using h), fun h => hF.out.f10 (by simpa using h), fun h => hF.out.f11 (by simpa using h), fun h => hF.out.f12 (by simpa using h), fun h => hF.out.f13 (by simpa using h), fun h => hF.out.f14 (by simpa using h), fun h => hF.out.f15 (by simpa using h), fun h => hF.out.f16 (by simpa using h), fun h => hF.out.f17 (by simpa using h), fun h => hF.out.f18 (by simpa using h), fun h => by have := hF.out.o15_4 (by simpa using h); simpa using this, fun h => by have := hF.out.o15_14 (by simpa using h); simpa using this, fun h => by have := hF.out.q18_15 (by simpa using h); simpa using this, hF.out.kk, hF.out.bx, hF.out.ca, fun h => hF.out.rd (by simpa using h), fun h h2 => hF.out.bs (by simpa using h) (by simpa using h2), fun h h2 => hF.out.th (by simpa using h) (by simpa using h2), fun h => hF.out.fin (by simpa using h)⟩
    · intro d a W hI hd hdep
      obtain ⟨gb, gr, cr, x18, x19, x20, x21, x22, x23, x24, x25, x26, x27, x28, x29, x30, x31, x32, x33, x34, x35, rfl, hF⟩ := hI
      have hd7 : d 7 = true := dep_of hdep 7 (by kernel_rfl)
      obtain rfl := hF.out.f7 hd7
      clear hdep hd hd7
      intro K hK
      simp only [Act.put, List.setIfInBounds_toArray, List.set_cons_zero, List.set_cons_succ]
      go_simp
      refine hK.out _ _ ⟨gb, gr, cr, x18, x19, x20, x21, x22, x23, x24, (.pointer (some ⟨g, 0, none⟩)), (.pointer (some ⟨g, 0, none⟩)), x27, x28, x29, x30, x31, x32, x33, x34, x35, by simp only [Act.put, List.setIfInBounds_toArray, List.set_cons_zero, List.set_cons_succ], ?_⟩
      exact ⟨fun h => hF.out.f0 (by simpa using h), fun h => hF.out.f1 (by simpa using h), fun h => hF.out.f2 (by simpa using h), fun h => hF.out.f3 (by simpa using h), fun h => hF.out.f4 (by simpa using h), fun h => hF.out.f5 (by simpa using h), fun h => hF.out.f6 (by simpa using h), fun h => hF.out.f7 (by simpa using h), fun _ => rfl, fun h => hF.out.f9 (by simpa using h), fun h => hF.out.f10 (by simpa using h), fun h => hF.out.f11 (by simpa using h), fun h => hF.out.f12 (by simpa using h), fun h => hF.out.f13 (by simpa using h), fun h => hF.out.f14 (by simpa using h), fun h => hF.out.f15 (by simpa using h), fun h => hF.out.f16 (by simpa using h), fun h => hF.out.f17 (by simpa using h), fun h => hF.out.f18 (by simpa using h), fun h => by have := hF.out.o15_4 (by simpa using h); simpa using this, fun h => by have := hF.out.o15_14 (by simpa using h); simpa using this, fun h => by have := hF.out.q18_15 (by simpa using h); simpa using this, hF.out.kk, hF.out.bx, hF.out.ca, fun h => hF.out.rd (by simpa using h), fun h h2 => hF.out.bs (by simpa using h) (by simpa using h2), fun h h2 => hF.out.th (by simpa using h) (by simpa using h2), fun h => hF.out.fin (by simpa using h)⟩
    · intro d a W hI hd hdep
      obtain ⟨gb, gr, cr, x18, x19, x20, x21, x22, x23, x24, x25, x26, x27, x28, x29, x30, x31, x32, x33, x34, x35, rfl, hF⟩ := hI
      have hd8 : d 8 = true := dep_of hdep 8 (by kernel_rfl)
      obtain rfl := hF.out.f8 hd8
      clear hdep hd hd8
      intro K hK
      simp only [Act.put, List.setIfInBounds_toArray, List.set_cons_zero, List.set_cons_succ]
      go_simp
      refine hK.out _ _ ⟨gb, gr, cr, x18, x19, x20, x21, x22, x23, x24, x25, (.pointer (some ⟨g, 0, none⟩)), (.pointer (some ⟨g, 258, none⟩)), x28, x29, x30, x31, x32, x33, x34, x35, by simp only [Act.put, List.setIfInBounds_toArray, List.set_cons_zero, List.set_cons_succ], ?_⟩
      exact ⟨fun h => hF.out.f0 (by simpa using h), fun h => hF.out.f1 (by simpa using h), fun h => hF.out.f2 (by simpa using h), fun h => hF.out.f3 (by simpa using h), fun h => hF.out.f4 (by simpa using h), fun h => hF.out.f5 (by simpa using h), fun h => hF.out.f6 (by simpa using h), fun h => hF.out.f7 (by simpa using h), fun h => hF.out.f8 (by simpa using h), fun _ => rfl, fun h => hF.out.f10 (by simpa using h), fun h => hF.out.f11 (by simpa using h), fun h => hF.out.f12 (by simpa using h), fun h => hF.out.f13 (by simpa using h), fun h => hF.out.f14 (by simpa using h), fun h => hF.out.f15 (by simpa using h), fun h => hF.out.f16 (by simpa using h), fun h => hF.out.f17 (by simpa using h), fun h => hF.out.f18 (by simpa using h), fun h => by have := hF.out.o15_4 (by simpa using h); simpa using this, fun h => by have := hF.out.o15_14 (by simpa using h); simpa using this, fun h => by have := hF.out.q18_15 (by simpa using h); simpa using this, hF.out.kk, hF.out.bx, hF.out.ca, fun h => hF.out.rd (by simpa using h), fun h h2 => hF.out.bs (by simpa using h) (by simpa using h2), fun h h2 => hF.out.th (by simpa using h) (by simpa using h2), fun h => hF.out.fin (by simpa using h)⟩
    · intro d a W hI hd hdep
      obtain ⟨gb, gr, cr, x18, x19, x20, x21, x22, x23, x24, x25, x26, x27, x28, x29, x30, x31, x32, x33, x34, x35, rfl, hF⟩ := hI
      have hd9 : d 9 = true := dep_of hdep 9 (by kernel_rfl)
      obtain rfl := hF.out.f9 hd9
      clear hdep hd hd9
      intro K hK
      simp only [Act.put, List.setIfInBounds_toArray, List.set_cons_zero, List.set_cons_succ]
      go_simp
      refine hK.out _ _ ⟨gb, gr, cr, x18, x19, x20, x21, x22, x23, x24, x25, x26, (.pointer (some ⟨g, 258, none⟩)), (.pointer (some ⟨g, 258, none⟩)), x29, x30, x31, x32, x33, x34, x35, by simp only [Act.put, List.setIfInBounds_toArray, List.set_cons_zero, List.set_cons_succ], ?_⟩
      exact ⟨fun h => hF.out.f0 (by simpa using h), fun h => hF.out.f1 (by simpa using h), fun h => hF.out.f2 (by simpa using h), fun h => hF.out.f3 (by simpa using h), fun h => hF.out.f4 (by simpa using h), fun h => hF.out.f5 (by simpa using h), fun h => hF.out.f6 (by simpa using h), fun h => hF.out.f7 (by simpa using h), fun h => hF.out.f8 (by simpa using h), fun h => hF.out.f9 (by simpa using h), fun _ => rfl, fun h => hF.out.f11 (by simpa using h), fun h => hF.out.f12 (by simpa using h), fun h => hF.out.f13 (by simpa using h), fun h => hF.out.f14 (by simpa using h), fun h => hF.out.f15 (by simpa using h), fun h => hF.out.f16 (by simpa using h), fun h => hF.out.f17 (by simpa using h), fun h => hF.out.f18 (by simpa using h), fun h => by have := hF.out.o15_4 (by simpa using h); simpa using this, fun h => by have := hF.out.o15_14 (by simpa using h); simpa using this, fun h => by have := hF.out.q18_15 (by simpa using h); simpa using this, hF.out.kk, hF.out.bx, hF.out.ca, fun h => hF.out.rd (by simpa using h), fun h h2 => hF.out.bs (by simpa using h) (by simpa using h2), fun h h2 => hF.out.th (by simpa using h) (by simpa using h2), fun h => hF.out.fin (by simpa using h)⟩
    · intro d a W hI hd hdep
      obtain ⟨gb, gr, cr, x18, x19, x20, x21, x22, x23, x24, x25, x26, x27, x28, x29, x30, x31, x32, x33, x34, x35, rfl, hF⟩ := hI
      have hd10 : d 10 = true := dep_of hdep 10 (by kernel_rfl)
      obtain rfl := hF.out.f10 hd10
      have ya := hF.out.ca
      clear hdep hd hd10
      intro K hK
      simp only [Act.put, List.setIfInBounds_toArray, List.set_cons_zero, List.set_cons_succ]
      go_simp
      refine hK.out _ _ ⟨gb, gr, cr, x18, x19, x20, x21, x22, x23, x24, x25, x26, x27, (.pointer (some ⟨g, 258, none⟩)), (.int .i64 (ia : Int)), x30, x31, x32, x33, x34, x35, by simp only [Act.put, List.setIfInBounds_toArray, List.set_cons_zero, List.set_cons_succ], ?_⟩
      exact ⟨fun h => hF.out.f0 (by simpa using h), fun h => hF.out.f1 (by simpa using h), fun h => hF.out.f2 (by simpa using h), fun h => hF.out.f3 (by simpa using h), fun h => hF.out.f4 (by simpa using h), fun h => hF.out.f5 (by simpa using h), fun h => hF.out.f6 (by simpa using h), fun h => hF.out.f7 (by simpa using h), fun h => hF.out.f8 (by simpa using h), fun h => hF.out.f9 (by simpa using h), fun h => hF.out.f10 (by simpa using h), fun _ => rfl, fun h => hF.out.f12 (by simpa using h), fun h => hF.out.f13 (by simpa using h), fun h => hF.out.f14 (by simpa using h), fun h => hF.out.f15 (by simpa using h), fun h => hF.out.f16 (by simpa using h), fun h => hF.out.f17 (by simpa using h), fun h => hF.out.f18 (by simpa using h), fun h => by have := hF.out.o15_4 (by simpa using h); simpa using this, fun h => by have := hF.out.o15_14 (by simpa using h); simpa using this, fun h => by have := hF.out.q18_15 (by simpa using h); simpa using this, hF.out.kk, hF.out.bx, hF.out.ca, fun h => hF.out.rd (by simpa using h), fun h h2 => hF.out.bs (by simpa using h) (by simpa using h2), fun h h2 => hF.out.th (by simpa using h) (by simpa using h2), fun h => hF.out.fin (by simpa using h)⟩
    · intro d a W hI hd hdep
      obtain ⟨gb, gr, cr, x18, x19, x20, x21, x22, x23, x24, x25, x26, x27, x28, x29, x30, x31, x32, x33, x34, x35, rfl, hF⟩ := hI
      clear hdep hd
      intro K hK
      simp only [Act.put, List.setIfInBounds_toArray, List.set_cons_zero, List.set_cons_succ]
      go_simp
      refine hK.out _ _ ⟨gb, gr, cr, x18, x19, x20, x21, x22, x23, x24, x25, x26, x27, x28, x29, (.int .i64 ((ia : Int) + (z : Int))), x31, x32, x33, x34, x35, by simp only [Act.put, List.setIfInBounds_toArray, List.set_cons_zero, List.set_cons_succ], ?_⟩
      exact ⟨fun h => hF.out.f0 (by simpa using h), fun h => hF.out.f1 (by simpa using h), fun h => hF.out.f2 (by simpa using h), fun h => hF.out.f3 (by simpa using h), fun h => hF.out.f4 (by simpa using h), fun h => hF.out.f5 (by simpa using h), fun h => hF.out.f6 (by simpa using h), fun h => hF.out.f7 (by simpa using h), fun h => hF.out.f8 (by simpa using h), fun h => hF.out.f9 (by simpa using h), fun h => hF.out.f10 (by simpa using h), fun h => hF.out.f11 (by simpa using h), fun _ => rfl, fun h => hF.out.f13 (by simpa using h), fun h => hF.out.f14 (by simpa using h), fun h => hF.out.f15 (by simpa using h), fun h => hF.out.f16 (by simpa using h), fun h => hF.out.f17 (by simpa using h), fun h => hF.out.f18 (by simpa using h), fun h => by have := hF.out.o15_4 (by simpa using h); simpa using this, fun h => by have := hF.out.o15_14 (by simpa using h); simpa using this, fun h => by have := hF.out.q18_15 (by simpa using h); simpa using this, hF.out.kk, hF.out.bx, hF.out.ca, fun h => hF.out.rd (by simpa using h), fun h h2 => hF.out.bs (by simpa using h) (by simpa using h2), fun h h2 => hF.out.th (by simpa using h) (by simpa using h2), fun h => hF.out.fin (by simpa using h)⟩
    · intro d a W hI hd hdep
      obtain ⟨gb, gr, cr, x18, x19, x20, x21, x22, x23, x24, x25, x26, x27, x28, x29, x30, x31, x32, x33, x34, x35, rfl, hF⟩ := hI
      have hd6 : d 6 = true := dep_of hdep 6 (by kernel_rfl)
      have hd11 : d 11 = true := dep_of hdep 11 (by kernel_rfl)
      have hd12 : d 12 = true := dep_of hdep 12 (by kernel_rfl)
      obtain rfl := hF.out.f6 hd6
      obtain rfl := hF.out.f11 hd11
      obtain rfl := hF.out.f12 hd12
      clear hdep hd hd6 hd11 hd12
      intro K hK
      simp only [Act.put, List.setIfInBounds_toArray, List.set_cons_zero, List.set_cons_succ]
      go_simp
      refine hK.out _ _ ⟨gb, gr, cr, x18, x19, x20, x21, x22, x23, (.int .i64 r), x25, x26, x27, x28, (.int .i64 (ia : Int)), (.int .i64 ((ia : Int) + (z : Int))), (.agg #[.int .i64 r, .int .i64 (ia : Int), .int .i64 ((ia : Int) + (z : Int))]), x32, x33, x34, x35, by simp only [Act.put, List.setIfInBounds_toArray, List.set_cons_zero, List.set_cons_succ], ?_⟩
      exact ⟨fun h => hF.out.f0 (by simpa using h), fun h => hF.out.f1 (by simpa using h), fun h => hF.out.f2 (by simpa using h), fun h => hF.out.f3 (by simpa using h), fun h => hF.out.f4 (by simpa using h), fun h => hF.out.f5 (by simpa using h), fun h => hF.out.f6 (by simpa using h), fun h => hF.out.f7 (by simpa using h), fun h => hF.out.f8 (by simpa using h), fun h => hF.out.f9 (by simpa using h), fun h => hF.out.f10 (by simpa using h), fun h => hF.out.f11 (by simpa using h), fun h => hF.out.f12 (by simpa using h), fun _ => rfl, fun h => hF.out.f14 (by simpa using h), fun h => hF.out.f15 (by simpa using h), fun h => hF.out.f16 (by simpa using h), fun h => hF.out.f17 (by simpa using h), fun h => hF.out.f18 (by simpa using h), fun h => by have := hF.out.o15_4 (by simpa using h); simpa using this, fun h => by have := hF.out.o15_14 (by simpa using h); simpa using this, fun h => by have := hF.out.q18_15 (by simpa using h); simpa using this, hF.out.kk, hF.out.bx, hF.out.ca, fun h => hF.out.rd (by simpa using h), fun h h2 => hF.out.bs (by simpa using h) (by simpa using h2), fun h h2 => hF.out.th (by simpa using h) (by simpa using h2), fun h => hF.out.fin (by simpa using h)⟩
    · intro d a W hI hd hdep
      obtain ⟨gb, gr, cr, x18, x19, x20, x21, x22, x23, x24, x25, x26, x27, x28, x29, x30, x31, x32, x33, x34, x35, rfl, hF⟩ := hI
      have hd13 : d 13 = true := dep_of hdep 13 (by kernel_rfl)
      obtain rfl := hF.out.f13 hd13
      have HN15 : Hid (d 15 = false) := no_later hF.out.o15_14 hd
      have HN18 : Hid (d 18 = false) := no_later hF.out.q18_15 HN15.out
      have hrd := hF.out.rd HN15.out
      clear hdep hd hd13
      intro K hK
      simp only [Act.put, List.setIfInBounds_toArray, List.set_cons_zero, List.set_cons_succ]
      go_simp
      refine hK.out _ _ ⟨W.heap.size, gr, cr, x18, x19, x20, x21, x22, x23, x24, x25, x26, x27, x28, x29, x30, (.agg #[.int .i64 r, .int .i64 (ia : Int), .int .i64 ((ia : Int) + (z : Int))]), (.slice (some ⟨W.heap.size, 0, none⟩) 1 1), x33, x34, x35, by simp only [Act.put, List.setIfInBounds_toArray, List.set_cons_zero, List.set_cons_succ], ?_⟩
      have B1 := (Below.refl W.heap.size W).alloc (Nat.le_refl _) (Obj.cells #[Value.int .i64 r, Value.int .i64 (ia : Int), Value.int .i64 ((ia : Int) + (z : Int))] 37)
      exact ⟨fun h => hF.out.f0 (by simpa using h), fun h => hF.out.f1 (by simpa using h), fun h => hF.out.f2 (by simpa using h), fun h => hF.out.f3 (by simpa using h), fun h => hF.out.f4 (by simpa using h), fun h => hF.out.f5 (by simpa using h), fun h => hF.out.f6 (by simpa using h), fun h => hF.out.f7 (by simpa using h), fun h => hF.out.f8 (by simpa using h), fun h => hF.out.f9 (by simpa using h), fun h => hF.out.f10 (by simpa using h), fun h => hF.out.f11 (by simpa using h), fun h => hF.out.f12 (by simpa using h), fun h => hF.out.f13 (by simpa using h), fun _ => rfl, fun h => hF.out.f15 (by simpa using h), fun h => hF.out.f16 (by simpa using h), fun h => hF.out.f17 (by simpa using h), fun h => hF.out.f18 (by simpa using h), fun h => by have := hF.out.o15_4 (by simpa using h); simpa using this, fun _ => by simp, fun h => by have := hF.out.q18_15 (by simpa using h); simpa using this, hF.out.kk.next B1 hrd.sz, (B1.block b (Nat.lt_of_lt_of_le HBX.out.2.2.1 hF.out.kk.size)).trans hF.out.bx, (hrd.next B1).c258, fun _ => hrd.next B1, fun _ _ j u hj => by rw [cell_of_block W [Value.int .i64 r, Value.int .i64 (ia : Int), Value.int .i64 ((ia : Int) + (z : Int))] 37 j]; exact hj, fun h => by have := HN15.out; simp [this] at h, fun h => by have := HN18.out; simp [this] at h⟩
    · intro d a W hI hd hdep
      obtain ⟨gb, gr, cr, x18, x19, x20, x21, x22, x23, x24, x25, x26, x27, x28, x29, x30, x31, x32, x33, x34, x35, rfl, hF⟩ := hI
      have hd4 : d 4 = true := dep_of hdep 4 (by kernel_rfl)
      have hd14 : d 14 = true := dep_of hdep 14 (by kernel_rfl)
      obtain rfl := hF.out.f4 hd4
      obtain rfl := hF.out.f14 hd14
      have hrd := hF.out.rd hd
      have HN18 : Hid (d 18 = false) := no_later hF.out.q18_15 hd
      have e15_4 := hd4
      have e15_14 := hd14
      have hbk := hF.out.bs hd14 hd
      have hm := run_append_lies (P := Try.prog) W 31 31 B 37 i3 _ 3 24 Try.underlying31 H3.out.1 H3.out.2.1 H3.out.2.2.1 H3.out.2.2.2 rfl (by omega) (.slice va ts.length vc) ts.length (tcs ts) hrd.own ⟨gb, 0, none⟩ 1 1 [.int .i64 r, .int .i64 (ia : Int), .int .i64 ((ia : Int) + (z : Int))] rfl (fun j u hj => by rw [Addr.add_lit, Nat.zero_add]; exact hbk j u hj) (by intro u hu; simp at hu; rcases hu with rfl | rfl | rfl <;> rfl) (by omega) (by have := HTL.out; unfold maxLen; omega) (by have := HTL.out; omega) hrd.sz W.heap.size rfl
      have hmm := hm.choose_spec.choose_spec.choose_spec
      generalize hm.choose_spec.choose_spec.choose = W1x at hmm
      generalize hm.choose_spec.choose = cr2 at hmm
      generalize hm.choose = gr2 at hmm
      have hrun := hmm.1
      have hng : ∀ q, q < B → some q ≠ (Value.slice va ts.length vc).ownBlock := fun q hq e => by have := (hrd.own.lt q e.symm).1; omega
      have HM : Hid (W1x.rowIs g 42 262 (rf O nv tv (ia : Int) s o (.slice va ts.length vc)) ∧ W1x.ownsRow B 37 3 (.slice (some ⟨gr2, 0, none⟩) (ts.length + 1) cr2) (ts.length + 1) (tcs (ts ++ [(r, ia, ia + z)])) ∧ B ≤ W1x.heap.size ∧ Mk B g w1 W1x ∧ W1x.heap[b]? = w1.heap[b]?) :=
        ⟨hrd.row.of_block (hmm.2.2.1.block g hrd.row.lt (hng g hrd.lt)), by rw [tcs_snoc]; have := hmm.2.1; simpa using this, Nat.le_trans hrd.sz hmm.2.2.1.size, hF.out.kk.grown hmm.2.2.1 (fun k hk => (hrd.own.lt k hk).1) hrd.sz, (hmm.2.2.1.block b (Nat.lt_of_lt_of_le HBX.out.2.2.1 hF.out.kk.size) (fun e => HBX.out.2.2.2 e.symm)).trans hF.out.bx⟩
      clear hmm hm hbk hrd hng
      clear hdep hd hd4 hd14
      intro K hK
      refine step_call_append (sv := (.slice va ts.length vc)) (xv := .slice (some ⟨gb, 0, none⟩) 1 1) (v := .slice (some ⟨gr2, 0, none⟩) (ts.length + 1) cr2) (W1 := W1x) (by rfl) _ _ 31 (by rfl) (by simp only [Act.put, List.setIfInBounds_toArray, List.set_cons_zero, List.set_cons_succ]; rfl) (by simp only [Act.put, List.setIfInBounds_toArray, List.set_cons_zero, List.set_cons_succ]; rfl) (by exact hrun) ?_
      simp only [Act.put, List.setIfInBounds_toArray, List.set_cons_zero, List.set_cons_succ]
      refine hK.out _ _ ⟨gb, gr2, cr2, x18, x19, x20, x21, (.slice va ts.length vc), x23, x24, x25, x26, x27, x28, x29, x30, x31, (.slice (some ⟨gb, 0, none⟩) 1 1), (.slice (some ⟨gr2, 0, none⟩) (ts.length + 1) cr2), x34, x35, by simp only [Act.put, List.setIfInBounds_toArray, List.set_cons_zero, List.set_cons_succ], ?_⟩
      exact ⟨fun h => hF.out.f0 (by simpa using h), fun h => hF.out.f1 (by simpa using h), fun h => hF.out.f2 (by simpa using h), fun h => hF.out.f3 (by simpa using h), fun h => hF.out.f4 (by simpa using h), fun h => hF.out.f5 (by simpa using h), fun h => hF.out.f6 (by simpa using h), fun h => hF.out.f7 (by simpa using h), fun h => hF.out.f8 (by simpa using h), fun h => hF.out.f9 (by simpa using h), fun h => hF.out.f10 (by simpa using h), fun h => hF.out.f11 (by simpa using h), fun h => hF.out.f12 (by simpa using h), fun h => hF.out.f13 (by simpa using h), fun h => hF.out.f14 (by simpa using h), fun _ => rfl, fun h => hF.out.f16 (by simpa using h), fun h => hF.out.f17 (by simpa using h), fun h => hF.out.f18 (by simpa using h), fun _ => by simpa using e15_4, fun _ => by simpa using e15_14, fun _ => by simp, HM.out.2.2.2.1, HM.out.2.2.2.2, HM.out.1.cell (i := 258) (by omega), fun h => by simp at h, fun _ h => by simp at h, fun _ _ => ⟨HM.out.1, HM.out.2.1, HM.out.2.2.1⟩, fun h => by have := HN18.out; simp [this] at h⟩
    · intro d a W hI hd hdep
      obtain ⟨gb, gr, cr, x18, x19, x20, x21, x22, x23, x24, x25, x26, x27, x28, x29, x30, x31, x32, x33, x34, x35, rfl, hF⟩ := hI
      have hd0 : d 0 = true := dep_of hdep 0 (by kernel_rfl)
      obtain rfl := hF.out.f0 hd0
      clear hdep hd hd0
      intro K hK
      simp only [Act.put, List.setIfInBounds_toArray, List.set_cons_zero, List.set_cons_succ]
      go_simp
      refine hK.out _ _ ⟨gb, gr, cr, (.pointer (some ⟨g, 0, none⟩)), x19, x20, x21, x22, x23, x24, x25, x26, x27, x28, x29, x30, x31, x32, x33, (.pointer (some ⟨g, 0, none⟩)), x35, by simp only [Act.put, List.setIfInBounds_toArray, List.set_cons_zero, List.set_cons_succ], ?_⟩
      exact ⟨fun h => hF.out.f0 (by simpa using h), fun h => hF.out.f1 (by simpa using h), fun h => hF.out.f2 (by simpa using h), fun h => hF.out.f3 (by simpa using h), fun h => hF.out.f4 (by simpa using h), fun h => hF.out.f5 (by simpa using h), fun h => hF.out.f6 (by simpa using h), fun h => hF.out.f7 (by simpa using h), fun h => hF.out.f8 (by simpa using h), fun h => hF.out.f9 (by simpa using h), fun h => hF.out.f10 (by simpa using h), fun h => hF.out.f11 (by simpa using h), fun h => hF.out.f12 (by simpa using h), fun h => hF.out.f13 (by simpa using h), fun h => hF.out.f14 (by simpa using h), fun h => hF.out.f15 (by simpa using h), fun _ => rfl, fun h => hF.out.f17 (by simpa using h), fun h => hF.out.f18 (by simpa using h), fun h => by have := hF.out.o15_4 (by simpa using h); simpa using this, fun h => by have := hF.out.o15_14 (by simpa using h); simpa using this, fun h => by have := hF.out.q18_15 (by simpa using h); simpa using this, hF.out.kk, hF.out.bx, hF.out.ca, fun h => hF.out.rd (by simpa using h), fun h h2 => hF.out.bs (by simpa using h) (by simpa using h2), fun h h2 => hF.out.th (by simpa using h) (by simpa using h2), fun h => hF.out.fin (by simpa using h)⟩
    · intro d a W hI hd hdep
      obtain ⟨gb, gr, cr, x18, x19, x20, x21, x22, x23, x24, x25, x26, x27, x28, x29, x30, x31, x32, x33, x34, x35, rfl, hF⟩ := hI
      have hd16 : d 16 = true := dep_of hdep 16 (by kernel_rfl)
      obtain rfl := hF.out.f16 hd16
      clear hdep hd hd16
      intro K hK
      simp only [Act.put, List.setIfInBounds_toArray, List.set_cons_zero, List.set_cons_succ]
      go_simp
      refine hK.out _ _ ⟨gb, gr, cr, x18, x19, x20, x21, x22, x23, x24, x25, x26, x27, x28, x29, x30, x31, x32, x33, (.pointer (some ⟨g, 0, none⟩)), (.pointer (some ⟨g, 261, none⟩)), by simp only [Act.put, List.setIfInBounds_toArray, List.set_cons_zero, List.set_cons_succ], ?_⟩
      exact ⟨fun h => hF.out.f0 (by simpa using h), fun h => hF.out.f1 (by simpa using h), fun h => hF.out.f2 (by simpa using h), fun h => hF.out.f3 (by simpa using h), fun h => hF.out.f4 (by simpa using h), fun h => hF.out.f5 (by simpa using h), fun h => hF.out.f6 (by simpa using h), fun h => hF.out.f7 (by simpa using h), fun h => hF.out.f8 (by simpa using h), fun h => hF.out.f9 (by simpa using h), fun h => hF.out.f10 (by simpa using h), fun h => hF.out.f11 (by simpa using h), fun h => hF.out.f12 (by simpa using h), fun h => hF.out.f13 (by simpa using h), fun h => hF.out.f14 (by simpa using h), fun h => hF.out.f15 (by simpa using h), fun h => hF.out.f16 (by simpa using h), fun _ => rfl, fun h => hF.out.f18 (by simpa using h), fun h => by have := hF.out.o15_4 (by simpa using h); simpa using this, fun h => by have := hF.out.o15_14 (by simpa using h); simpa using this, fun h => by have := hF.out.q18_15 (by simpa using h); simpa using this, hF.out.kk, hF.out.bx, hF.out.ca, fun h => hF.out.rd (by simpa using h), fun h h2 => hF.out.bs (by simpa using h) (by simpa using h2), fun h h2 => hF.out.th (by simpa using h) (by simpa using h2), fun h => hF.out.fin (by simpa using h)⟩
    · intro d a W hI hd hdep
      obtain ⟨gb, gr, cr, x18, x19, x20, x21, x22, x23, x24, x25, x26, x27, x28, x29, x30, x31, x32, x33, x34, x35, rfl, hF⟩ := hI
      have hd17 : d 17 = true := dep_of hdep 17 (by kernel_rfl)
      have hd15 : d 15 = true := dep_of hdep 15 (by kernel_rfl)
      obtain rfl := hF.out.f17 hd17
      obtain rfl := hF.out.f15 hd15
      have e18_15 := hd15
      have hth := hF.out.th hd15 hd
      have ya := hth.1.cell (i := 261) (by omega)
      have yb := hth.1.frozen 261
      have HTH : Hid (Rd O nv tv B g ia s o (.slice (some ⟨gr, 0, none⟩) (ts.length + 1) cr) (ts ++ [(r, ia, ia + z)]) (W.setCell ⟨g, 261, none⟩ (.slice (some ⟨gr, 0, none⟩) (ts.length + 1) cr))) := Rd.setToks hth.1 (by rw [List.length_append]; exact hth.2.1) HGB.out hth.2.2
      have HCA : Hid ((W.setCell ⟨g, 261, none⟩ (.slice (some ⟨gr, 0, none⟩) (ts.length + 1) cr)).cell? ⟨g, 258, none⟩ = some (.int .i64 (ia : Int))) := HTH.out.c258
      clear hth
      clear hdep hd hd17 hd15
      intro K hK
      simp only [Act.put, List.setIfInBounds_toArray, List.set_cons_zero, List.set_cons_succ]
      go_simp
      refine hK.out _ _ ⟨gb, gr, cr, x18, x19, x20, x21, x22, x23, x24, x25, x26, x27, x28, x29, x30, x31, x32, (.slice (some ⟨gr, 0, none⟩) (ts.length + 1) cr), x34, (.pointer (some ⟨g, 261, none⟩)), by simp only [Act.put, List.setIfInBounds_toArray, List.set_cons_zero, List.set_cons_succ], ?_⟩
      exact ⟨fun h => hF.out.f0 (by simpa using h), fun h => hF.out.f1 (by simpa using h), fun h => hF.out.f2 (by simpa using h), fun h => hF.out.f3 (by simpa using h), fun h => hF.out.f4 (by simpa using h), fun h => hF.out.f5 (by simpa using h), fun h => hF.out.f6 (by simpa using h), fun h => hF.out.f7 (by simpa using h), fun h => hF.out.f8 (by simpa using h), fun h => hF.out.f9 (by simpa using h), fun h => hF.out.f10 (by simpa using h), fun h => hF.out.f11 (by simpa using h), fun h => hF.out.f12 (by simpa using h), fun h => hF.out.f13 (by simpa using h), fun h => hF.out.f14 (by simpa using h), fun h => hF.out.f15 (by simpa using h), fun h => hF.out.f16 (by simpa using h), fun h => hF.out.f17 (by simpa using h), fun _ => trivial, fun h => by have := hF.out.o15_4 (by simpa using h); simpa using this, fun h => by have := hF.out.o15_14 (by simpa using h); simpa using this, fun _ => by simpa using e18_15, hF.out.kk.set _ _, (Below.heap_setCell _ _ _ _ (by have := HBG.out; simpa using this)).trans hF.out.bx, HCA.out, fun h => by have := e18_15; simp [this] at h, fun _ h => by have := e18_15; simp [this] at h, fun _ h => by simp at h, fun _ => HTH.out⟩
  · intro d a W hI hall
    obtain ⟨gb, gr, cr, x18, x19, x20, x21, x22, x23, x24, x25, x26, x27, x28, x29, x30, x31, x32, x33, x34, x35, rfl, hF⟩ := hI
    simp only [List.length_cons, List.length_nil] at hall
    obtain rfl := hF.out.f0 (hall 0 (by omega))
    obtain rfl := hF.out.f1 (hall 1 (by omega))
    obtain rfl := hF.out.f2 (hall 2 (by omega))
    obtain rfl := hF.out.f3 (hall 3 (by omega))
    obtain rfl := hF.out.f4 (hall 4 (by omega))
    obtain rfl := hF.out.f5 (hall 5 (by omega))
    obtain rfl := hF.out.f6 (hall 6 (by omega))
    obtain rfl := hF.out.f7 (hall 7 (by omega))
    obtain rfl := hF.out.f8 (hall 8 (by omega))
    obtain rfl := hF.out.f9 (hall 9 (by omega))
    obtain rfl := hF.out.f10 (hall 10 (by omega))
    obtain rfl := hF.out.f11 (hall 11 (by omega))
    obtain rfl := hF.out.f12 (hall 12 (by omega))
    obtain rfl := hF.out.f13 (hall 13 (by omega))
    obtain rfl := hF.out.f14 (hall 14 (by omega))
    obtain rfl := hF.out.f15 (hall 15 (by omega))
    obtain rfl := hF.out.f16 (hall 16 (by omega))
    obtain rfl := hF.out.f17 (hall 17 (by omega))
    have HR2 : Hid (Rd O nv tv B g ia s o (.slice (some ⟨gr, 0, none⟩) (ts.length + 1) cr) (ts ++ [(r, ia, ia + z)]) W ∧ W.heap[b]? = w1.heap[b]?) := ⟨hF.out.fin (hall 18 (by omega)), hF.out.bx⟩
    have HMK2 : Hid (Mk B g w W) := HMK1.out.trans hF.out.kk
    clear hF hall
    simp only [Act.put, List.setIfInBounds_toArray, List.set_cons_zero, List.set_cons_succ]
    obtain ⟨w2, rfl⟩ : ∃ w2, w2 = W := ⟨_, rfl⟩
    have HBX2 : Hid (w2.cell? ⟨b, 1, none⟩ = some (.int .i64 (z : Int))) := (cell_same HR2.out.2 1).trans HBX.out.2.1
    go_wp2_with fail
    refine wp_region_free mixed (fun a0 d a W => ∃ (ac : Nat) (sc : ByteArray) (x36 x37 x38 x39 x40 x41 x42 x43 x44 x45 x46 x47 x48 x49 x50 x51 x52 : Value), a = (((((((((((((((((a0.put (some 36) x36).put (some 37) x37).put (some 38) x38).put (some 39) x39).put (some 40) x40).put (some 41) x41).put (some 42) x42).put (some 43) x43).put (some 44) x44).put (some 45) x45).put (some 46) x46).put (some 47) x47).put (some 48) x48).put (some 49) x49).put (some 50) x50).put (some 51) x51).put (some 52) x52) ∧ Hid (RT5 w2 O nv tv B g b ia z s o (.slice (some ⟨gr, 0, none⟩) (ts.length + 1) cr) (ts ++ [(r, ia, ia + z)]) ac sc d x36 x37 x38 x39 x40 x41 x42 x43 x44 x45 x46 x47 x48 x49 x50 x51 x52 W)) (by kernel_rfl) ⟨ia, s, undef, undef, undef, undef, undef, undef, undef, undef, undef, undef, undef, undef, undef, undef, undef, undef, undef, by simp only [Act.put, List.setIfInBounds_toArray, List.set_cons_zero, List.set_cons_succ], ?_⟩ ?_ ?_
    · exact ⟨fun h => no_way h, fun h => no_way h, fun h => no_way h, fun h => no_way h, fun h => no_way h, fun h => no_way h, fun h => no_way h, fun h => no_way h, fun h => no_way h, fun h => no_way h, fun h => no_way h, fun h => no_way h, fun h => no_way h, fun h => no_way h, fun _ => trivial, fun h => no_way h, fun h => no_way h, fun h => no_way h, fun _ => trivial, fun h => no_way h, fun h => no_way h, (Mk.refl _ _ _).drew, rfl, HR2.out.1.drew, fun _ => rfl, fun h => no_way h, fun h => no_way h⟩
    · simp only [StepAll, and_true]
      refine ⟨?_, ?_, ?_, ?_, ?_, ?_, ?_, ?_, ?_, ?_, ?_, ?_, ?_, ?_, ?_, ?_, ?_, ?_, ?_⟩
      · intro d a W hI hd hdep
        obtain ⟨ac, sc, x36, x37, x38, x39, x40, x41, x42, x43, x44, x45, x46, x47, x48, x49, x50, x51, x52, rfl, hF⟩ := hI
        clear hdep hd
        intro K hK
        simp only [Act.put, List.setIfInBounds_toArray, List.set_cons_zero, List.set_cons_succ]
        go_simp
        refine hK.out _ _ ⟨ac, sc, (.pointer (some ⟨g, 0, none⟩)), x37, x38, x39, x40, x41, x42, x43, x44, x45, x46, x47, x48, x49, x50, x51, x52, by simp only [Act.put, List.setIfInBounds_toArray, List.set_cons_zero, List.set_cons_succ], ?_⟩
        exact ⟨fun _ => rfl, fun h => hF.out.f1 (by simpa using h), fun h => hF.out.f2 (by simpa using h), fun h => hF.out.f3 (by simpa using h), fun h => hF.out.f4 (by simpa using h), fun h => hF.out.f5 (by simpa using h), fun h => hF.out.f6 (by simpa using h), fun h => hF.out.f7 (by simpa using h), fun h => hF.out.f8 (by simpa using h), fun h => hF.out.f9 (by simpa using h), fun h => hF.out.f10 (by simpa using h), fun h => hF.out.f11 (by simpa using h), fun h => hF.out.f12 (by simpa using h), fun h => hF.out.f13 (by simpa using h), fun h => hF.out.f14 (by simpa using h), fun h => hF.out.f15 (by simpa using h), fun h => hF.out.f16 (by simpa using h), fun h => hF.out.f17 (by simpa using h), fun h => hF.out.f18 (by simpa using h), fun h => by have := hF.out.o10_7 (by simpa using h); simpa using this, fun h => by have := hF.out.q18_10 (by simpa using h); simpa using this, hF.out.kk, hF.out.bx, hF.out.rd, fun h => hF.out.fs (by simpa using h), fun h => hF.out.ga (by simpa using h), fun h => hF.out.gs (by simpa using h)⟩
      · intro d a W hI hd hdep
        obtain ⟨ac, sc, x36, x37, x38, x39, x40, x41, x42, x43, x44, x45, x46, x47, x48, x49, x50, x51, x52, rfl, hF⟩ := hI
        clear hdep hd
        intro K hK
        simp only [Act.put, List.setIfInBounds_toArray, List.set_cons_zero, List.set_cons_succ]
        go_simp
        refine hK.out _ _ ⟨ac, sc, x36, (.pointer (some ⟨g, 0, none⟩)), x38, x39, x40, x41, x42, x43, x44, x45, x46, x47, x48, x49, x50, x51, x52, by simp only [Act.put, List.setIfInBounds_toArray, List.set_cons_zero, List.set_cons_succ], ?_⟩
        exact ⟨fun h => hF.out.f0 (by simpa using h), fun _ => rfl, fun h => hF.out.f2 (by simpa using h), fun h => hF.out.f3 (by simpa using h), fun h => hF.out.f4 (by simpa using h), fun h => hF.out.f5 (by simpa using h), fun h => hF.out.f6 (by simpa using h), fun h => hF.out.f7 (by simpa using h), fun h => hF.out.f8 (by simpa using h), fun h => hF.out.f9 (by simpa using h), fun h => hF.out.f10 (by simpa using h), fun h => hF.out.f11 (by simpa using h), fun h => hF.out.f12 (by simpa using h), fun h => hF.out.f13 (by simpa using h), fun h => hF.out.f14 (by simpa using h), fun h => hF.out.f15 (by simpa using h), fun h => hF.out.f16 (by simpa using h), fun h => hF.out.f17 (by simpa using h), fun h => hF.out.f18 (by simpa using h), fun h => by have := hF.out.o10_7 (by simpa using h); simpa using this, fun h => by have := hF.out.q18_10 (by simpa using h); simpa using this, hF.out.kk, hF.out.bx, hF.out.rd, fun h => hF.out.fs (by simpa using h), fun h => hF.out.ga (by simpa using h), fun h => hF.out.gs (by simpa using h)⟩
      · intro d a W hI hd hdep
        obtain ⟨ac, sc, x36, x37, x38, x39, x40, x41, x42, x43, x44, x45, x46, x47, x48, x49, x50, x51, x52, rfl, hF⟩ := hI
        clear hdep hd
        intro K hK
        simp only [Act.put, List.setIfInBounds_toArray, List.set_cons_zero, List.set_cons_succ]
        go_simp
        refine hK.out _ _ ⟨ac, sc, x36, x37, (.int .i64 ((ia : Int) + (z : Int))), x39, x40, x41, x42, x43, x44, x45, x46, x47, x48, x49, x50, x51, x52, by simp only [Act.put, List.setIfInBounds_toArray, List.set_cons_zero, List.set_cons_succ], ?_⟩
        exact ⟨fun h => hF.out.f0 (by simpa using h), fun h => hF.out.f1 (by simpa using h), fun _ => rfl, fun h => hF.out.f3 (by simpa using h), fun h => hF.out.f4 (by simpa using h), fun h => hF.out.f5 (by simpa using h), fun h => hF.out.f6 (by simpa using h), fun h => hF.out.f7 (by simpa using h), fun h => hF.out.f8 (by simpa using h), fun h => hF.out.f9 (by simpa using h), fun h => hF.out.f10 (by simpa using h), fun h => hF.out.f11 (by simpa using h), fun h => hF.out.f12 (by simpa using h), fun h => hF.out.f13 (by simpa using h), fun h => hF.out.f14 (by simpa using h), fun h => hF.out.f15 (by simpa using h), fun h => hF.out.f16 (by simpa using h), fun h => hF.out.f17 (by simpa using h), fun h => hF.out.f18 (by simpa using h), fun h => by have := hF.out.o10_7 (by simpa using h); simpa using this, fun h => by have := hF.out.q18_10 (by simpa using h); simpa using this, hF.out.kk, hF.out.bx, hF.out.rd, fun h => hF.out.fs (by simpa using h), fun h => hF.out.ga (by simpa using h), fun h => hF.out.gs (by simpa using h)⟩
      · intro d a W hI hd hdep
        obtain ⟨ac, sc, x36, x37, x38, x39, x40, x41, x42, x43, x44, x45, x46, x47, x48, x49, x50, x51, x52, rfl, hF⟩ := hI
        clear hdep hd
        intro K hK
        simp only [Act.put, List.setIfInBounds_toArray, List.set_cons_zero, List.set_cons_succ]
        go_simp
        refine hK.out _ _ ⟨ac, sc, x36, x37, x38, (.pointer (some ⟨g, 0, none⟩)), x40, x41, x42, x43, x44, x45, x46, x47, x48, x49, x50, x51, x52, by simp only [Act.put, List.setIfInBounds_toArray, List.set_cons_zero, List.set_cons_succ], ?_⟩
        exact ⟨fun h => hF.out.f0 (by simpa using h), fun h => hF.out.f1 (by simpa using h), fun h => hF.out.f2 (by simpa using h), fun _ => rfl, fun h => hF.out.f4 (by simpa using h), fun h => hF.out.f5 (by simpa using h), fun h => hF.out.f6 (by simpa using h), fun h => hF.out.f7 (by simpa using h), fun h => hF.out.f8 (by simpa using h), fun h => hF.out.f9 (by simpa using h), fun h => hF.out.f10 (by simpa using h), fun h => hF.out.f11 (by simpa using h), fun h => hF.out.f12 (by simpa using h), fun h => hF.out.f13 (by simpa using h), fun h => hF.out.f14 (by simpa using h), fun h => hF.out.f15 (by simpa using h), fun h => hF.out.f16 (by simpa using h), fun h => hF.out.f17 (by simpa using h), fun h => hF.out.f18 (by simpa using h), fun h => by have := hF.out.o10_7 (by simpa using h); simpa using this, fun h => by have := hF.out.q18_10 (by simpa using h); simpa using this, hF.out.kk, hF.out.bx, hF.out.rd, fun h => hF.out.fs (by simpa using h), fun h => hF.out.ga (by simpa using h), fun h => hF.out.gs (by simpa using h)⟩
      · intro d a W hI hd hdep
        obtain ⟨ac, sc, x36, x37, x38, x39, x40, x41, x42, x43, x44, x45, x46, x47, x48, x49, x50, x51, x52, rfl, hF⟩ := hI
        have hd3 : d 3 = true := dep_of hdep 3 (by kernel_rfl)
        obtain rfl := hF.out.f3 hd3
        clear hdep hd hd3
        intro K hK
        simp only [Act.put, List.setIfInBounds_toArray, List.set_cons_zero, List.set_cons_succ]
        go_simp
        refine hK.out _ _ ⟨ac, sc, x36, x37, x38, (.pointer (some ⟨g, 0, none⟩)), (.pointer (some ⟨g, 0, none⟩)), x41, x42, x43, x44, x45, x46, x47, x48, x49, x50, x51, x52, by simp only [Act.put, List.setIfInBounds_toArray, List.set_cons_zero, List.set_cons_succ], ?_⟩
        exact ⟨fun h => hF.out.f0 (by simpa using h), fun h => hF.out.f1 (by simpa using h), fun h => hF.out.f2 (by simpa using h), fun h => hF.out.f3 (by simpa using h), fun _ => rfl, fun h => hF.out.f5 (by simpa using h), fun h => hF.out.f6 (by simpa using h), fun h => hF.out.f7 (by simpa using h), fun h => hF.out.f8 (by simpa using h), fun h => hF.out.f9 (by simpa using h), fun h => hF.out.f10 (by simpa using h), fun h => hF.out.f11 (by simpa using h), fun h => hF.out.f12 (by simpa using h), fun h => hF.out.f13 (by simpa using h), fun h => hF.out.f14 (by simpa using h), fun h => hF.out.f15 (by simpa using h), fun h => hF.out.f16 (by simpa using h), fun h => hF.out.f17 (by simpa using h), fun h => hF.out.f18 (by simpa using h), fun h => by have := hF.out.o10_7 (by simpa using h); simpa using this, fun h => by have := hF.out.q18_10 (by simpa using h); simpa using this, hF.out.kk, hF.out.bx, hF.out.rd, fun h => hF.out.fs (by simpa using h), fun h => hF.out.ga (by simpa using h), fun h => hF.out.gs (by simpa using h)⟩
      · intro d a W hI hd hdep
        obtain ⟨ac, sc, x36, x37, x38, x39, x40, x41, x42, x43, x44, x45, x46, x47, x48, x49, x50, x51, x52, rfl, hF⟩ := hI
        have hd4 : d 4 = true := dep_of hdep 4 (by kernel_rfl)
        obtain rfl := hF.out.f4 hd4
        clear hdep hd hd4
        intro K hK
        simp only [Act.put, List.setIfInBounds_toArray, List.set_cons_zero, List.set_cons_succ]
        go_simp
        refine hK.out _ _ ⟨ac, sc, x36, x37, x38, x39, (.pointer (some ⟨g, 0, none⟩)), (.pointer (some ⟨g, 258, none⟩)), x42, x43, x44, x45, x46, x47, x48, x49, x50, x51, x52, by simp only [Act.put, List.setIfInBounds_toArray, List.set_cons_zero, List.set_cons_succ], ?_⟩
        exact ⟨fun h => hF.out.f0 (by simpa using h), fun h => hF.out.f1 (by simpa using h), fun h => hF.out.f2 (by simpa using h), fun h => hF.out.f3 (by simpa using h), fun h => hF.out.f4 (by simpa using h), fun _ => rfl, fun h => hF.out.f6 (by simpa using h), fun h => hF.out.f7 (by simpa using h), fun h => hF.out.f8 (by simpa using h), fun h => hF.out.f9 (by simpa using h), fun h => hF.out.f10 (by simpa using h), fun h => hF.out.f11 (by simpa using h), fun h => hF.out.f12 (by simpa using h), fun h => hF.out.f13 (by simpa using h), fun h => hF.out.f14 (by simpa using h), fun h => hF.out.f15 (by simpa using h), fun h => hF.out.f16 (by simpa using h), fun h => hF.out.f17 (by simpa using h), fun h => hF.out.f18 (by simpa using h), fun h => by have := hF.out.o10_7 (by simpa using h); simpa using this, fun h => by have := hF.out.q18_10 (by simpa using h); simpa using this, hF.out.kk, hF.out.bx, hF.out.rd, fun h => hF.out.fs (by simpa using h), fun h => hF.out.ga (by simpa using h), fun h => hF.out.gs (by simpa using h)⟩
      · intro d a W hI hd hdep
        obtain ⟨ac, sc, x36, x37, x38, x39, x40, x41, x42, x43, x44, x45, x46, x47, x48, x49, x50, x51, x52, rfl, hF⟩ := hI
        have hd5 : d 5 = true := dep_of hdep 5 (by kernel_rfl)
        obtain rfl := hF.out.f5 hd5
        clear hdep hd hd5
        intro K hK
        simp only [Act.put, List.setIfInBounds_toArray, List.set_cons_zero, List.set_cons_succ]
        go_simp
        refine hK.out _ _ ⟨ac, sc, x36, x37, x38, x39, x40, (.pointer (some ⟨g, 258, none⟩)), (.pointer (some ⟨g, 259, none⟩)), x43, x44, x45, x46, x47, x48, x49, x50, x51, x52, by simp only [Act.put, List.setIfInBounds_toArray, List.set_cons_zero, List.set_cons_succ], ?_⟩
        exact ⟨fun h => hF.out.f0 (by simpa using h), fun h => hF.out.f1 (by simpa using h), fun h => hF.out.f2 (by simpa using h), fun h => hF.out.f3 (by simpa using h), fun h => hF.out.f4 (by simpa using h), fun h => hF.out.f5 (by simpa using h), fun _ => rfl, fun h => hF.out.f7 (by simpa using h), fun h => hF.out.f8 (by simpa using h), fun h => hF.out.f9 (by simpa using h), fun h => hF.out.f10 (by simpa using h), fun h => hF.out.f11 (by simpa using h), fun h => hF.out.f12 (by simpa using h), fun h => hF.out.f13 (by simpa using h), fun h => hF.out.f14 (by simpa using h), fun h => hF.out.f15 (by simpa using h), fun h => hF.out.f16 (by simpa using h), fun h => hF.out.f17 (by simpa using h), fun h => hF.out.f18 (by simpa using h), fun h => by have := hF.out.o10_7 (by simpa using h); simpa using this, fun h => by have := hF.out.q18_10 (by simpa using h); simpa using this, hF.out.kk, hF.out.bx, hF.out.rd, fun h => hF.out.fs (by simpa using h), fun h => hF.out.ga (by simpa using h), fun h => hF.out.gs (by simpa using h)⟩
      · intro d a W hI hd hdep
        obtain ⟨ac, sc, x36, x37, x38, x39, x40, x41, x42, x43, x44, x45, x46, x47, x48, x49, x50, x51, x52, rfl, hF⟩ := hI
        have hd6 : d 6 = true := dep_of hdep 6 (by kernel_rfl)
        obtain rfl := hF.out.f6 hd6
        have HN10 : Hid (d 10 = false) := no_later hF.out.o10_7 hd
        have HN18 : Hid (d 18 = false) := no_later hF.out.q18_10 HN10.out
        have ya := hF.out.rd.c259
        rw [hF.out.fs HN18.out] at ya
        clear hdep hd hd6
        intro K hK
        simp only [Act.put, List.setIfInBounds_toArray, List.set_cons_zero, List.set_cons_succ]
        go_simp
        refine hK.out _ _ ⟨ac, sc, x36, x37, x38, x39, x40, x41, (.pointer (some ⟨g, 259, none⟩)), (.string s), x44, x45, x46, x47, x48, x49, x50, x51, x52, by simp only [Act.put, List.setIfInBounds_toArray, List.set_cons_zero, List.set_cons_succ], ?_⟩
        exact ⟨fun h => hF.out.f0 (by simpa using h), fun h => hF.out.f1 (by simpa using h), fun h => hF.out.f2 (by simpa using h), fun h => hF.out.f3 (by simpa using h), fun h => hF.out.f4 (by simpa using h), fun h => hF.out.f5 (by simpa using h), fun h => hF.out.f6 (by simpa using h), fun _ => rfl, fun h => hF.out.f8 (by simpa using h), fun h => hF.out.f9 (by simpa using h), fun h => hF.out.f10 (by simpa using h), fun h => hF.out.f11 (by simpa using h), fun h => hF.out.f12 (by simpa using h), fun h => hF.out.f13 (by simpa using h), fun h => hF.out.f14 (by simpa using h), fun h => hF.out.f15 (by simpa using h), fun h => hF.out.f16 (by simpa using h), fun h => hF.out.f17 (by simpa using h), fun h => hF.out.f18 (by simpa using h), fun _ => by simp, fun h => by have := hF.out.q18_10 (by simpa using h); simpa using this, hF.out.kk, hF.out.bx, hF.out.rd, fun h => hF.out.fs (by simpa using h), fun h => hF.out.ga (by simpa using h), fun h => hF.out.gs (by simpa using h)⟩
      · intro d a W hI hd hdep
        obtain ⟨ac, sc, x36, x37, x38, x39, x40, x41, x42, x43, x44, x45, x46, x47, x48, x49, x50, x51, x52, rfl, hF⟩ := hI
        clear hdep hd
        intro K hK
        simp only [Act.put, List.setIfInBounds_toArray, List.set_cons_zero, List.set_cons_succ]
        go_simp
        refine hK.out _ _ ⟨ac, sc, x36, x37, x38, x39, x40, x41, x42, x43, (.pointer (some ⟨b, 1, none⟩)), x45, x46, x47, x48, x49, x50, x51, x52, by simp only [Act.put, List.setIfInBounds_toArray, List.set_cons_zero, List.set_cons_succ], ?_⟩
        exact ⟨fun h => hF.out.f0 (by simpa using h), fun h => hF.out.f1 (by simpa using h), fun h => hF.out.f2 (by simpa using h), fun h => hF.out.f3 (by simpa using h), fun h => hF.out.f4 (by simpa using h), fun h => hF.out.f5 (by simpa using h), fun h => hF.out.f6 (by simpa using h), fun h => hF.out.f7 (by simpa using h), fun _ => rfl, fun h => hF.out.f9 (by simpa using h), fun h => hF.out.f10 (by simpa using h), fun h => hF.out.f11 (by simpa using h), fun h => hF.out.f12 (by simpa using h), fun h => hF.out.f13 (by simpa using h), fun h => hF.out.f14 (by simpa using h), fun h => hF.out.f15 (by simpa using h), fun h => hF.out.f16 (by simpa using h), fun h => hF.out.f17 (by simpa using h), fun h => hF.out.f18 (by simpa using h), fun h => by have := hF.out.o10_7 (by simpa using h); simpa using this, fun h => by have := hF.out.q18_10 (by simpa using h); simpa using this, hF.out.kk, hF.out.bx, hF.out.rd, fun h => hF.out.fs (by simpa using h), fun h => hF.out.ga (by simpa using h), fun h => hF.out.gs (by simpa using h)⟩
      · intro d a W hI hd hdep
        obtain ⟨ac, sc, x36, x37, x38, x39, x40, x41, x42, x43, x44, x45, x46, x47, x48, x49, x50, x51, x52, rfl, hF⟩ := hI
        have hd8 : d 8 = true := dep_of hdep 8 (by kernel_rfl)
        obtain rfl := hF.out.f8 hd8
        have ya := (cell_same hF.out.bx 1).trans HBX2.out
        clear hdep hd hd8
        intro K hK
        simp only [Act.put, List.setIfInBounds_toArray, List.set_cons_zero, List.set_cons_succ]
        go_simp
        refine hK.out _ _ ⟨ac, sc, x36, x37, x38, x39, x40, x41, x42, x43, (.pointer (some ⟨b, 1, none⟩)), (.int .i64 (z : Int)), x46, x47, x48, x49, x50, x51, x52, by simp only [Act.put, List.setIfInBounds_toArray, List.set_cons_zero, List.set_cons_succ], ?_⟩
        exact ⟨fun h => hF.out.f0 (by simpa using h), fun h => hF.out.f1 (by simpa using h), fun h => hF.out.f2 (by simpa using h), fun h => hF.out.f3 (by simpa using h), fun h => hF.out.f4 (by simpa using h), fun h => hF.out.f5 (by simpa using h), fun h => hF.out.f6 (by simpa using h), fun h => hF.out.f7 (by simpa using h), fun h => hF.out.f8 (by simpa using h), fun _ => rfl, fun h => hF.out.f10 (by simpa using h), fun h => hF.out.f11 (by simpa using h), fun h => hF.out.f12 (by simpa using h), fun h => hF.out.f13 (by simpa using h), fun h => hF.out.f14 (by simpa using h), fun h => hF.out.f15 (by simpa using h), fun h => hF.out.f16 (by simpa using h), fun h => hF.out.f17 (by simpa using h), fun h => hF.out.f18 (by simpa using h), fun h => by have := hF.out.o10_7 (by simpa using h); simpa using this, fun h => by have := hF.out.q18_10 (by simpa using h); simpa using this, hF.out.kk, hF.out.bx, hF.out.rd, fun h => hF.out.fs (by simpa using h), fun h => hF.out.ga (by simpa using h), fun h => hF.out.gs (by simpa using h)⟩
      · intro d a W hI hd hdep
        obtain ⟨ac, sc, x36, x37, x38, x39, x40, x41, x42, x43, x44, x45, x46, x47, x48, x49, x50, x51, x52, rfl, hF⟩ := hI
        have hd7 : d 7 = true := dep_of hdep 7 (by kernel_rfl)
        have hd9 : d 9 = true := dep_of hdep 9 (by kernel_rfl)
        obtain rfl := hF.out.f7 hd7
        obtain rfl := hF.out.f9 hd9
        have e10_7 := hd7
        have hz1 : (0 : Int) ≤ (z : Int) := by omega
        have hz2 : (z : Int) ≤ (s.size : Int) := by have := HZS.out; omega
        clear hdep hd hd7 hd9
        intro K hK
        simp only [Act.put, List.setIfInBounds_toArray, List.set_cons_zero, List.set_cons_succ]
        go_simp
        refine hK.out _ _ ⟨ac, sc, x36, x37, x38, x39, x40, x41, x42, (.string s), x44, (.int .i64 (z : Int)), (.string (s.extract z s.size)), x47, x48, x49, x50, x51, x52, by simp only [Act.put, List.setIfInBounds_toArray, List.set_cons_zero, List.set_cons_succ], ?_⟩
        exact ⟨fun h => hF.out.f0 (by simpa using h), fun h => hF.out.f1 (by simpa using h), fun h => hF.out.f2 (by simpa using h), fun h => hF.out.f3 (by simpa using h), fun h => hF.out.f4 (by simpa using h), fun h => hF.out.f5 (by simpa using h), fun h => hF.out.f6 (by simpa using h), fun h => hF.out.f7 (by simpa using h), fun h => hF.out.f8 (by simpa using h), fun h => hF.out.f9 (by simpa using h), fun _ => rfl, fun h => hF.out.f11 (by simpa using h), fun h => hF.out.f12 (by simpa using h), fun h => hF.out.f13 (by simpa using h), fun h => hF.out.f14 (by simpa using h), fun h => hF.out.f15 (by simpa using h), fun h => hF.out.f16 (by simpa using h), fun h => hF.out.f17 (by simpa using h), fun h => hF.out.f18 (by simpa using h), fun _ => by simpa using e10_7, fun _ => by simp, hF.out.kk, hF.out.bx, hF.out.rd, fun h => hF.out.fs (by simpa using h), fun h => hF.out.ga (by simpa using h), fun h => hF.out.gs (by simpa using h)⟩
      · intro d a W hI hd hdep
        obtain ⟨ac, sc, x36, x37, x38, x39, x40, x41, x42, x43, x44, x45, x46, x47, x48, x49, x50, x51, x52, rfl, hF⟩ := hI
        have hd0 : d 0 = true := dep_of hdep 0 (by kernel_rfl)
        obtain rfl := hF.out.f0 hd0
        clear hdep hd hd0
        intro K hK
        simp only [Act.put, List.setIfInBounds_toArray, List.set_cons_zero, List.set_cons_succ]
        go_simp
        refine hK.out _ _ ⟨ac, sc, (.pointer (some ⟨g, 0, none⟩)), x37, x38, x39, x40, x41, x42, x43, x44, x45, x46, (.pointer (some ⟨g, 0, none⟩)), x48, x49, x50, x51, x52, by simp only [Act.put, List.setIfInBounds_toArray, List.set_cons_zero, List.set_cons_succ], ?_⟩
        exact ⟨fun h => hF.out.f0 (by simpa using h), fun h => hF.out.f1 (by simpa using h), fun h => hF.out.f2 (by simpa using h), fun h => hF.out.f3 (by simpa using h), fun h => hF.out.f4 (by simpa using h), fun h => hF.out.f5 (by simpa using h), fun h => hF.out.f6 (by simpa using h), fun h => hF.out.f7 (by simpa using h), fun h => hF.out.f8 (by simpa using h), fun h => hF.out.f9 (by simpa using h), fun h => hF.out.f10 (by simpa using h), fun _ => rfl, fun h => hF.out.f12 (by simpa using h), fun h => hF.out.f13 (by simpa using h), fun h => hF.out.f14 (by simpa using h), fun h => hF.out.f15 (by simpa using h), fun h => hF.out.f16 (by simpa using h), fun h => hF.out.f17 (by simpa using h), fun h => hF.out.f18 (by simpa using h), fun h => by have := hF.out.o10_7 (by simpa using h); simpa using this, fun h => by have := hF.out.q18_10 (by simpa using h); simpa using this, hF.out.kk, hF.out.bx, hF.out.rd, fun h => hF.out.fs (by simpa using h), fun h => hF.out.ga (by simpa using h), fun h => hF.out.gs (by simpa using h)⟩
      · intro d a W hI hd hdep
        obtain ⟨ac, sc, x36, x37, x38, x39, x40, x41, x42, x43, x44, x45, x46, x47, x48, x49, x50, x51, x52, rfl, hF⟩ := hI
        have hd11 : d 11 = true := dep_of hdep 11 (by kernel_rfl)
        obtain rfl := hF.out.f11 hd11
        clear hdep hd hd11
        intro K hK
        simp only [Act.put, List.setIfInBounds_toArray, List.set_cons_zero, List.set_cons_succ]
        go_simp
        refine hK.out _ _ ⟨ac, sc, x36, x37, x38, x39, x40, x41, x42, x43, x44, x45, x46, (.pointer (some ⟨g, 0, none⟩)), (.pointer (some ⟨g, 258, none⟩)), x49, x50, x51, x52, by simp only [Act.put, List.setIfInBounds_toArray, List.set_cons_zero, List.set_cons_succ], ?_⟩
        exact ⟨fun h => hF.out.f0 (by simpa using h), fun h => hF.out.f1 (by simpa using h), fun h => hF.out.f2 (by simpa using h), fun h => hF.out.f3 (by simpa using h), fun h => hF.out.f4 (by simpa using h), fun h => hF.out.f5 (by simpa using h), fun h => hF.out.f6 (by simpa using h), fun h => hF.out.f7 (by simpa using h), fun h => hF.out.f8 (by simpa using h), fun h => hF.out.f9 (by simpa using h), fun h => hF.out.f10 (by simpa using h), fun h => hF.out.f11 (by simpa using h), fun _ => rfl, fun h => hF.out.f13 (by simpa using h), fun h => hF.out.f14 (by simpa using h), fun h => hF.out.f15 (by simpa using h), fun h => hF.out.f16 (by simpa using h), fun h => hF.out.f17 (by simpa using h), fun h => hF.out.f18 (by simpa using h), fun h => by have := hF.out.o10_7 (by simpa using h); simpa using this, fun h => by have := hF.out.q18_10 (by simpa using h); simpa using this, hF.out.kk, hF.out.bx, hF.out.rd, fun h => hF.out.fs (by simpa using h), fun h => hF.out.ga (by simpa using h), fun h => hF.out.gs (by simpa using h)⟩
      · intro d a W hI hd hdep
        obtain ⟨ac, sc, x36, x37, x38, x39, x40, x41, x42, x43, x44, x45, x46, x47, x48, x49, x50, x51, x52, rfl, hF⟩ := hI
        have hd12 : d 12 = true := dep_of hdep 12 (by kernel_rfl)
        obtain rfl := hF.out.f12 hd12
        clear hdep hd hd12
        intro K hK
        simp only [Act.put, List.setIfInBounds_toArray, List.set_cons_zero, List.set_cons_succ]
        go_simp
        refine hK.out _ _ ⟨ac, sc, x36, x37, x38, x39, x40, x41, x42, x43, x44, x45, x46, x47, (.pointer (some ⟨g, 258, none⟩)), (.pointer (some ⟨g, 258, none⟩)), x50, x51, x52, by simp only [Act.put, List.setIfInBounds_toArray, List.set_cons_zero, List.set_cons_succ], ?_⟩
        exact ⟨fun h => hF.out.f0 (by simpa using h), fun h => hF.out.f1 (by simpa using h), fun h => hF.out.f2 (by simpa using h), fun h => hF.out.f3 (by simpa using h), fun h => hF.out.f4 (by simpa using h), fun h => hF.out.f5 (by simpa using h), fun h => hF.out.f6 (by simpa using h), fun h => hF.out.f7 (by simpa using h), fun h => hF.out.f8 (by simpa using h), fun h => hF.out.f9 (by simpa using h), fun h => hF.out.f10 (by simpa using h), fun h => hF.out.f11 (by simpa using h), fun h => hF.out.f12 (by simpa using h), fun _ => rfl, fun h => hF.out.f14 (by simpa using h), fun h => hF.out.f15 (by simpa using h), fun h => hF.out.f16 (by simpa using h), fun h => hF.out.f17 (by simpa using h), fun h => hF.out.f18 (by simpa using h), fun h => by have := hF.out.o10_7 (by simpa using h); simpa using this, fun h => by have := hF.out.q18_10 (by simpa using h); simpa using this, hF.out.kk, hF.out.bx, hF.out.rd, fun h => hF.out.fs (by simpa using h), fun h => hF.out.ga (by simpa using h), fun h => hF.out.gs (by simpa using h)⟩
      · intro d a W hI hd hdep
        obtain ⟨ac, sc, x36, x37, x38, x39, x40, x41, x42, x43, x44, x45, x46, x47, x48, x49, x50, x51, x52, rfl, hF⟩ := hI
        have hd13 : d 13 = true := dep_of hdep 13 (by kernel_rfl)
        have hd2 : d 2 = true := dep_of hdep 2 (by kernel_rfl)
        obtain rfl := hF.out.f13 hd13
        obtain rfl := hF.out.f2 hd2
        have ya := hF.out.rd.c258
        have yb := hF.out.rd.row.frozen 258
        clear hdep hd hd13 hd2
        intro K hK
        simp only [Act.put, List.setIfInBounds_toArray, List.set_cons_zero, List.set_cons_succ]
        go_simp
        refine hK.out _ _ ⟨(ia + z), sc, x36, x37, (.int .i64 ((ia : Int) + (z : Int))), x39, x40, x41, x42, x43, x44, x45, x46, x47, x48, (.pointer (some ⟨g, 258, none⟩)), x50, x51, x52, by simp only [Act.put, List.setIfInBounds_toArray, List.set_cons_zero, List.set_cons_succ], ?_⟩
        exact ⟨fun h => hF.out.f0 (by simpa using h), fun h => hF.out.f1 (by simpa using h), fun h => hF.out.f2 (by simpa using h), fun h => hF.out.f3 (by simpa using h), fun h => hF.out.f4 (by simpa using h), fun h => hF.out.f5 (by simpa using h), fun h => hF.out.f6 (by simpa using h), fun h => hF.out.f7 (by simpa using h), fun h => hF.out.f8 (by simpa using h), fun h => hF.out.f9 (by simpa using h), fun h => hF.out.f10 (by simpa using h), fun h => hF.out.f11 (by simpa using h), fun h => hF.out.f12 (by simpa using h), fun h => hF.out.f13 (by simpa using h), fun _ => trivial, fun h => hF.out.f15 (by simpa using h), fun h => hF.out.f16 (by simpa using h), fun h => hF.out.f17 (by simpa using h), fun h => hF.out.f18 (by simpa using h), fun h => by have := hF.out.o10_7 (by simpa using h); simpa using this, fun h => by have := hF.out.q18_10 (by simpa using h); simpa using this, hF.out.kk.set _ _, (Below.heap_setCell _ _ _ _ (by have := HBG.out; simpa using this)).trans hF.out.bx, by have := hF.out.rd.setAt (ia + z); rwa [show ((ia + z : Nat) : Int) = (ia : Int) + (z : Int) by omega] at this, fun h => hF.out.fs (by simpa using h), fun _ => rfl, fun h => hF.out.gs (by simpa using h)⟩
      · intro d a W hI hd hdep
        obtain ⟨ac, sc, x36, x37, x38, x39, x40, x41, x42, x43, x44, x45, x46, x47, x48, x49, x50, x51, x52, rfl, hF⟩ := hI
        have hd1 : d 1 = true := dep_of hdep 1 (by kernel_rfl)
        obtain rfl := hF.out.f1 hd1
        clear hdep hd hd1
        intro K hK
        simp only [Act.put, List.setIfInBounds_toArray, List.set_cons_zero, List.set_cons_succ]
        go_simp
        refine hK.out _ _ ⟨ac, sc, x36, (.pointer (some ⟨g, 0, none⟩)), x38, x39, x40, x41, x42, x43, x44, x45, x46, x47, x48, x49, (.pointer (some ⟨g, 0, none⟩)), x51, x52, by simp only [Act.put, List.setIfInBounds_toArray, List.set_cons_zero, List.set_cons_succ], ?_⟩
        exact ⟨fun h => hF.out.f0 (by simpa using h), fun h => hF.out.f1 (by simpa using h), fun h => hF.out.f2 (by simpa using h), fun h => hF.out.f3 (by simpa using h), fun h => hF.out.f4 (by simpa using h), fun h => hF.out.f5 (by simpa using h), fun h => hF.out.f6 (by simpa using h), fun h => hF.out.f7 (by simpa using h), fun h => hF.out.f8 (by simpa using h), fun h => hF.out.f9 (by simpa using h), fun h => hF.out.f10 (by simpa using h), fun h => hF.out.f11 (by simpa using h), fun h => hF.out.f12 (by simpa using h), fun h => hF.out.f13 (by simpa using h), fun h => hF.out.f14 (by simpa using h), fun _ => rfl, fun h => hF.out.f16 (by simpa using h), fun h => hF.out.f17 (by simpa using h), fun h => hF.out.f18 (by simpa using h), fun h => by have := hF.out.o10_7 (by simpa using h); simpa using this, fun h => by have := hF.out.q18_10 (by simpa using h); simpa using this, hF.out.kk, hF.out.bx, hF.out.rd, fun h => hF.out.fs (by simpa using h), fun h => hF.out.ga (by simpa using h), fun h => hF.out.gs (by simpa using h)⟩
      · intro d a W hI hd hdep
        obtain ⟨ac, sc, x36, x37, x38, x39, x40, x41, x42, x43, x44, x45, x46, x47, x48, x49, x50, x51, x52, rfl, hF⟩ := hI
        have hd15 : d 15 = true := dep_of hdep 15 (by kernel_rfl)
        obtain rfl := hF.out.f15 hd15
        clear hdep hd hd15
        intro K hK
        simp only [Act.put, List.setIfInBounds_toArray, List.set_cons_zero, List.set_cons_succ]
        go_simp
        refine hK.out _ _ ⟨ac, sc, x36, x37, x38, x39, x40, x41, x42, x43, x44, x45, x46, x47, x48, x49, (.pointer (some ⟨g, 0, none⟩)), (.pointer (some ⟨g, 258, none⟩)), x52, by simp only [Act.put, List.setIfInBounds_toArray, List.set_cons_zero, List.set_cons_succ], ?_⟩
        exact ⟨fun h => hF.out.f0 (by simpa using h), fun h => hF.out.f1 (by simpa using h), fun h => hF.out.f2 (by simpa using h), fun h => hF.out.f3 (by simpa using h), fun h => hF.out.f4 (by simpa using h), fun h => hF.out.f5 (by simpa using h), fun h => hF.out.f6 (by simpa using h), fun h => hF.out.f7 (by simpa using h), fun h => hF.out.f8 (by simpa using h), fun h => hF.out.f9 (by simpa using h), fun h => hF.out.f10 (by simpa using h), fun h => hF.out.f11 (by simpa using h), fun h => hF.out.f12 (by simpa using h), fun h => hF.out.f13 (by simpa using h), fun h => hF.out.f14 (by simpa using h), fun h => hF.out.f15 (by simpa using h), fun _ => rfl, fun h => hF.out.f17 (by simpa using h), fun h => hF.out.f18 (by simpa using h), fun h => by have := hF.out.o10_7 (by simpa using h); simpa using this, fun h => by have := hF.out.q18_10 (by simpa using h); simpa using this, hF.out.kk, hF.out.bx, hF.out.rd, fun h => hF.out.fs (by simpa using h), fun h => hF.out.ga (by simpa using h), fun h => hF.out.gs (by simpa using h)⟩
      · intro d a W hI hd hdep
        obtain ⟨ac, sc, x36, x37, x38, x39, x40, x41, x42, x43, x44, x45, x46, x47, x48, x49, x50, x51, x52, rfl, hF⟩ := hI
        have hd16 : d 16 = true := dep_of hdep 16 (by kernel_rfl)
        obtain rfl := hF.out.f16 hd16
        clear hdep hd hd16
        intro K hK
        simp only [Act.put, List.setIfInBounds_toArray, List.set_cons_zero, List.set_cons_succ]
        go_simp
        refine hK.out _ _ ⟨ac, sc, x36, x37, x38, x39, x40, x41, x42, x43, x44, x45, x46, x47, x48, x49, x50, (.pointer (some ⟨g, 258, none⟩)), (.pointer (some ⟨g, 259, none⟩)), by simp only [Act.put, List.setIfInBounds_toArray, List.set_cons_zero, List.set_cons_succ], ?_⟩
        exact ⟨fun h => hF.out.f0 (by simpa using h), fun h => hF.out.f1 (by simpa using h), fun h => hF.out.f2 (by simpa using h), fun h => hF.out.f3 (by simpa using h), fun h => hF.out.f4 (by simpa using h), fun h => hF.out.f5 (by simpa using h), fun h => hF.out.f6 (by simpa using h), fun h => hF.out.f7 (by simpa using h), fun h => hF.out.f8 (by simpa using h), fun h => hF.out.f9 (by simpa using h), fun h => hF.out.f10 (by simpa using h), fun h => hF.out.f11 (by simpa using h), fun h => hF.out.f12 (by simpa using h), fun h => hF.out.f13 (by simpa using h), fun h => hF.out.f14 (by simpa using h), fun h => hF.out.f15 (by simpa using h), fun h => hF.out.f16 (by simpa using h), fun _ => rfl, fun h => hF.out.f18 (by simpa using h), fun h => by have := hF.out.o10_7 (by simpa using h); simpa using this, fun h => by have := hF.out.q18_10 (by simpa using h); simpa using this, hF.out.kk, hF.out.bx, hF.out.rd, fun h => hF.out.fs (by simpa using h), fun h => hF.out.ga (by simpa using h), fun h => hF.out.gs (by simpa using h)⟩
      · intro d a W hI hd hdep
        obtain ⟨ac, sc, x36, x37, x38, x39, x40, x41, x42, x43, x44, x45, x46, x47, x48, x49, x50, x51, x52, rfl, hF⟩ := hI
        have hd17 : d 17 = true := dep_of hdep 17 (by kernel_rfl)
        have hd10 : d 10 = true := dep_of hdep 10 (by kernel_rfl)
        obtain rfl := hF.out.f17 hd17
        obtain rfl := hF.out.f10 hd10
        have e18_10 := hd10
        have ya := hF.out.rd.c259
        have yb := hF.out.rd.row.frozen 259
        clear hdep hd hd17 hd10
        intro K hK
        simp only [Act.put, List.setIfInBounds_toArray, List.set_cons_zero, List.set_cons_succ]
        go_simp
        refine hK.out _ _ ⟨ac, (s.extract z s.size), x36, x37, x38, x39, x40, x41, x42, x43, x44, x45, (.string (s.extract z s.size)), x47, x48, x49, x50, x51, (.pointer (some ⟨g, 259, none⟩)), by simp only [Act.put, List.setIfInBounds_toArray, List.set_cons_zero, List.set_cons_succ], ?_⟩
        exact ⟨fun h => hF.out.f0 (by simpa using h), fun h => hF.out.f1 (by simpa using h), fun h => hF.out.f2 (by simpa using h), fun h => hF.out.f3 (by simpa using h), fun h => hF.out.f4 (by simpa using h), fun h => hF.out.f5 (by simpa using h), fun h => hF.out.f6 (by simpa using h), fun h => hF.out.f7 (by simpa using h), fun h => hF.out.f8 (by simpa using h), fun h => hF.out.f9 (by simpa using h), fun h => hF.out.f10 (by simpa using h), fun h => hF.out.f11 (by simpa using h), fun h => hF.out.f12 (by simpa using h), fun h => hF.out.f13 (by simpa using h), fun h => hF.out.f14 (by simpa using h), fun h => hF.out.f15 (by simpa using h), fun h => hF.out.f16 (by simpa using h), fun h => hF.out.f17 (by simpa using h), fun _ => trivial, fun h => by have := hF.out.o10_7 (by simpa using h); simpa using this, fun _ => by simpa using e18_10, hF.out.kk.set _ _, (Below.heap_setCell _ _ _ _ (by have := HBG.out; simpa using this)).trans hF.out.bx, hF.out.rd.setBuf _, fun h => by simp at h, fun h => hF.out.ga (by simpa using h), fun _ => rfl⟩
    · intro d a W hI hall
      obtain ⟨ac, sc, x36, x37, x38, x39, x40, x41, x42, x43, x44, x45, x46, x47, x48, x49, x50, x51, x52, rfl, hF⟩ := hI
      simp only [List.length_cons, List.length_nil] at hall
      obtain rfl := hF.out.f0 (hall 0 (by omega))
      obtain rfl := hF.out.f1 (hall 1 (by omega))
      obtain rfl := hF.out.f2 (hall 2 (by omega))
      obtain rfl := hF.out.f3 (hall 3 (by omega))
      obtain rfl := hF.out.f4 (hall 4 (by omega))
      obtain rfl := hF.out.f5 (hall 5 (by omega))
      obtain rfl := hF.out.f6 (hall 6 (by omega))
      obtain rfl := hF.out.f7 (hall 7 (by omega))
      obtain rfl := hF.out.f8 (hall 8 (by omega))
      obtain rfl := hF.out.f9 (hall 9 (by omega))
      obtain rfl := hF.out.f10 (hall 10 (by omega))
      obtain rfl := hF.out.f11 (hall 11 (by omega))
      obtain rfl := hF.out.f12 (hall 12 (by omega))
      obtain rfl := hF.out.f13 (hall 13 (by omega))
      obtain rfl := hF.out.f15 (hall 15 (by omega))
      obtain rfl := hF.out.f16 (hall 16 (by omega))
      obtain rfl := hF.out.f17 (hall 17 (by omega))
      have HEND : Hid (Rd O nv tv B g (ia + z) (s.extract z s.size) o (.slice (some ⟨gr, 0, none⟩) (ts.length + 1) cr) (ts ++ [(r, ia, ia + z)]) W ∧ Mk B g w W) := by
        have q := hF.out.rd
        rw [hF.out.ga (hall 14 (by omega)), hF.out.gs (hall 18 (by omega))] at q
        exact ⟨q, HMK2.out.trans hF.out.kk⟩
      clear hF hall
      simp only [Act.put, List.setIfInBounds_toArray, List.set_cons_zero, List.set_cons_succ]
      go_wp2_with fail
      go_end0
      exact ⟨rfl, _, HEND.out.1, HEND.out.2⟩

set_option maxHeartbeats 1600000 in
set_option maxRecDepth 20000 in
theorem tell_bad (O : Nat → Nat) (nv tv : Value) (B g ia : Nat) (r : Int) (c : Bool) (s : ByteArray) (o : Int) (v : Value) (ts : List (Int × Nat × Nat)) (w : World) (h : Rd O nv tv B g ia s o v ts w) :
    Calls Try.prog 14 #[.pointer (some ⟨g, 0, none⟩), .agg #[.int .i64 r, .int .i64 0, .bool c]] w fun e w' => e = .returned (.tuple #[]) ∧ Rd O nv tv B g ia ⟨#[]⟩ 9 v ts w' ∧ Mk B g w w' := by
  have hbx := (Below.refl w.heap.size w).alloc (Nat.le_refl _) (Obj.cells #[Value.int .i64 r, Value.int .i64 0, Value.bool c] 45)
  have hst := stop_any O nv tv B g ia s o 9 v ts _ (h.next hbx)
  have HMK : Hid (Mk B g w (w.alloc (Obj.cells #[Value.int .i64 r, Value.int .i64 0, Value.bool c] 45))) := (Mk.refl B g w).next hbx h.sz
  clear h hbx
  go_enter Try.func14, Try.ntmps14
  go_wp2_with fail
  refine hst.mono ?_
  rintro _ w1 ⟨rfl, h1, h2⟩
  have HE : Hid (Rd O nv tv B g ia ⟨#[]⟩ 9 v ts w1 ∧ Mk B g w w1) := ⟨h1, HMK.out.trans h2⟩
  clear h1 h2 hst
  go_wp2_with fail
  exact bodyPost_ret (v := .tuple #[]) (results_none rfl _ _ _) rfl ⟨rfl, HE.out⟩
end Go.Proofs.Ytcdnbkfjiigdmaa
