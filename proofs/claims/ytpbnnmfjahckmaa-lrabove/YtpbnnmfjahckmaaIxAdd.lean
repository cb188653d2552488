/-
  The contract of items.bag's add.
-/
import Derived.Test.YtpbnnmfjahckmaaGrD
import Derived.Test.YtpbnnmfjahckmaaGrA
import Derived.Deep.Cut
namespace Go.Proofs.Ytpbnnmfjahckmaa
open Go.RowKit
open Go.Maps
open Cg


theorem step_call_append {P : Program} {ops : Array Oper} {o : Oper} {a : Act} {K : Act → World → Prop} {Q : Exit → Act → World → Prop} {E : Prop} {W W1 : World} {v sv xv : Value} (hgd : o.guard = none) (s x : Operand) (t : TypeId) (ho : o.op = .call { callee := .builtin .append, args := #[s, x], argTypes := #[t, t] })
    (hs : a.eval s = sv) (hx : a.eval x = xv) (hr : (Builtin.append_ #[t, t] o.type #[sv, xv]).run P W = .ok v W1) (h : K (a.put o.dst v) W1) : if Region.wanted o (yielded ops a.tmps) = true then Oper.wp P o a W K Q else E := by
  have hw : Region.wanted o (yielded ops a.tmps) = true := by simp [Region.wanted, hgd]
  rw [if_pos hw]
  unfold Oper.wp
  simp [execOp, ho, resolve, invoke, builtin, hs, hx, hr, Result.andThen]
  exact h
theorem stepAt_lookup {P : Program} {ops : Array Oper} {Q : Exit → Act → World → Prop} {I : (Nat → Bool) → Act → World → Prop} {i : Nat} {o : Oper} (hgd : o.guard = none) (m x : Operand) (t : TypeId) (ho : o.op = .lookup t m x true)
    (h : ∀ d a w, I d a w → d i = false → (∀ e ∈ o.after.toList, Region.binds .any e = true → d e.on = true) → ∃ mx xv u, a.eval m = mx ∧ a.eval x = xv ∧ (Instr.lookup t mx xv true).run P w = .ok u w ∧ I (fun j => if j = i then true else d j) (a.put o.dst u) w) : StepAt P ops Q I i o := by
  intro d a w hI hd hdep K hK
  obtain ⟨mx, xv, u, h1, h2, h3, h4⟩ := h d a w hI hd hdep
  exact step_lookup hgd m x t ho h1 h2 h3 (hK.out _ _ h4)
theorem Fm.grown1 {W W' : World} {b : Nat} (h : W.grownBy W' (some b)) : Fm (fun q => q = b) W W' := ⟨h.os, h.tape, h.output, h.size, fun k hk hn => h.block k hk (fun e => hn (Option.some.inj e))⟩
theorem Fm.grownO {W W' : World} {o : Option Nat} (h : W.grownBy W' o) : Fm (fun q => o = some q) W W' := ⟨h.os, h.tape, h.output, h.size, fun k hk hn => h.block k hk (fun e => hn e.symm)⟩
theorem Fm.setG {W W' : World} {g mb o : Nat} {v u : Value} (h : Fm (Xb g mb v) W W') : Fm (Xb g mb v) W (W'.setCell ⟨g, o, none⟩ u) :=
  ⟨h.os, h.tape, h.output, by simpa [World.setCell] using h.size, fun k hk hn => (Below.heap_setCell _ _ _ _ (fun e => hn (Or.inl e))).trans (h.block k hk hn)⟩
/-- An item's box. -/
structure I3b (q : Nat) (x : It) (W : World) : Prop where
  c0 : W.cell? ⟨q, 0, none⟩ = some (.int .i64 (x.1 : Int))
  c1 : W.cell? ⟨q, 1, none⟩ = some (.int .i64 (x.2.1 : Int))
  c2 : W.cell? ⟨q, 2, none⟩ = some (.int .i64 (x.2.2 : Int))
  lt : q < W.heap.size
theorem I3b.of {q : Nat} {x : It} {W W' : World} (h : I3b q x W) (e : W'.heap[q]? = W.heap[q]?) (hs : W.heap.size ≤ W'.heap.size) : I3b q x W' := by
  have e2 : ∀ i, W'.cell? ⟨q, i, none⟩ = W.cell? ⟨q, i, none⟩ := fun i => World.cell?_of_block (w := W) e
  exact ⟨(e2 0).trans h.c0, (e2 1).trans h.c1, (e2 2).trans h.c2, Nat.lt_of_lt_of_le h.lt hs⟩
theorem I3b.next {q : Nat} {x : It} {W W' : World} (h : I3b q x W) (hb : Below W.heap.size W W') : I3b q x W' := h.of (hb.block q h.lt) hb.size
theorem I3b.grown {q m : Nat} {x : It} {W W' : World} (h : I3b q x W) (hg : W.grownBy W' (some m)) (hn : q ≠ m) : I3b q x W' := h.of (hg.block q h.lt (fun e => hn (Option.some.inj e))) hg.size
theorem I3b.grownO {q : Nat} {o : Option Nat} {x : It} {W W' : World} (h : I3b q x W) (hg : W.grownBy W' o) (hn : o ≠ some q) : I3b q x W' := h.of (hg.block q h.lt (fun e => hn e.symm)) hg.size
theorem I3b.other {q : Nat} {x : It} {W : World} {a : Addr} {v : Value} (h : I3b q x W) (hn : q ≠ a.block) : I3b q x (W.setCell a v) := h.of (Below.heap_setCell _ _ _ _ hn) (by simp [World.setCell])
theorem I3b.box (W : World) (x : It) : I3b W.heap.size x (W.alloc (Obj.cells #[.int .i64 (x.1 : Int), .int .i64 (x.2.1 : Int), .int .i64 (x.2.2 : Int)] 145)) := ⟨by simp, by simp, by simp, by simp⟩
structure RA1 (w1 : World) (B g mb : Nat) (ao : Option Addr) (cp : Nat) (b : List It) (D : DataW Unit) (x : It) (q : Nat) (kl : Lit) (hs : Bool) (ge : Nat) (d : Nat → Bool) (x4 x5 x6 x7 x8 x9 x10 x11 x12 x13 x14 : Value) (W : World) : Prop where
  f0 : d 0 = true → x7 = (.pointer (some ⟨g, 0, none⟩))
  f1 : d 1 = true → x8 = (.pointer (some ⟨g, 0, none⟩))
  f2 : d 2 = true → x9 = (.pointer (some ⟨g, 0, none⟩))
  f3 : d 3 = true → x10 = (.map (some mb))
  f4 : d 4 = true → x11 = (.agg #[.int .i64 (x.1 : Int), .int .i64 (x.2.1 : Int), .int .i64 (x.2.2 : Int)])
  f5 : d 5 = true → x12 = (.tuple #[.agg #[], .bool hs])
  f6 : d 6 = true → x6 = (.tuple #[.agg #[], .bool hs])
  f7 : d 7 = true → x13 = (.agg #[])
  f8 : d 8 = true → x14 = (.bool hs)
  f9 : d 9 = true → x4 = (.pointer (some ⟨ge, 0, none⟩))
  f10 : d 10 = true → True
  f11 : d 11 = true → x5 = (.bool hs)
  ba : Ba B g mb (.slice ao b.length cp) b b D W
  ib : I3b q x W
  fm : Below w1.heap.size w1 W
structure RA3 (w1 : World) (B g mb : Nat) (ao : Option Addr) (cp : Nat) (b : List It) (D : DataW Unit) (x : It) (q : Nat) (kl : Lit) (hs : Bool) (d : Nat → Bool) (x16 x17 x18 x19 x20 x21 : Value) (W : World) : Prop where
  f0 : d 0 = true → x16 = (.pointer (some ⟨g, 0, none⟩))
  f1 : d 1 = true → x17 = (.pointer (some ⟨g, 0, none⟩))
  f2 : d 2 = true → x18 = (.pointer (some ⟨g, 0, none⟩))
  f3 : d 3 = true → x19 = (.map (some mb))
  f4 : d 4 = true → x20 = (.agg #[.int .i64 (x.1 : Int), .int .i64 (x.2.1 : Int), .int .i64 (x.2.2 : Int)])
  f5 : d 5 = true → x21 = (.agg #[])
  f6 : d 6 = true → True
  o6_3 : d 6 = true → d 3 = true
  ba : d 6 = false → Ba B g mb (.slice ao b.length cp) b b D W
  ib : I3b q x W
  fm : Fm (Xb g mb (.slice ao b.length cp)) w1 W
  fin : d 6 = true → Ba B g mb (.slice ao b.length cp) b (b ++ [x]) (D.put kl (.agg [])) W
structure RA4 (w1 : World) (B g mb : Nat) (ao : Option Addr) (cp : Nat) (b : List It) (D : DataW Unit) (x : It) (q : Nat) (gb : Nat) (gr : Nat) (cr : Nat) (d : Nat → Bool) (x22 x23 x24 x25 x26 x27 x28 x29 x30 x31 : Value) (W : World) : Prop where
  f0 : d 0 = true → x22 = (.pointer (some ⟨g, 0, none⟩))
  f1 : d 1 = true → x23 = (.pointer (some ⟨g, 0, none⟩))
  f2 : d 2 = true → x24 = (.pointer (some ⟨g, 0, none⟩))
  f3 : d 3 = true → x25 = (.pointer (some ⟨g, 1, none⟩))
  f4 : d 4 = true → x26 = (.slice ao b.length cp)
  f5 : d 5 = true → x27 = (.agg #[.int .i64 (x.1 : Int), .int .i64 (x.2.1 : Int), .int .i64 (x.2.2 : Int)])
  f6 : d 6 = true → x28 = (.slice (some ⟨gb, 0, none⟩) 1 1)
  f7 : d 7 = true → x29 = (.slice (some ⟨gr, 0, none⟩) (b.length + 1) cr)
  f8 : d 8 = true → x30 = (.pointer (some ⟨g, 0, none⟩))
  f9 : d 9 = true → x31 = (.pointer (some ⟨g, 1, none⟩))
  f10 : d 10 = true → True
  o7_4 : d 7 = true → d 4 = true
  o7_6 : d 7 = true → d 6 = true
  q10_7 : d 10 = true → d 7 = true
  fm : Fm (Xb g mb (.slice ao b.length cp)) w1 W
  ib : I3b q x W
  ba : d 7 = false → Ba B g mb (.slice ao b.length cp) b (b ++ [x]) D W
  bs : d 6 = true → d 7 = false → ∀ j u, ([.int .i64 (x.1 : Int), .int .i64 (x.2.1 : Int), .int .i64 (x.2.2 : Int)] : List Value)[j]? = some u → W.cell? ⟨gb, j, none⟩ = some u
  th : d 7 = true → d 10 = false → W.rowIs g 163 2 (bv mb (.slice ao b.length cp)) ∧ (Ba B g mb (.slice (some ⟨gr, 0, none⟩) (b.length + 1) cr) (b ++ [x]) (b ++ [x]) D (W.setCell ⟨g, 1, none⟩ (.slice (some ⟨gr, 0, none⟩) (b.length + 1) cr)) ∧ Fm (Xb g mb (.slice ao b.length cp)) w1 (W.setCell ⟨g, 1, none⟩ (.slice (some ⟨gr, 0, none⟩) (b.length + 1) cr)) ∧ ((Value.slice ao b.length cp).ownBlock = some gr ∨ w1.heap.size ≤ gr))
  fin : d 10 = true → Ba B g mb (.slice (some ⟨gr, 0, none⟩) (b.length + 1) cr) (b ++ [x]) (b ++ [x]) D W ∧ Fm (Xb g mb (.slice ao b.length cp)) w1 W ∧ ((Value.slice ao b.length cp).ownBlock = some gr ∨ w1.heap.size ≤ gr)
set_option maxHeartbeats 16000000 in
set_option maxRecDepth 20000 in
theorem add_any (B g mb : Nat) (v : Value) (b : List It) (D : DataW Unit) (x : It) (w : World) (h : Ba B g mb v b b D w) (hx : Sml x) (hl : b.length ≤ 1000000) (hv : ∃ ao cp, v = .slice ao b.length cp) :
    Calls Try.prog 91 #[(.pointer (some ⟨g, 0, none⟩)), (.agg #[.int .i64 (x.1 : Int), .int .i64 (x.2.1 : Int), .int .i64 (x.2.2 : Int)])] w fun e w' => e = .returned (.tuple #[]) ∧ AddP B g mb v (addL b x) w w' := by
  obtain ⟨ao, cp, rfl⟩ := hv
  obtain ⟨i40, a1, a2, a3, a4⟩ := info_parts info145
  have H40 : Hid (Try.prog.info? 145 = some i40 ∧ i40.zero = some (.agg #[.int .i64 0, .int .i64 0, .int .i64 0]) ∧ i40.size = 3 ∧ i40.bytes = 24) := ⟨a1, a2, a3, a4⟩
  have hbl := below_alloc w (Obj.cells #[.int .i64 (x.1 : Int), .int .i64 (x.2.1 : Int), .int .i64 (x.2.2 : Int)] 145)
  obtain ⟨kl, hkl⟩ := key40 x hx
  have HKL : Hid (keyOf Try.prog 145 (.agg #[.int .i64 (x.1 : Int), .int .i64 (x.2.1 : Int), .int .i64 (x.2.2 : Int)]) = some kl) := hkl
  have HSZ : Hid (b.length ≤ 1000000) := hl
  obtain ⟨l1, l2, l3⟩ := h.lt
  have HQ : Hid (w.heap.size ≠ mb ∧ w.heap.size ≠ g ∧ (Value.slice ao b.length cp).ownBlock ≠ some w.heap.size) := ⟨by omega, by omega, fun e => by have := l3 _ e; omega⟩
  obtain ⟨w1, HW1⟩ : ∃ z, Hid (w.alloc (Obj.cells #[.int .i64 (x.1 : Int), .int .i64 (x.2.1 : Int), .int .i64 (x.2.2 : Int)] 145) = z) := ⟨_, (rfl : w.alloc (Obj.cells #[.int .i64 (x.1 : Int), .int .i64 (x.2.1 : Int), .int .i64 (x.2.2 : Int)] 145) = _)⟩
  have HBA : Hid (Ba B g mb (.slice ao b.length cp) b b D w1) := by rw [← HW1.out]; exact h.next hbl
  have HIB : Hid (I3b w.heap.size x w1) := by rw [← HW1.out]; exact I3b.box w x
  have HFB : Hid (Fm (Xb g mb (.slice ao b.length cp)) w w1) := by rw [← HW1.out]; exact Fm.of hbl
  obtain ⟨q, HQQ⟩ : ∃ z, Hid (w.heap.size = z) := ⟨_, (rfl : w.heap.size = _)⟩
  rw [HQQ.out] at HQ HIB
  obtain ⟨hs, HHS⟩ : ∃ z, Hid (Maps.has D kl = z) := ⟨_, (rfl : Maps.has D kl = _)⟩
  have HLK : Hid (∀ W, Ba B g mb (.slice ao b.length cp) b b D W → (Instr.lookup 161 (.map (some mb)) (.agg #[.int .i64 (x.1 : Int), .int .i64 (x.2.1 : Int), .int .i64 (x.2.2 : Int)]) true).run Try.prog W = .ok (.tuple #[.agg #[], .bool hs]) W) := fun W hW => by
    have := hW.look hkl
    rw [HHS.out] at this
    exact this
  have hmem : hs = true ↔ x ∈ b := by rw [← HHS.out]; exact h.sn.2 x kl hkl
  obtain ⟨r, HRB⟩ : ∃ z, Hid (addL b x = z) := ⟨_, (rfl : addL b x = _)⟩
  rw [HRB.out]
  clear a1 a2 a3 a4 hbl hkl hl l1 l2 l3 h hx
  go_enter Try.func91, Try.ntmps91
  go_upto_region 1 with fail
  rw [HW1.out, HQQ.out]
  clear HW1
  refine wp_region_free mixed (fun a0 d a W => ∃ (ge : Nat) (x4 x5 x6 x7 x8 x9 x10 x11 x12 x13 x14 : Value), a = (((((((((((a0.put (some 4) x4).put (some 5) x5).put (some 6) x6).put (some 7) x7).put (some 8) x8).put (some 9) x9).put (some 10) x10).put (some 11) x11).put (some 12) x12).put (some 13) x13).put (some 14) x14) ∧ Hid (RA1 w1 B g mb ao cp b D x q kl hs ge d x4 x5 x6 x7 x8 x9 x10 x11 x12 x13 x14 W)) (by kernel_rfl) ⟨0, undef, undef, undef, undef, undef, undef, undef, undef, undef, undef, undef, by simp only [Act.put, List.setIfInBounds_toArray, List.set_cons_zero, List.set_cons_succ], ?_⟩ ?_ ?_
  · exact ⟨fun h => no_way h, fun h => no_way h, fun h => no_way h, fun h => no_way h, fun h => no_way h, fun h => no_way h, fun h => no_way h, fun h => no_way h, fun h => no_way h, fun h => no_way h, fun _ => trivial, fun h => no_way h, HBA.out.next (Below.refl _ _).drew, HIB.out.next (Below.refl _ _).drew, (Below.refl _ _).drew⟩
  · simp only [StepAll, and_true]
    refine ⟨?_, ?_, ?_, ?_, ?_, ?_, ?_, ?_, ?_, ?_, ?_, ?_⟩
    · intro d a W hI hd hdep
      obtain ⟨ge, x4, x5, x6, x7, x8, x9, x10, x11, x12, x13, x14, rfl, hF⟩ := hI
      clear hdep hd
      intro K hK
      simp only [Act.put, List.setIfInBounds_toArray, List.set_cons_zero, List.set_cons_succ]
      go_simp
      refine hK.out _ _ ⟨ge, x4, x5, x6, (.pointer (some ⟨g, 0, none⟩)), x8, x9, x10, x11, x12, x13, x14, by simp only [Act.put, List.setIfInBounds_toArray, List.set_cons_zero, List.set_cons_succ], ?_⟩
      exact ⟨fun _ => rfl, fun h => hF.out.f1 (by simpa using h), fun h => hF.out.f2 (by simpa using h), fun h => hF.out.f3 (by simpa using h), fun h => hF.out.f4 (by simpa using h), fun h => hF.out.f5 (by simpa using h), fun h => hF.out.f6 (by simpa using h), fun h => hF.out.f7 (by simpa using h), fun h => hF.out.f8 (by simpa using h), fun h => hF.out.f9 (by simpa using h), fun h => hF.out.f10 (by simpa using h), fun h => hF.out.f11 (by simpa using h), hF.out.ba, hF.out.ib, hF.out.fm⟩
    · intro d a W hI hd hdep
      obtain ⟨ge, x4, x5, x6, x7, x8, x9, x10, x11, x12, x13, x14, rfl, hF⟩ := hI
      have hd0 : d 0 = true := dep_of hdep 0 (by kernel_rfl)
      obtain rfl := hF.out.f0 hd0
      clear hdep hd hd0
      intro K hK
      simp only [Act.put, List.setIfInBounds_toArray, List.set_cons_zero, List.set_cons_succ]
      go_simp
      refine hK.out _ _ ⟨ge, x4, x5, x6, (.pointer (some ⟨g, 0, none⟩)), (.pointer (some ⟨g, 0, none⟩)), x9, x10, x11, x12, x13, x14, by simp only [Act.put, List.setIfInBounds_toArray, List.set_cons_zero, List.set_cons_succ], ?_⟩
      exact ⟨fun h => hF.out.f0 (by simpa using h), fun _ => rfl, fun h => hF.out.f2 (by simpa using h), fun h => hF.out.f3 (by simpa using h), fun h => hF.out.f4 (by simpa using h), fun h => hF.out.f5 (by simpa using h), fun h => hF.out.f6 (by simpa using h), fun h => hF.out.f7 (by simpa using h), fun h => hF.out.f8 (by simpa using h), fun h => hF.out.f9 (by simpa using h), fun h => hF.out.f10 (by simpa using h), fun h => hF.out.f11 (by simpa using h), hF.out.ba, hF.out.ib, hF.out.fm⟩
    · intro d a W hI hd hdep
      obtain ⟨ge, x4, x5, x6, x7, x8, x9, x10, x11, x12, x13, x14, rfl, hF⟩ := hI
      have hd1 : d 1 = true := dep_of hdep 1 (by kernel_rfl)
      obtain rfl := hF.out.f1 hd1
      clear hdep hd hd1
      intro K hK
      simp only [Act.put, List.setIfInBounds_toArray, List.set_cons_zero, List.set_cons_succ]
      go_simp
      refine hK.out _ _ ⟨ge, x4, x5, x6, x7, (.pointer (some ⟨g, 0, none⟩)), (.pointer (some ⟨g, 0, none⟩)), x10, x11, x12, x13, x14, by simp only [Act.put, List.setIfInBounds_toArray, List.set_cons_zero, List.set_cons_succ], ?_⟩
      exact ⟨fun h => hF.out.f0 (by simpa using h), fun h => hF.out.f1 (by simpa using h), fun _ => rfl, fun h => hF.out.f3 (by simpa using h), fun h => hF.out.f4 (by simpa using h), fun h => hF.out.f5 (by simpa using h), fun h => hF.out.f6 (by simpa using h), fun h => hF.out.f7 (by simpa using h), fun h => hF.out.f8 (by simpa using h), fun h => hF.out.f9 (by simpa using h), fun h => hF.out.f10 (by simpa using h), fun h => hF.out.f11 (by simpa using h), hF.out.ba, hF.out.ib, hF.out.fm⟩
    · intro d a W hI hd hdep
      obtain ⟨ge, x4, x5, x6, x7, x8, x9, x10, x11, x12, x13, x14, rfl, hF⟩ := hI
      have hd2 : d 2 = true := dep_of hdep 2 (by kernel_rfl)
      obtain rfl := hF.out.f2 hd2
      have ya : W.cell? ⟨g, 0, none⟩ = some (.map (some mb)) := hF.out.ba.bx.cell (i := 0) (by omega)
      clear hdep hd hd2
      intro K hK
      simp only [Act.put, List.setIfInBounds_toArray, List.set_cons_zero, List.set_cons_succ]
      go_simp
      refine hK.out _ _ ⟨ge, x4, x5, x6, x7, x8, (.pointer (some ⟨g, 0, none⟩)), (.map (some mb)), x11, x12, x13, x14, by simp only [Act.put, List.setIfInBounds_toArray, List.set_cons_zero, List.set_cons_succ], ?_⟩
      exact ⟨fun h => hF.out.f0 (by simpa using h), fun h => hF.out.f1 (by simpa using h), fun h => hF.out.f2 (by simpa using h), fun _ => rfl, fun h => hF.out.f4 (by simpa using h), fun h => hF.out.f5 (by simpa using h), fun h => hF.out.f6 (by simpa using h), fun h => hF.out.f7 (by simpa using h), fun h => hF.out.f8 (by simpa using h), fun h => hF.out.f9 (by simpa using h), fun h => hF.out.f10 (by simpa using h), fun h => hF.out.f11 (by simpa using h), hF.out.ba, hF.out.ib, hF.out.fm⟩
    · intro d a W hI hd hdep
      obtain ⟨ge, x4, x5, x6, x7, x8, x9, x10, x11, x12, x13, x14, rfl, hF⟩ := hI
      have ya := hF.out.ib.c0
      have yb := hF.out.ib.c1
      have yc := hF.out.ib.c2
      clear hdep hd
      intro K hK
      simp only [Act.put, List.setIfInBounds_toArray, List.set_cons_zero, List.set_cons_succ]
      go_simp
      refine hK.out _ _ ⟨ge, x4, x5, x6, x7, x8, x9, x10, (.agg #[.int .i64 (x.1 : Int), .int .i64 (x.2.1 : Int), .int .i64 (x.2.2 : Int)]), x12, x13, x14, by simp only [Act.put, List.setIfInBounds_toArray, List.set_cons_zero, List.set_cons_succ], ?_⟩
      exact ⟨fun h => hF.out.f0 (by simpa using h), fun h => hF.out.f1 (by simpa using h), fun h => hF.out.f2 (by simpa using h), fun h => hF.out.f3 (by simpa using h), fun _ => rfl, fun h => hF.out.f5 (by simpa using h), fun h => hF.out.f6 (by simpa using h), fun h => hF.out.f7 (by simpa using h), fun h => hF.out.f8 (by simpa using h), fun h => hF.out.f9 (by simpa using h), fun h => hF.out.f10 (by simpa using h), fun h => hF.out.f11 (by simpa using h), hF.out.ba, hF.out.ib, hF.out.fm⟩
    · refine stepAt_lookup (by rfl) (.tmp 10) (.tmp 11) 161 (by rfl) ?_
      intro d a W hI hd hdep
      obtain ⟨ge, x4, x5, x6, x7, x8, x9, x10, x11, x12, x13, x14, rfl, hF⟩ := hI
      have hd3 : d 3 = true := dep_of hdep 3 (by kernel_rfl)
      have hd4 : d 4 = true := dep_of hdep 4 (by kernel_rfl)
      obtain rfl := hF.out.f3 hd3
      obtain rfl := hF.out.f4 hd4
      have hrun := HLK.out W hF.out.ba
      clear hdep hd hd3 hd4
      refine ⟨(.map (some mb)), (.agg #[.int .i64 (x.1 : Int), .int .i64 (x.2.1 : Int), .int .i64 (x.2.2 : Int)]), (.tuple #[.agg #[], .bool hs]), by simp only [Act.put, List.setIfInBounds_toArray, List.set_cons_zero, List.set_cons_succ]; rfl, by simp only [Act.put, List.setIfInBounds_toArray, List.set_cons_zero, List.set_cons_succ]; rfl, hrun, ge, x4, x5, x6, x7, x8, x9, (.map (some mb)), (.agg #[.int .i64 (x.1 : Int), .int .i64 (x.2.1 : Int), .int .i64 (x.2.2 : Int)]), (.tuple #[.agg #[], .bool hs]), x13, x14, by simp only [Act.put, List.setIfInBounds_toArray, List.set_cons_zero, List.set_cons_succ], ?_⟩
      exact ⟨fun h => hF.out.f0 (by simpa using h), fun h => hF.out.f1 (by simpa using h), fun h => hF.out.f2 (by simpa using h), fun h => hF.out.f3 (by simpa using h), fun h => hF.out.f4 (by simpa using h), fun _ => rfl, fun h => hF.out.f6 (by simpa using h), fun h => hF.out.f7 (by simpa using h), fun h => hF.out.f8 (by simpa using h), fun h => hF.out.f9 (by simpa using h), fun h => hF.out.f10 (by simpa using h), fun h => hF.out.f11 (by simpa using h), hF.out.ba, hF.out.ib, hF.out.fm⟩
    · intro d a W hI hd hdep
      obtain ⟨ge, x4, x5, x6, x7, x8, x9, x10, x11, x12, x13, x14, rfl, hF⟩ := hI
      have hd5 : d 5 = true := dep_of hdep 5 (by kernel_rfl)
      obtain rfl := hF.out.f5 hd5
      clear hdep hd hd5
      intro K hK
      simp only [Act.put, List.setIfInBounds_toArray, List.set_cons_zero, List.set_cons_succ]
      go_simp
      refine hK.out _ _ ⟨ge, x4, x5, (.tuple #[.agg #[], .bool hs]), x7, x8, x9, x10, x11, (.tuple #[.agg #[], .bool hs]), x13, x14, by simp only [Act.put, List.setIfInBounds_toArray, List.set_cons_zero, List.set_cons_succ], ?_⟩
      exact ⟨fun h => hF.out.f0 (by simpa using h), fun h => hF.out.f1 (by simpa using h), fun h => hF.out.f2 (by simpa using h), fun h => hF.out.f3 (by simpa using h), fun h => hF.out.f4 (by simpa using h), fun h => hF.out.f5 (by simpa using h), fun _ => rfl, fun h => hF.out.f7 (by simpa using h), fun h => hF.out.f8 (by simpa using h), fun h => hF.out.f9 (by simpa using h), fun h => hF.out.f10 (by simpa using h), fun h => hF.out.f11 (by simpa using h), hF.out.ba, hF.out.ib, hF.out.fm⟩
    · intro d a W hI hd hdep
      obtain ⟨ge, x4, x5, x6, x7, x8, x9, x10, x11, x12, x13, x14, rfl, hF⟩ := hI
      have hd6 : d 6 = true := dep_of hdep 6 (by kernel_rfl)
      obtain rfl := hF.out.f6 hd6
      clear hdep hd hd6
      intro K hK
      simp only [Act.put, List.setIfInBounds_toArray, List.set_cons_zero, List.set_cons_succ]
      go_simp
      refine hK.out _ _ ⟨ge, x4, x5, (.tuple #[.agg #[], .bool hs]), x7, x8, x9, x10, x11, x12, (.agg #[]), x14, by simp only [Act.put, List.setIfInBounds_toArray, List.set_cons_zero, List.set_cons_succ], ?_⟩
      exact ⟨fun h => hF.out.f0 (by simpa using h), fun h => hF.out.f1 (by simpa using h), fun h => hF.out.f2 (by simpa using h), fun h => hF.out.f3 (by simpa using h), fun h => hF.out.f4 (by simpa using h), fun h => hF.out.f5 (by simpa using h), fun h => hF.out.f6 (by simpa using h), fun _ => rfl, fun h => hF.out.f8 (by simpa using h), fun h => hF.out.f9 (by simpa using h), fun h => hF.out.f10 (by simpa using h), fun h => hF.out.f11 (by simpa using h), hF.out.ba, hF.out.ib, hF.out.fm⟩
    · intro d a W hI hd hdep
      obtain ⟨ge, x4, x5, x6, x7, x8, x9, x10, x11, x12, x13, x14, rfl, hF⟩ := hI
      have hd6 : d 6 = true := dep_of hdep 6 (by kernel_rfl)
      obtain rfl := hF.out.f6 hd6
      clear hdep hd hd6
      intro K hK
      simp only [Act.put, List.setIfInBounds_toArray, List.set_cons_zero, List.set_cons_succ]
      go_simp
      refine hK.out _ _ ⟨ge, x4, x5, (.tuple #[.agg #[], .bool hs]), x7, x8, x9, x10, x11, x12, x13, (.bool hs), by simp only [Act.put, List.setIfInBounds_toArray, List.set_cons_zero, List.set_cons_succ], ?_⟩
      exact ⟨fun h => hF.out.f0 (by simpa using h), fun h => hF.out.f1 (by simpa using h), fun h => hF.out.f2 (by simpa using h), fun h => hF.out.f3 (by simpa using h), fun h => hF.out.f4 (by simpa using h), fun h => hF.out.f5 (by simpa using h), fun h => hF.out.f6 (by simpa using h), fun h => hF.out.f7 (by simpa using h), fun _ => rfl, fun h => hF.out.f9 (by simpa using h), fun h => hF.out.f10 (by simpa using h), fun h => hF.out.f11 (by simpa using h), hF.out.ba, hF.out.ib, hF.out.fm⟩
    · intro d a W hI hd hdep
      obtain ⟨ge, x4, x5, x6, x7, x8, x9, x10, x11, x12, x13, x14, rfl, hF⟩ := hI
      clear hdep hd
      intro K hK
      simp only [Act.put, List.setIfInBounds_toArray, List.set_cons_zero, List.set_cons_succ]
      go_simp
      refine hK.out _ _ ⟨W.heap.size, (.pointer (some ⟨W.heap.size, 0, none⟩)), x5, x6, x7, x8, x9, x10, x11, x12, x13, x14, by simp only [Act.put, List.setIfInBounds_toArray, List.set_cons_zero, List.set_cons_succ], ?_⟩
      have B1 := (Below.refl W.heap.size W).alloc (Nat.le_refl _) (Obj.cells #[] 171)
      exact ⟨fun h => hF.out.f0 (by simpa using h), fun h => hF.out.f1 (by simpa using h), fun h => hF.out.f2 (by simpa using h), fun h => hF.out.f3 (by simpa using h), fun h => hF.out.f4 (by simpa using h), fun h => hF.out.f5 (by simpa using h), fun h => hF.out.f6 (by simpa using h), fun h => hF.out.f7 (by simpa using h), fun h => hF.out.f8 (by simpa using h), fun _ => rfl, fun h => hF.out.f10 (by simpa using h), fun h => hF.out.f11 (by simpa using h), hF.out.ba.next B1, hF.out.ib.next B1, hF.out.fm.trans (B1.mono hF.out.fm.size)⟩
    · intro d a W hI hd hdep
      obtain ⟨ge, x4, x5, x6, x7, x8, x9, x10, x11, x12, x13, x14, rfl, hF⟩ := hI
      have hd9 : d 9 = true := dep_of hdep 9 (by kernel_rfl)
      have hd7 : d 7 = true := dep_of hdep 7 (by kernel_rfl)
      obtain rfl := hF.out.f9 hd9
      obtain rfl := hF.out.f7 hd7
      clear hdep hd hd9 hd7
      intro K hK
      simp only [Act.put, List.setIfInBounds_toArray, List.set_cons_zero, List.set_cons_succ]
      go_simp
      refine hK.out _ _ ⟨ge, (.pointer (some ⟨ge, 0, none⟩)), x5, x6, x7, x8, x9, x10, x11, x12, (.agg #[]), x14, by simp only [Act.put, List.setIfInBounds_toArray, List.set_cons_zero, List.set_cons_succ], ?_⟩
      exact ⟨fun h => hF.out.f0 (by simpa using h), fun h => hF.out.f1 (by simpa using h), fun h => hF.out.f2 (by simpa using h), fun h => hF.out.f3 (by simpa using h), fun h => hF.out.f4 (by simpa using h), fun h => hF.out.f5 (by simpa using h), fun h => hF.out.f6 (by simpa using h), fun h => hF.out.f7 (by simpa using h), fun h => hF.out.f8 (by simpa using h), fun h => hF.out.f9 (by simpa using h), fun _ => trivial, fun h => hF.out.f11 (by simpa using h), hF.out.ba, hF.out.ib, hF.out.fm⟩
    · intro d a W hI hd hdep
      obtain ⟨ge, x4, x5, x6, x7, x8, x9, x10, x11, x12, x13, x14, rfl, hF⟩ := hI
      have hd8 : d 8 = true := dep_of hdep 8 (by kernel_rfl)
      obtain rfl := hF.out.f8 hd8
      clear hdep hd hd8
      intro K hK
      simp only [Act.put, List.setIfInBounds_toArray, List.set_cons_zero, List.set_cons_succ]
      go_simp
      refine hK.out _ _ ⟨ge, x4, (.bool hs), x6, x7, x8, x9, x10, x11, x12, x13, (.bool hs), by simp only [Act.put, List.setIfInBounds_toArray, List.set_cons_zero, List.set_cons_succ], ?_⟩
      exact ⟨fun h => hF.out.f0 (by simpa using h), fun h => hF.out.f1 (by simpa using h), fun h => hF.out.f2 (by simpa using h), fun h => hF.out.f3 (by simpa using h), fun h => hF.out.f4 (by simpa using h), fun h => hF.out.f5 (by simpa using h), fun h => hF.out.f6 (by simpa using h), fun h => hF.out.f7 (by simpa using h), fun h => hF.out.f8 (by simpa using h), fun h => hF.out.f9 (by simpa using h), fun h => hF.out.f10 (by simpa using h), fun _ => rfl, hF.out.ba, hF.out.ib, hF.out.fm⟩
  · intro d a W hI hall
    obtain ⟨ge, x4, x5, x6, x7, x8, x9, x10, x11, x12, x13, x14, rfl, hF⟩ := hI
    simp only [List.length_cons, List.length_nil] at hall
    obtain rfl := hF.out.f0 (hall 0 (by omega))
    obtain rfl := hF.out.f1 (hall 1 (by omega))
    obtain rfl := hF.out.f2 (hall 2 (by omega))
    obtain rfl := hF.out.f3 (hall 3 (by omega))
    obtain rfl := hF.out.f4 (hall 4 (by omega))
    obtain rfl := hF.out.f5 (hall 5 (by omega))
    obtain rfl := hF.out.f6 (hall 6 (by omega))
    obtain rfl := hF.out.f7 (hall 7 (by omega))
    obtain rfl := hF.out.f8 (hall 8 (by omega))
    obtain rfl := hF.out.f9 (hall 9 (by omega))
    obtain rfl := hF.out.f11 (hall 11 (by omega))
    have HBA1 : Hid (Ba B g mb (.slice ao b.length cp) b b D W) := hF.out.ba
    have HIB1 : Hid (I3b q x W) := hF.out.ib
    have HF0 : Hid (Fm (Xb g mb (.slice ao b.length cp)) w W) := HFB.out.trans (Fm.of hF.out.fm) (fun k _ h => h)
    clear hF hall HBA HIB
    obtain ⟨w1, rfl⟩ : ∃ k, k = W := ⟨_, rfl⟩
    have HBA := HBA1
    have HIB := HIB1
    clear HBA1 HIB1 HFB
    simp only [Act.put, List.setIfInBounds_toArray, List.set_cons_zero, List.set_cons_succ]
    cases hs with
    | true =>
      have HADD : Hid (r = b) := by show _ = _; rw [← HRB.out]; unfold addL; rw [if_pos (hmem.1 rfl)]
      have HFIN : Hid (AddP B g mb (.slice ao b.length cp) r w w1) := by
        rw [HADD.out]
        exact ⟨(.slice ao b.length cp), D, HBA.out, HF0.out, ⟨ao, cp, rfl⟩, fun k hk => Or.inl hk⟩
      clear hmem
      go_wp2_with fail
      refine bodyPost_ret (v := .tuple #[]) (by simp [results, Try.results91, go_sem]) rfl ⟨rfl, HFIN.out⟩
    | false =>
      have HADD : Hid (r = b ++ [x]) := by show _ = _; rw [← HRB.out]; unfold addL; rw [if_neg (fun h => by have := hmem.2 h; cases this)]
      clear hmem HHS
      obtain ⟨hs, HHS⟩ : ∃ z : Bool, Hid (z = z) := ⟨true, (rfl : true = true)⟩
      go_upto_region 3 with fail
      refine wp_region_free mixed (fun a0 d a W => ∃ (x16 x17 x18 x19 x20 x21 : Value), a = ((((((a0.put (some 16) x16).put (some 17) x17).put (some 18) x18).put (some 19) x19).put (some 20) x20).put (some 21) x21) ∧ Hid (RA3 w1 B g mb ao cp b D x q kl hs d x16 x17 x18 x19 x20 x21 W)) (by kernel_rfl) ⟨undef, undef, undef, undef, undef, undef, by simp only [Act.put, List.setIfInBounds_toArray, List.set_cons_zero, List.set_cons_succ], ?_⟩ ?_ ?_
      · exact ⟨fun h => no_way h, fun h => no_way h, fun h => no_way h, fun h => no_way h, fun h => no_way h, fun h => no_way h, fun _ => trivial, fun h => no_way h, fun _ => HBA.out.next (Below.refl _ _).drew, HIB.out.next (Below.refl _ _).drew, Fm.of (Below.refl _ _).drew, fun h => no_way h⟩
      · simp only [StepAll, and_true]
        refine ⟨?_, ?_, ?_, ?_, ?_, ?_, ?_⟩
        · intro d a W hI hd hdep
          obtain ⟨x16, x17, x18, x19, x20, x21, rfl, hF⟩ := hI
          clear hdep hd
          intro K hK
          simp only [Act.put, List.setIfInBounds_toArray, List.set_cons_zero, List.set_cons_succ]
          go_simp
          refine hK.out _ _ ⟨(.pointer (some ⟨g, 0, none⟩)), x17, x18, x19, x20, x21, by simp only [Act.put, List.setIfInBounds_toArray, List.set_cons_zero, List.set_cons_succ], ?_⟩
          exact ⟨fun _ => rfl, fun h => hF.out.f1 (by simpa using h), fun h => hF.out.f2 (by simpa using h), fun h => hF.out.f3 (by simpa using h), fun h => hF.out.f4 (by simpa using h), fun h => hF.out.f5 (by simpa using h), fun h => hF.out.f6 (by simpa using h), fun h => by have := hF.out.o6_3 (by simpa using h); simpa using this, fun h => hF.out.ba (by simpa using h), hF.out.ib, hF.out.fm, fun h => hF.out.fin (by simpa using h)⟩
        · intro d a W hI hd hdep
          obtain ⟨x16, x17, x18, x19, x20, x21, rfl, hF⟩ := hI
          have hd0 : d 0 = true := dep_of hdep 0 (by kernel_rfl)
          obtain rfl := hF.out.f0 hd0
          clear hdep hd hd0
          intro K hK
          simp only [Act.put, List.setIfInBounds_toArray, List.set_cons_zero, List.set_cons_succ]
          go_simp
          refine hK.out _ _ ⟨(.pointer (some ⟨g, 0, none⟩)), (.pointer (some ⟨g, 0, none⟩)), x18, x19, x20, x21, by simp only [Act.put, List.setIfInBounds_toArray, List.set_cons_zero, List.set_cons_succ], ?_⟩
          exact ⟨fun h => hF.out.f0 (by simpa using h), fun _ => rfl, fun h => hF.out.f2 (by simpa using h), fun h => hF.out.f3 (by simpa using h), fun h => hF.out.f4 (by simpa using h), fun h => hF.out.f5 (by simpa using h), fun h => hF.out.f6 (by simpa using h), fun h => by have := hF.out.o6_3 (by simpa using h); simpa using this, fun h => hF.out.ba (by simpa using h), hF.out.ib, hF.out.fm, fun h => hF.out.fin (by simpa using h)⟩
        · intro d a W hI hd hdep
          obtain ⟨x16, x17, x18, x19, x20, x21, rfl, hF⟩ := hI
          have hd1 : d 1 = true := dep_of hdep 1 (by kernel_rfl)
          obtain rfl := hF.out.f1 hd1
          clear hdep hd hd1
          intro K hK
          simp only [Act.put, List.setIfInBounds_toArray, List.set_cons_zero, List.set_cons_succ]
          go_simp
          refine hK.out _ _ ⟨x16, (.pointer (some ⟨g, 0, none⟩)), (.pointer (some ⟨g, 0, none⟩)), x19, x20, x21, by simp only [Act.put, List.setIfInBounds_toArray, List.set_cons_zero, List.set_cons_succ], ?_⟩
          exact ⟨fun h => hF.out.f0 (by simpa using h), fun h => hF.out.f1 (by simpa using h), fun _ => rfl, fun h => hF.out.f3 (by simpa using h), fun h => hF.out.f4 (by simpa using h), fun h => hF.out.f5 (by simpa using h), fun h => hF.out.f6 (by simpa using h), fun h => by have := hF.out.o6_3 (by simpa using h); simpa using this, fun h => hF.out.ba (by simpa using h), hF.out.ib, hF.out.fm, fun h => hF.out.fin (by simpa using h)⟩
        · intro d a W hI hd hdep
          obtain ⟨x16, x17, x18, x19, x20, x21, rfl, hF⟩ := hI
          have hd2 : d 2 = true := dep_of hdep 2 (by kernel_rfl)
          obtain rfl := hF.out.f2 hd2
          have HN6 : Hid (d 6 = false) := no_later hF.out.o6_3 hd
          have ya : W.cell? ⟨g, 0, none⟩ = some (.map (some mb)) := (hF.out.ba HN6.out).bx.cell (i := 0) (by omega)
          clear hdep hd hd2
          intro K hK
          simp only [Act.put, List.setIfInBounds_toArray, List.set_cons_zero, List.set_cons_succ]
          go_simp
          refine hK.out _ _ ⟨x16, x17, (.pointer (some ⟨g, 0, none⟩)), (.map (some mb)), x20, x21, by simp only [Act.put, List.setIfInBounds_toArray, List.set_cons_zero, List.set_cons_succ], ?_⟩
          exact ⟨fun h => hF.out.f0 (by simpa using h), fun h => hF.out.f1 (by simpa using h), fun h => hF.out.f2 (by simpa using h), fun _ => rfl, fun h => hF.out.f4 (by simpa using h), fun h => hF.out.f5 (by simpa using h), fun h => hF.out.f6 (by simpa using h), fun _ => by simp, fun h => hF.out.ba (by simpa using h), hF.out.ib, hF.out.fm, fun h => hF.out.fin (by simpa using h)⟩
        · intro d a W hI hd hdep
          obtain ⟨x16, x17, x18, x19, x20, x21, rfl, hF⟩ := hI
          have ya := hF.out.ib.c0
          have yb := hF.out.ib.c1
          have yc := hF.out.ib.c2
          clear hdep hd
          intro K hK
          simp only [Act.put, List.setIfInBounds_toArray, List.set_cons_zero, List.set_cons_succ]
          go_simp
          refine hK.out _ _ ⟨x16, x17, x18, x19, (.agg #[.int .i64 (x.1 : Int), .int .i64 (x.2.1 : Int), .int .i64 (x.2.2 : Int)]), x21, by simp only [Act.put, List.setIfInBounds_toArray, List.set_cons_zero, List.set_cons_succ], ?_⟩
          exact ⟨fun h => hF.out.f0 (by simpa using h), fun h => hF.out.f1 (by simpa using h), fun h => hF.out.f2 (by simpa using h), fun h => hF.out.f3 (by simpa using h), fun _ => rfl, fun h => hF.out.f5 (by simpa using h), fun h => hF.out.f6 (by simpa using h), fun h => by have := hF.out.o6_3 (by simpa using h); simpa using this, fun h => hF.out.ba (by simpa using h), hF.out.ib, hF.out.fm, fun h => hF.out.fin (by simpa using h)⟩
        · intro d a W hI hd hdep
          obtain ⟨x16, x17, x18, x19, x20, x21, rfl, hF⟩ := hI
          clear hdep hd
          intro K hK
          simp only [Act.put, List.setIfInBounds_toArray, List.set_cons_zero, List.set_cons_succ]
          go_simp
          refine hK.out _ _ ⟨x16, x17, x18, x19, x20, (.agg #[]), by simp only [Act.put, List.setIfInBounds_toArray, List.set_cons_zero, List.set_cons_succ], ?_⟩
          exact ⟨fun h => hF.out.f0 (by simpa using h), fun h => hF.out.f1 (by simpa using h), fun h => hF.out.f2 (by simpa using h), fun h => hF.out.f3 (by simpa using h), fun h => hF.out.f4 (by simpa using h), fun _ => rfl, fun h => hF.out.f6 (by simpa using h), fun h => by have := hF.out.o6_3 (by simpa using h); simpa using this, fun h => hF.out.ba (by simpa using h), hF.out.ib, hF.out.fm, fun h => hF.out.fin (by simpa using h)⟩
        · intro d a W hI hd hdep
          obtain ⟨x16, x17, x18, x19, x20, x21, rfl, hF⟩ := hI
          have hd3 : d 3 = true := dep_of hdep 3 (by kernel_rfl)
          have hd4 : d 4 = true := dep_of hdep 4 (by kernel_rfl)
          have hd5 : d 5 = true := dep_of hdep 5 (by kernel_rfl)
          obtain rfl := hF.out.f3 hd3
          obtain rfl := hF.out.f4 hd4
          obtain rfl := hF.out.f5 hd5
          have e6_3 := hd3
          have hma := hF.out.ba hd
          obtain ⟨W1x, hrun, hm1, hg1⟩ := hma.stored HKL.out HSZ.out
          have HM : Hid (Ba B g mb (.slice ao b.length cp) b (b ++ [x]) (D.put kl (.agg [])) W1x ∧ Fm (Xb g mb (.slice ao b.length cp)) w1 W1x ∧ I3b q x W1x) := ⟨hm1, hF.out.fm.trans (Fm.grown1 hg1) (fun k _ h => Or.inr (Or.inl h)), hF.out.ib.grown hg1 HQ.out.1⟩
          clear hma hm1 hg1
          clear hdep hd hd3 hd4 hd5
          intro K hK
          refine step_mapUpdate (mx := (.map (some mb))) (xv := (.agg #[.int .i64 (x.1 : Int), .int .i64 (x.2.1 : Int), .int .i64 (x.2.2 : Int)])) (yv := .agg #[]) (W1 := W1x) (by rfl) _ _ _ 161 (by rfl) (by simp only [Act.put, List.setIfInBounds_toArray, List.set_cons_zero, List.set_cons_succ]; rfl) (by simp only [Act.put, List.setIfInBounds_toArray, List.set_cons_zero, List.set_cons_succ]; rfl) (by simp only [Act.put, List.setIfInBounds_toArray, List.set_cons_zero, List.set_cons_succ]; rfl) (by exact hrun) ?_
          simp only [Act.put, List.setIfInBounds_toArray, List.set_cons_zero, List.set_cons_succ]
          refine hK.out _ _ ⟨x16, x17, x18, (.map (some mb)), (.agg #[.int .i64 (x.1 : Int), .int .i64 (x.2.1 : Int), .int .i64 (x.2.2 : Int)]), (.agg #[]), by simp only [Act.put, List.setIfInBounds_toArray, List.set_cons_zero, List.set_cons_succ], ?_⟩
          exact ⟨fun h => hF.out.f0 (by simpa using h), fun h => hF.out.f1 (by simpa using h), fun h => hF.out.f2 (by simpa using h), fun h => hF.out.f3 (by simpa using h), fun h => hF.out.f4 (by simpa using h), fun h => hF.out.f5 (by simpa using h), fun _ => trivial, fun _ => by simpa using e6_3, fun h => by simp at h, HM.out.2.2, HM.out.2.1, fun _ => HM.out.1⟩
      · intro d a W hI hall
        obtain ⟨x16, x17, x18, x19, x20, x21, rfl, hF⟩ := hI
        simp only [List.length_cons, List.length_nil] at hall
        obtain rfl := hF.out.f0 (hall 0 (by omega))
        obtain rfl := hF.out.f1 (hall 1 (by omega))
        obtain rfl := hF.out.f2 (hall 2 (by omega))
        obtain rfl := hF.out.f3 (hall 3 (by omega))
        obtain rfl := hF.out.f4 (hall 4 (by omega))
        obtain rfl := hF.out.f5 (hall 5 (by omega))
        have HBA3 : Hid (Ba B g mb (.slice ao b.length cp) b (b ++ [x]) (D.put kl (.agg [])) W) := hF.out.fin (hall 6 (by omega))
        have HF1 : Hid (Fm (Xb g mb (.slice ao b.length cp)) w W) := HF0.out.trans hF.out.fm (fun k _ h => h)
        have HIB3 : Hid (I3b q x W) := hF.out.ib
        clear hF hall HF0 HBA HIB w1
        obtain ⟨w1, rfl⟩ : ∃ k, k = W := ⟨_, rfl⟩
        have HBA := HBA3
        have HIB := HIB3
        clear HBA3 HIB3
        generalize D.put kl (.agg []) = D at HBA
        simp only [Act.put, List.setIfInBounds_toArray, List.set_cons_zero, List.set_cons_succ]
        go_upto_region 4 with fail
        refine wp_region_free mixed (fun a0 d a W => ∃ (gb : Nat) (gr : Nat) (cr : Nat) (x22 x23 x24 x25 x26 x27 x28 x29 x30 x31 : Value), a = ((((((((((a0.put (some 22) x22).put (some 23) x23).put (some 24) x24).put (some 25) x25).put (some 26) x26).put (some 27) x27).put (some 28) x28).put (some 29) x29).put (some 30) x30).put (some 31) x31) ∧ Hid (RA4 w1 B g mb ao cp b D x q gb gr cr d x22 x23 x24 x25 x26 x27 x28 x29 x30 x31 W)) (by kernel_rfl) ⟨0, 0, 0, undef, undef, undef, undef, undef, undef, undef, undef, undef, undef, by simp only [Act.put, List.setIfInBounds_toArray, List.set_cons_zero, List.set_cons_succ], ?_⟩ ?_ ?_
        · exact ⟨fun h => no_way h, fun h => no_way h, fun h => no_way h, fun h => no_way h, fun h => no_way h, fun h => no_way h, fun h => no_way h, fun h => no_way h, fun h => no_way h, fun h => no_way h, fun _ => trivial, fun h => no_way h, fun h => no_way h, fun h => no_way h, Fm.of (Below.refl _ _).drew, HIB.out.next (Below.refl _ _).drew, fun _ => HBA.out.next (Below.refl _ _).drew, fun h => no_way h, fun h => no_way h, fun h => no_way h⟩
        · simp only [StepAll, and_true]
          refine ⟨?_, ?_, ?_, ?_, ?_, ?_, ?_, ?_, ?_, ?_, ?_⟩
          · intro d a W hI hd hdep
            obtain ⟨gb, gr, cr, x22, x23, x24, x25, x26, x27, x28, x29, x30, x31, rfl, hF⟩ := hI
            clear hdep hd
            intro K hK
            simp only [Act.put, List.setIfInBounds_toArray, List.set_cons_zero, List.set_cons_succ]
            go_simp
            refine hK.out _ _ ⟨gb, gr, cr, (.pointer (some ⟨g, 0, none⟩)), x23, x24, x25, x26, x27, x28, x29, x30, x31, by simp only [Act.put, List.setIfInBounds_toArray, List.set_cons_zero, List.set_cons_succ], ?_⟩
            exact ⟨fun _ => rfl, fun h => hF.out.f1 (by simpa using h), fun h => hF.out.f2 (by simpa using h), fun h => hF.out.f3 (by simpa using h), fun h => hF.out.f4 (by simpa using h), fun h => hF.out.f5 (by simpa using h), fun h => hF.out.f6 (by simpa using h), fun h => hF.out.f7 (by simpa using h), fun h => hF.out.f8 (by simpa using h), fun h => hF.out.f9 (by simpa using h), fun h => hF.out.f10 (by simpa using h), fun h => by have := hF.out.o7_4 (by simpa using h); simpa using this, fun h => by have := hF.out.o7_6 (by simpa using h); simpa using this, fun h => by have := hF.out.q10_7 (by simpa using h); simpa using this, hF.out.fm, hF.out.ib, fun h => hF.out.ba (by simpa using h), fun h h2 => hF.out.bs (by simpa using h) (by simpa using h2), fun h h2 => hF.out.th (by simpa using h) (by simpa using h2), fun h => hF.out.fin (by simpa using h)⟩
          · intro d a W hI hd hdep
            obtain ⟨gb, gr, cr, x22, x23, x24, x25, x26, x27, x28, x29, x30, x31, rfl, hF⟩ := hI
            clear hdep hd
            intro K hK
            simp only [Act.put, List.setIfInBounds_toArray, List.set_cons_zero, List.set_cons_succ]
            go_simp
            refine hK.out _ _ ⟨gb, gr, cr, x22, (.pointer (some ⟨g, 0, none⟩)), x24, x25, x26, x27, x28, x29, x30, x31, by simp only [Act.put, List.setIfInBounds_toArray, List.set_cons_zero, List.set_cons_succ], ?_⟩
            exact ⟨fun h => hF.out.f0 (by simpa using h), fun _ => rfl, fun h => hF.out.f2 (by simpa using h), fun h => hF.out.f3 (by simpa using h), fun h => hF.out.f4 (by simpa using h), fun h => hF.out.f5 (by simpa using h), fun h => hF.out.f6 (by simpa using h), fun h => hF.out.f7 (by simpa using h), fun h => hF.out.f8 (by simpa using h), fun h => hF.out.f9 (by simpa using h), fun h => hF.out.f10 (by simpa using h), fun h => by have := hF.out.o7_4 (by simpa using h); simpa using this, fun h => by have := hF.out.o7_6 (by simpa using h); simpa using this, fun h => by have := hF.out.q10_7 (by simpa using h); simpa using this, hF.out.fm, hF.out.ib, fun h => hF.out.ba (by simpa using h), fun h h2 => hF.out.bs (by simpa using h) (by simpa using h2), fun h h2 => hF.out.th (by simpa using h) (by simpa using h2), fun h => hF.out.fin (by simpa using h)⟩
          · intro d a W hI hd hdep
            obtain ⟨gb, gr, cr, x22, x23, x24, x25, x26, x27, x28, x29, x30, x31, rfl, hF⟩ := hI
            have hd1 : d 1 = true := dep_of hdep 1 (by kernel_rfl)
            obtain rfl := hF.out.f1 hd1
            clear hdep hd hd1
            intro K hK
            simp only [Act.put, List.setIfInBounds_toArray, List.set_cons_zero, List.set_cons_succ]
            go_simp
            refine hK.out _ _ ⟨gb, gr, cr, x22, (.pointer (some ⟨g, 0, none⟩)), (.pointer (some ⟨g, 0, none⟩)), x25, x26, x27, x28, x29, x30, x31, by simp only [Act.put, List.setIfInBounds_toArray, List.set_cons_zero, List.set_cons_succ], ?_⟩
            exact ⟨fun h => hF.out.f0 (by simpa using h), fun h => hF.out.f1 (by simpa using h), fun _ => rfl, fun h => hF.out.f3 (by simpa using h), fun h => hF.out.f4 (by simpa using h), fun h => hF.out.f5 (by simpa using h), fun h => hF.out.f6 (by simpa using h), fun h => hF.out.f7 (by simpa using h), fun h => hF.out.f8 (by simpa using h), fun h => hF.out.f9 (by simpa using h), fun h => hF.out.f10 (by simpa using h), fun h => by have := hF.out.o7_4 (by simpa using h); simpa using this, fun h => by have := hF.out.o7_6 (by simpa using h); simpa using this, fun h => by have := hF.out.q10_7 (by simpa using h); simpa using this, hF.out.fm, hF.out.ib, fun h => hF.out.ba (by simpa using h), fun h h2 => hF.out.bs (by simpa using h) (by simpa using h2), fun h h2 => hF.out.th (by simpa using h) (by simpa using h2), fun h => hF.out.fin (by simpa using h)⟩
          · intro d a W hI hd hdep
            obtain ⟨gb, gr, cr, x22, x23, x24, x25, x26, x27, x28, x29, x30, x31, rfl, hF⟩ := hI
            have hd2 : d 2 = true := dep_of hdep 2 (by kernel_rfl)
            obtain rfl := hF.out.f2 hd2
            clear hdep hd hd2
            intro K hK
            simp only [Act.put, List.setIfInBounds_toArray, List.set_cons_zero, List.set_cons_succ]
            go_simp
            refine hK.out _ _ ⟨gb, gr, cr, x22, x23, (.pointer (some ⟨g, 0, none⟩)), (.pointer (some ⟨g, 1, none⟩)), x26, x27, x28, x29, x30, x31, by simp only [Act.put, List.setIfInBounds_toArray, List.set_cons_zero, List.set_cons_succ], ?_⟩
            exact ⟨fun h => hF.out.f0 (by simpa using h), fun h => hF.out.f1 (by simpa using h), fun h => hF.out.f2 (by simpa using h), fun _ => rfl, fun h => hF.out.f4 (by simpa using h), fun h => hF.out.f5 (by simpa using h), fun h => hF.out.f6 (by simpa using h), fun h => hF.out.f7 (by simpa using h), fun h => hF.out.f8 (by simpa using h), fun h => hF.out.f9 (by simpa using h), fun h => hF.out.f10 (by simpa using h), fun h => by have := hF.out.o7_4 (by simpa using h); simpa using this, fun h => by have := hF.out.o7_6 (by simpa using h); simpa using this, fun h => by have := hF.out.q10_7 (by simpa using h); simpa using this, hF.out.fm, hF.out.ib, fun h => hF.out.ba (by simpa using h), fun h h2 => hF.out.bs (by simpa using h) (by simpa using h2), fun h h2 => hF.out.th (by simpa using h) (by simpa using h2), fun h => hF.out.fin (by simpa using h)⟩
          · intro d a W hI hd hdep
            obtain ⟨gb, gr, cr, x22, x23, x24, x25, x26, x27, x28, x29, x30, x31, rfl, hF⟩ := hI
            have hd3 : d 3 = true := dep_of hdep 3 (by kernel_rfl)
            obtain rfl := hF.out.f3 hd3
            have HN7 : Hid (d 7 = false) := no_later hF.out.o7_4 hd
            have ya : W.cell? ⟨g, 1, none⟩ = some (.slice ao b.length cp) := (hF.out.ba HN7.out).bx.cell (i := 1) (by omega)
            clear hdep hd hd3
            intro K hK
            simp only [Act.put, List.setIfInBounds_toArray, List.set_cons_zero, List.set_cons_succ]
            go_simp
            refine hK.out _ _ ⟨gb, gr, cr, x22, x23, x24, (.pointer (some ⟨g, 1, none⟩)), (.slice ao b.length cp), x27, x28, x29, x30, x31, by simp only [Act.put, List.setIfInBounds_toArray, List.set_cons_zero, List.set_cons_succ], ?_⟩
            exact ⟨fun h => hF.out.f0 (by simpa using h), fun h => hF.out.f1 (by simpa using h), fun h => hF.out.f2 (by simpa using h), fun h => hF.out.f3 (by simpa using h), fun _ => rfl, fun h => hF.out.f5 (by simpa using h), fun h => hF.out.f6 (by simpa using h), fun h => hF.out.f7 (by simpa using h), fun h => hF.out.f8 (by simpa using h), fun h => hF.out.f9 (by simpa using h), fun h => hF.out.f10 (by simpa using h), fun _ => by simp, fun h => by have := hF.out.o7_6 (by simpa using h); simpa using this, fun h => by have := hF.out.q10_7 (by simpa using h); simpa using this, hF.out.fm, hF.out.ib, fun h => hF.out.ba (by simpa using h), fun h h2 => hF.out.bs (by simpa using h) (by simpa using h2), fun h h2 => hF.out.th (by simpa using h) (by simpa using h2), fun h => hF.out.fin (by simpa using h)⟩
          · intro d a W hI hd hdep
            obtain ⟨gb, gr, cr, x22, x23, x24, x25, x26, x27, x28, x29, x30, x31, rfl, hF⟩ := hI
            have ya := hF.out.ib.c0
            have yb := hF.out.ib.c1
            have yc := hF.out.ib.c2
            clear hdep hd
            intro K hK
            simp only [Act.put, List.setIfInBounds_toArray, List.set_cons_zero, List.set_cons_succ]
            go_simp
            refine hK.out _ _ ⟨gb, gr, cr, x22, x23, x24, x25, x26, (.agg #[.int .i64 (x.1 : Int), .int .i64 (x.2.1 : Int), .int .i64 (x.2.2 : Int)]), x28, x29, x30, x31, by simp only [Act.put, List.setIfInBounds_toArray, List.set_cons_zero, List.set_cons_succ], ?_⟩
            exact ⟨fun h => hF.out.f0 (by simpa using h), fun h => hF.out.f1 (by simpa using h), fun h => hF.out.f2 (by simpa using h), fun h => hF.out.f3 (by simpa using h), fun h => hF.out.f4 (by simpa using h), fun _ => rfl, fun h => hF.out.f6 (by simpa using h), fun h => hF.out.f7 (by simpa using h), fun h => hF.out.f8 (by simpa using h), fun h => hF.out.f9 (by simpa using h), fun h => hF.out.f10 (by simpa using h), fun h => by have := hF.out.o7_4 (by simpa using h); simpa using this, fun h => by have := hF.out.o7_6 (by simpa using h); simpa using this, fun h => by have := hF.out.q10_7 (by simpa using h); simpa using this, hF.out.fm, hF.out.ib, fun h => hF.out.ba (by simpa using h), fun h h2 => hF.out.bs (by simpa using h) (by simpa using h2), fun h h2 => hF.out.th (by simpa using h) (by simpa using h2), fun h => hF.out.fin (by simpa using h)⟩
          · intro d a W hI hd hdep
            obtain ⟨gb, gr, cr, x22, x23, x24, x25, x26, x27, x28, x29, x30, x31, rfl, hF⟩ := hI
            have hd5 : d 5 = true := dep_of hdep 5 (by kernel_rfl)
            obtain rfl := hF.out.f5 hd5
            have HN7 : Hid (d 7 = false) := no_later hF.out.o7_6 hd
            have HN10 : Hid (d 10 = false) := no_later hF.out.q10_7 HN7.out
            have hpm := hF.out.ba HN7.out
            clear hdep hd hd5
            intro K hK
            simp only [Act.put, List.setIfInBounds_toArray, List.set_cons_zero, List.set_cons_succ]
            go_simp
            refine hK.out _ _ ⟨W.heap.size, gr, cr, x22, x23, x24, x25, x26, (.agg #[.int .i64 (x.1 : Int), .int .i64 (x.2.1 : Int), .int .i64 (x.2.2 : Int)]), (.slice (some ⟨W.heap.size, 0, none⟩) 1 1), x29, x30, x31, by simp only [Act.put, List.setIfInBounds_toArray, List.set_cons_zero, List.set_cons_succ], ?_⟩
            have B1 := (Below.refl W.heap.size W).alloc (Nat.le_refl _) (Obj.cells #[.int .i64 (x.1 : Int), .int .i64 (x.2.1 : Int), .int .i64 (x.2.2 : Int)] 145)
            exact ⟨fun h => hF.out.f0 (by simpa using h), fun h => hF.out.f1 (by simpa using h), fun h => hF.out.f2 (by simpa using h), fun h => hF.out.f3 (by simpa using h), fun h => hF.out.f4 (by simpa using h), fun h => hF.out.f5 (by simpa using h), fun _ => rfl, fun h => hF.out.f7 (by simpa using h), fun h => hF.out.f8 (by simpa using h), fun h => hF.out.f9 (by simpa using h), fun h => hF.out.f10 (by simpa using h), fun h => by have := hF.out.o7_4 (by simpa using h); simpa using this, fun _ => by simp, fun h => by have := hF.out.q10_7 (by simpa using h); simpa using this, hF.out.fm.trans (Fm.of B1) (fun k _ h => h), hF.out.ib.next B1, fun _ => hpm.next B1, fun _ _ j u hj => by rw [cell_new W _ 145 j]; simpa using hj, fun h => by have := HN7.out; simp [this] at h, fun h => by have := HN10.out; simp [this] at h⟩
          · intro d a W hI hd hdep
            obtain ⟨gb, gr, cr, x22, x23, x24, x25, x26, x27, x28, x29, x30, x31, rfl, hF⟩ := hI
            have hd4 : d 4 = true := dep_of hdep 4 (by kernel_rfl)
            have hd6 : d 6 = true := dep_of hdep 6 (by kernel_rfl)
            obtain rfl := hF.out.f4 hd4
            obtain rfl := hF.out.f6 hd6
            have hpm := hF.out.ba hd
            have HN10 : Hid (d 10 = false) := no_later hF.out.q10_7 hd
            have e7_4 := hd4
            have e7_6 := hd6
            have hbk := hF.out.bs hd6 hd
            have hm := run_append_lies (P := Try.prog) W 103 103 B 145 i40 _ 3 24 Try.underlying103 H40.out.1 H40.out.2.1 H40.out.2.2.1 H40.out.2.2.2 rfl (by omega) (.slice ao b.length cp) b.length (ics b) hpm.own ⟨gb, 0, none⟩ 1 1 [.int .i64 (x.1 : Int), .int .i64 (x.2.1 : Int), .int .i64 (x.2.2 : Int)] rfl (fun j u hj => by rw [Addr.add_lit, Nat.zero_add]; exact hbk j u hj) (by intro u hu; simp at hu; rcases hu with rfl | rfl | rfl <;> rfl) (by omega) (by have := HSZ.out; unfold maxLen; omega) (by have := HSZ.out; omega) hpm.ge.2.2 W.heap.size rfl
            have hmm := hm.choose_spec.choose_spec.choose_spec
            generalize hm.choose_spec.choose_spec.choose = W1x at hmm
            generalize hm.choose_spec.choose = cr2 at hmm
            generalize hm.choose = gr2 at hmm
            have hrun := hmm.1
            have hgr := hpm.grow (gr := gr2) (cr := cr2) hmm.2.2.1 hmm.2.1 (hmm.2.2.2.1.imp id (fun h => by omega))
            have HM : Hid (W1x.rowIs g 163 2 (bv mb (.slice ao b.length cp)) ∧ (Ba B g mb (.slice (some ⟨gr2, 0, none⟩) (b.length + 1) cr2) (b ++ [x]) (b ++ [x]) D (W1x.setCell ⟨g, 1, none⟩ (.slice (some ⟨gr2, 0, none⟩) (b.length + 1) cr2)) ∧ Fm (Xb g mb (.slice ao b.length cp)) w1 (W1x.setCell ⟨g, 1, none⟩ (.slice (some ⟨gr2, 0, none⟩) (b.length + 1) cr2)) ∧ ((Value.slice ao b.length cp).ownBlock = some gr2 ∨ w1.heap.size ≤ gr2)) ∧ I3b q x W1x ∧ Fm (Xb g mb (.slice ao b.length cp)) w1 W1x) := ⟨hgr.1, ⟨hgr.2, (hF.out.fm.trans (Fm.grownO hmm.2.2.1) (fun k _ h => Or.inr (Or.inr h))).setG, hmm.2.2.2.1.imp id (fun h => by have := hF.out.fm.size; omega)⟩, hF.out.ib.grownO hmm.2.2.1 HQ.out.2.2, hF.out.fm.trans (Fm.grownO hmm.2.2.1) (fun k _ h => Or.inr (Or.inr h))⟩
            clear hmm hm hbk hpm hgr
            clear hdep hd hd4 hd6
            intro K hK
            refine step_call_append (sv := (.slice ao b.length cp)) (xv := .slice (some ⟨gb, 0, none⟩) 1 1) (v := (.slice (some ⟨gr2, 0, none⟩) (b.length + 1) cr2)) (W1 := W1x) (by rfl) _ _ 103 (by rfl) (by simp only [Act.put, List.setIfInBounds_toArray, List.set_cons_zero, List.set_cons_succ]; rfl) (by simp only [Act.put, List.setIfInBounds_toArray, List.set_cons_zero, List.set_cons_succ]; rfl) (by exact hrun) ?_
            simp only [Act.put, List.setIfInBounds_toArray, List.set_cons_zero, List.set_cons_succ]
            refine hK.out _ _ ⟨gb, gr2, cr2, x22, x23, x24, x25, (.slice ao b.length cp), x27, (.slice (some ⟨gb, 0, none⟩) 1 1), (.slice (some ⟨gr2, 0, none⟩) (b.length + 1) cr2), x30, x31, by simp only [Act.put, List.setIfInBounds_toArray, List.set_cons_zero, List.set_cons_succ], ?_⟩
            exact ⟨fun h => hF.out.f0 (by simpa using h), fun h => hF.out.f1 (by simpa using h), fun h => hF.out.f2 (by simpa using h), fun h => hF.out.f3 (by simpa using h), fun h => hF.out.f4 (by simpa using h), fun h => hF.out.f5 (by simpa using h), fun h => hF.out.f6 (by simpa using h), fun _ => rfl, fun h => hF.out.f8 (by simpa using h), fun h => hF.out.f9 (by simpa using h), fun h => hF.out.f10 (by simpa using h), fun _ => by simpa using e7_4, fun _ => by simpa using e7_6, fun _ => by simp, HM.out.2.2.2, HM.out.2.2.1, fun h => by simp at h, fun _ h => by simp at h, fun _ _ => ⟨HM.out.1, HM.out.2.1⟩, fun h => by have := HN10.out; simp [this] at h⟩
          · intro d a W hI hd hdep
            obtain ⟨gb, gr, cr, x22, x23, x24, x25, x26, x27, x28, x29, x30, x31, rfl, hF⟩ := hI
            have hd0 : d 0 = true := dep_of hdep 0 (by kernel_rfl)
            obtain rfl := hF.out.f0 hd0
            clear hdep hd hd0
            intro K hK
            simp only [Act.put, List.setIfInBounds_toArray, List.set_cons_zero, List.set_cons_succ]
            go_simp
            refine hK.out _ _ ⟨gb, gr, cr, (.pointer (some ⟨g, 0, none⟩)), x23, x24, x25, x26, x27, x28, x29, (.pointer (some ⟨g, 0, none⟩)), x31, by simp only [Act.put, List.setIfInBounds_toArray, List.set_cons_zero, List.set_cons_succ], ?_⟩
            exact ⟨fun h => hF.out.f0 (by simpa using h), fun h => hF.out.f1 (by simpa using h), fun h => hF.out.f2 (by simpa using h), fun h => hF.out.f3 (by simpa using h), fun h => hF.out.f4 (by simpa using h), fun h => hF.out.f5 (by simpa using h), fun h => hF.out.f6 (by simpa using h), fun h => hF.out.f7 (by simpa using h), fun _ => rfl, fun h => hF.out.f9 (by simpa using h), fun h => hF.out.f10 (by simpa using h), fun h => by have := hF.out.o7_4 (by simpa using h); simpa using this, fun h => by have := hF.out.o7_6 (by simpa using h); simpa using this, fun h => by have := hF.out.q10_7 (by simpa using h); simpa using this, hF.out.fm, hF.out.ib, fun h => hF.out.ba (by simpa using h), fun h h2 => hF.out.bs (by simpa using h) (by simpa using h2), fun h h2 => hF.out.th (by simpa using h) (by simpa using h2), fun h => hF.out.fin (by simpa using h)⟩
          · intro d a W hI hd hdep
            obtain ⟨gb, gr, cr, x22, x23, x24, x25, x26, x27, x28, x29, x30, x31, rfl, hF⟩ := hI
            have hd8 : d 8 = true := dep_of hdep 8 (by kernel_rfl)
            obtain rfl := hF.out.f8 hd8
            clear hdep hd hd8
            intro K hK
            simp only [Act.put, List.setIfInBounds_toArray, List.set_cons_zero, List.set_cons_succ]
            go_simp
            refine hK.out _ _ ⟨gb, gr, cr, x22, x23, x24, x25, x26, x27, x28, x29, (.pointer (some ⟨g, 0, none⟩)), (.pointer (some ⟨g, 1, none⟩)), by simp only [Act.put, List.setIfInBounds_toArray, List.set_cons_zero, List.set_cons_succ], ?_⟩
            exact ⟨fun h => hF.out.f0 (by simpa using h), fun h => hF.out.f1 (by simpa using h), fun h => hF.out.f2 (by simpa using h), fun h => hF.out.f3 (by simpa using h), fun h => hF.out.f4 (by simpa using h), fun h => hF.out.f5 (by simpa using h), fun h => hF.out.f6 (by simpa using h), fun h => hF.out.f7 (by simpa using h), fun h => hF.out.f8 (by simpa using h), fun _ => rfl, fun h => hF.out.f10 (by simpa using h), fun h => by have := hF.out.o7_4 (by simpa using h); simpa using this, fun h => by have := hF.out.o7_6 (by simpa using h); simpa using this, fun h => by have := hF.out.q10_7 (by simpa using h); simpa using this, hF.out.fm, hF.out.ib, fun h => hF.out.ba (by simpa using h), fun h h2 => hF.out.bs (by simpa using h) (by simpa using h2), fun h h2 => hF.out.th (by simpa using h) (by simpa using h2), fun h => hF.out.fin (by simpa using h)⟩
          · intro d a W hI hd hdep
            obtain ⟨gb, gr, cr, x22, x23, x24, x25, x26, x27, x28, x29, x30, x31, rfl, hF⟩ := hI
            have hd9 : d 9 = true := dep_of hdep 9 (by kernel_rfl)
            have hd7 : d 7 = true := dep_of hdep 7 (by kernel_rfl)
            obtain rfl := hF.out.f9 hd9
            obtain rfl := hF.out.f7 hd7
            have e10_7 := hd7
            have hth := hF.out.th hd7 hd
            have ya : W.cell? ⟨g, 1, none⟩ = some (.slice ao b.length cp) := hth.1.cell (i := 1) (by omega)
            have yb := hth.1.frozen 1
            have HTH : Hid _ := hth.2
            clear hth
            clear hdep hd hd9 hd7
            intro K hK
            simp only [Act.put, List.setIfInBounds_toArray, List.set_cons_zero, List.set_cons_succ]
            go_simp
            refine hK.out _ _ ⟨gb, gr, cr, x22, x23, x24, x25, x26, x27, x28, (.slice (some ⟨gr, 0, none⟩) (b.length + 1) cr), x30, (.pointer (some ⟨g, 1, none⟩)), by simp only [Act.put, List.setIfInBounds_toArray, List.set_cons_zero, List.set_cons_succ], ?_⟩
            exact ⟨fun h => hF.out.f0 (by simpa using h), fun h => hF.out.f1 (by simpa using h), fun h => hF.out.f2 (by simpa using h), fun h => hF.out.f3 (by simpa using h), fun h => hF.out.f4 (by simpa using h), fun h => hF.out.f5 (by simpa using h), fun h => hF.out.f6 (by simpa using h), fun h => hF.out.f7 (by simpa using h), fun h => hF.out.f8 (by simpa using h), fun h => hF.out.f9 (by simpa using h), fun _ => trivial, fun h => by have := hF.out.o7_4 (by simpa using h); simpa using this, fun h => by have := hF.out.o7_6 (by simpa using h); simpa using this, fun _ => by simpa using e10_7, HTH.out.2.1, hF.out.ib.other HQ.out.2.1, fun h => by have := e10_7; simp [this] at h, fun _ h => by have := e10_7; simp [this] at h, fun _ h => by simp at h, fun _ => HTH.out⟩
        · intro d a W hI hall
          obtain ⟨gb, gr, cr, x22, x23, x24, x25, x26, x27, x28, x29, x30, x31, rfl, hF⟩ := hI
          simp only [List.length_cons, List.length_nil] at hall
          obtain rfl := hF.out.f0 (hall 0 (by omega))
          obtain rfl := hF.out.f1 (hall 1 (by omega))
          obtain rfl := hF.out.f2 (hall 2 (by omega))
          obtain rfl := hF.out.f3 (hall 3 (by omega))
          obtain rfl := hF.out.f4 (hall 4 (by omega))
          obtain rfl := hF.out.f5 (hall 5 (by omega))
          obtain rfl := hF.out.f6 (hall 6 (by omega))
          obtain rfl := hF.out.f7 (hall 7 (by omega))
          obtain rfl := hF.out.f8 (hall 8 (by omega))
          obtain rfl := hF.out.f9 (hall 9 (by omega))
          have hfin := hF.out.fin (hall 10 (by omega))
          have HFIN : Hid (AddP B g mb (.slice ao b.length cp) r w W) := by
            rw [HADD.out]
            refine ⟨(.slice (some ⟨gr, 0, none⟩) (b.length + 1) cr), D, hfin.1, HF1.out.trans hfin.2.1 (fun k _ h => h), ⟨_, _, by rw [List.length_append]; rfl⟩, fun k hk => ?_⟩
            have hk2 : k = gr := by simpa [Value.ownBlock, eq_comm] using hk
            subst hk2
            exact hfin.2.2.imp id (fun h => Nat.le_trans HF1.out.size h)
          clear hF hall hfin
          simp only [Act.put, List.setIfInBounds_toArray, List.set_cons_zero, List.set_cons_succ]
          go_wp2_with fail
          refine bodyPost_end (v := .tuple #[]) (by simp [results, Try.results91, go_sem]) rfl ⟨rfl, HFIN.out⟩
end Go.Proofs.Ytpbnnmfjahckmaa
