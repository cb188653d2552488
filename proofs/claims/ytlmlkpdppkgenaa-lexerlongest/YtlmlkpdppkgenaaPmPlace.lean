/-
  The contract of places.layPlace.
-/
import Derived.Test.YtlmlkpdppkgenaaPmHold
import Derived.Test.YtlmlkpdppkgenaaPoRun
import Derived.Deep.Cut
namespace Go.Proofs.Ytlmlkpdppkgenaa
open Go.RowKit
open Cls Po

theorem cell_as {w w' : World} {g : Nat} (h : w'.heap[g]? = w.heap[g]?) (i : Nat) : w'.cell? ⟨g, i, none⟩ = w.cell? ⟨g, i, none⟩ := by simp [World.cell?, h]
theorem cell_new (W : World) (l : List Value) (t : TypeId) (j : Nat) : (W.alloc (.cells l.toArray t)).cell? ⟨W.heap.size, j, none⟩ = l[j]? := by simp
theorem clc_snoc (l : List Cl) (c : Cl) : clc (l ++ [c]) = clc l ++ [.int .u64 (c.1.toNat : Int), .int .u64 (c.2.1.toNat : Int), .int .u64 (c.2.2.1.toNat : Int), .int .u64 (c.2.2.2.toNat : Int)] := by simp [clc]
theorem iinfo42 : (Try.prog.info? 42).map (fun i => (i.zero, i.size, i.bytes)) = some (some (.agg #[.int .u64 0, .int .u64 0, .int .u64 0, .int .u64 0]), 4, 32) := by kernel_rfl
theorem iinfo3 : (Try.prog.info? 3).map (fun i => (i.zero, i.size, i.bytes)) = some (some (.int .i64 0), 1, 8) := by kernel_rfl
theorem iinfo23 : (Try.prog.info? 23).map (fun i => (i.zero, i.size, i.bytes)) = some (some (.slice none 0 0), 1, 24) := by kernel_rfl
theorem iinfo4 : (Try.prog.info? 4).map (fun i => (i.zero, i.size, i.bytes)) = some (some (.bool false), 1, 1) := by kernel_rfl
theorem step_call_append {P : Program} {ops : Array Oper} {o : Oper} {a : Act} {K : Act → World → Prop} {Q : Exit → Act → World → Prop} {E : Prop} {W W1 : World} {v sv xv : Value} (hgd : o.guard = none) (s x : Operand) (t : TypeId) (ho : o.op = .call { callee := .builtin .append, args := #[s, x], argTypes := #[t, t] })
    (hs : a.eval s = sv) (hx : a.eval x = xv) (hr : (Builtin.append_ #[t, t] o.type #[sv, xv]).run P W = .ok v W1) (h : K (a.put o.dst v) W1) : if Region.wanted o (yielded ops a.tmps) = true then Oper.wp P o a W K Q else E := by
  have hw : Region.wanted o (yielded ops a.tmps) = true := by simp [Region.wanted, hgd]
  rw [if_pos hw]
  unfold Oper.wp
  simp [execOp, ho, resolve, invoke, builtin, hs, hx, hr, Result.andThen]
  exact h
theorem wpList_append_run {P : Program} {ops : Array Oper} {rest : List Oper} {o : Oper} {a : Act} {Q : Exit → Act → World → Prop} {W W1 : World} {v : Value} (hgd : o.guard = none) (s x : Operand) (t : TypeId)
    (ho : o.op = .call { callee := .builtin .append, args := #[s, x], argTypes := #[t, t] }) (sv xv : Value)
    (hs : a.eval s = sv) (hx : a.eval x = xv) (hr : (Builtin.append_ #[t, t] o.type #[sv, xv]).run P W = .ok v W1) (h : wpList P ops Q rest (a.put o.dst v) W1) : wpList P ops Q (o :: rest) a W :=
  wpList_plain hgd fun _ hK => by
    unfold Oper.wp execOp
    simp only [ho, resolve, invoke, builtin, Sem.run_bind, Sem.run_pure, Result.andThen_ok, List.map_toArray, List.map_cons, List.map_nil, hs, hx, hr]
    exact hK _ _ h
structure RP1 (w1 : World) (base gp b : Nat) (v V : Nat → Value) (p : P) (c : Cl) (gb : Nat) (gr : Nat) (cr : Nat) (d : Nat → Bool) (x7 x8 x9 x10 x11 x12 x13 x14 x15 x16 : Value) (W : World) : Prop where
  f0 : d 0 = true → x7 = (.pointer (some ⟨gp, 0, none⟩))
  f1 : d 1 = true → x8 = (.pointer (some ⟨gp, 0, none⟩))
  f2 : d 2 = true → x9 = (.pointer (some ⟨gp, 0, none⟩))
  f3 : d 3 = true → x10 = (.pointer (some ⟨gp, 0, none⟩))
  f4 : d 4 = true → x11 = (v 0)
  f5 : d 5 = true → x12 = (.agg #[.int .u64 (c.1.toNat : Int), .int .u64 (c.2.1.toNat : Int), .int .u64 (c.2.2.1.toNat : Int), .int .u64 (c.2.2.2.toNat : Int)])
  f6 : d 6 = true → x13 = (.slice (some ⟨gb, 0, none⟩) 1 1)
  f7 : d 7 = true → x14 = (.slice (some ⟨gr, 0, none⟩) (p.cls.length + 1) cr)
  f8 : d 8 = true → x15 = (.pointer (some ⟨gp, 0, none⟩))
  f9 : d 9 = true → x16 = (.pointer (some ⟨gp, 0, none⟩))
  f10 : d 10 = true → True
  o7_4 : d 7 = true → d 4 = true
  o7_6 : d 7 = true → d 6 = true
  q10_7 : d 10 = true → d 7 = true
  kf : Fm (Own gp v V p.follow.length) w1 W
  bx : W.heap[b]? = w1.heap[b]?
  pm : d 7 = false → Pm base gp v V p W
  bs : d 6 = true → d 7 = false → ∀ j u, ([.int .u64 (c.1.toNat : Int), .int .u64 (c.2.1.toNat : Int), .int .u64 (c.2.2.1.toNat : Int), .int .u64 (c.2.2.2.toNat : Int)] : List Value)[j]? = some u → W.cell? ⟨gb, j, none⟩ = some u
  th : d 7 = true → d 10 = false → W.rowIs gp 27 6 v ∧ (Pm base gp (upd v 0 (.slice (some ⟨gr, 0, none⟩) (p.cls.length + 1) cr)) V ({ p with cls := p.cls ++ [c] } : P) (W.setCell ⟨gp, 0, none⟩ (.slice (some ⟨gr, 0, none⟩) (p.cls.length + 1) cr)) ∧ Fm (Own gp v V p.follow.length) w1 (W.setCell ⟨gp, 0, none⟩ (.slice (some ⟨gr, 0, none⟩) (p.cls.length + 1) cr)) ∧ ∀ q, Own gp (upd v 0 (.slice (some ⟨gr, 0, none⟩) (p.cls.length + 1) cr)) V ({ p with cls := p.cls ++ [c] } : P).follow.length q → Own gp v V p.follow.length q ∨ w1.heap.size ≤ q)
  fin : d 10 = true → Pm base gp (upd v 0 (.slice (some ⟨gr, 0, none⟩) (p.cls.length + 1) cr)) V ({ p with cls := p.cls ++ [c] } : P) W ∧ Fm (Own gp v V p.follow.length) w1 W ∧ ∀ q, Own gp (upd v 0 (.slice (some ⟨gr, 0, none⟩) (p.cls.length + 1) cr)) V ({ p with cls := p.cls ++ [c] } : P).follow.length q → Own gp v V p.follow.length q ∨ w1.heap.size ≤ q

set_option maxHeartbeats 8000000 in
set_option maxRecDepth 20000 in
theorem layPlace_any (base gp : Nat) (v V : Nat → Value) (p : P) (c : Cl) (ru : Int) (w : World) (h : Pm base gp v V p w) (hs : ∀ f, f < 6 → lenP p f ≤ 100000) :
    Calls Try.prog 83 #[(.pointer (some ⟨gp, 0, none⟩)), (.agg #[.int .u64 (c.1.toNat : Int), .int .u64 (c.2.1.toNat : Int), .int .u64 (c.2.2.1.toNat : Int), .int .u64 (c.2.2.2.toNat : Int)]), .int .i64 ru] w fun e w' => ∃ v' V', e = .returned (.int .i64 (p.cls.length : Int)) ∧ Pm base gp v' V' ({ cls := p.cls ++ [c], rules := p.rules ++ [ru], first := p.first, follow := p.follow ++ [[]], last := p.last ++ [false], empty := p.empty } : P) w' ∧ Fm (Own gp v V p.follow.length) w w' ∧ ∀ q, Own gp v' V' ({ cls := p.cls ++ [c], rules := p.rules ++ [ru], first := p.first, follow := p.follow ++ [[]], last := p.last ++ [false], empty := p.empty } : P).follow.length q → Own gp v V p.follow.length q ∨ w.heap.size ≤ q := by
  obtain ⟨i42, a1, a2, a3, a4⟩ := info_parts iinfo42
  have H42 : Hid (Try.prog.info? 42 = some i42 ∧ i42.zero = some (.agg #[.int .u64 0, .int .u64 0, .int .u64 0, .int .u64 0]) ∧ i42.size = 4 ∧ i42.bytes = 32) := ⟨a1, a2, a3, a4⟩
  clear a1 a2 a3 a4
  obtain ⟨i3, a1, a2, a3, a4⟩ := info_parts iinfo3
  have H3 : Hid (Try.prog.info? 3 = some i3 ∧ i3.zero = some (.int .i64 0) ∧ i3.size = 1 ∧ i3.bytes = 8) := ⟨a1, a2, a3, a4⟩
  clear a1 a2 a3 a4
  obtain ⟨i24, a1, a2, a3, a4⟩ := info_parts iinfo23
  have H24 : Hid (Try.prog.info? 23 = some i24 ∧ i24.zero = some (.slice none 0 0) ∧ i24.size = 1 ∧ i24.bytes = 24) := ⟨a1, a2, a3, a4⟩
  clear a1 a2 a3 a4
  obtain ⟨i4, a1, a2, a3, a4⟩ := info_parts iinfo4
  have H4 : Hid (Try.prog.info? 4 = some i4 ∧ i4.zero = some (.bool false) ∧ i4.size = 1 ∧ i4.bytes = 1) := ⟨a1, a2, a3, a4⟩
  clear a1 a2 a3 a4
  have HSM : Hid (p.cls.length ≤ 100000) := hs 0 (by omega)
  have HSM1 : Hid (p.rules.length ≤ 100000) := hs 1 (by omega)
  have HSM3 : Hid (p.follow.length ≤ 100000) := hs 3 (by omega)
  have HSM4 : Hid (p.last.length ≤ 100000) := hs 4 (by omega)
  have hbx := (Below.refl w.heap.size w).alloc (Nat.le_refl _) (Obj.cells #[.int .u64 (c.1.toNat : Int), .int .u64 (c.2.1.toNat : Int), .int .u64 (c.2.2.1.toNat : Int), .int .u64 (c.2.2.2.toNat : Int)] 42)
  have c0 : (w.alloc (Obj.cells #[.int .u64 (c.1.toNat : Int), .int .u64 (c.2.1.toNat : Int), .int .u64 (c.2.2.1.toNat : Int), .int .u64 (c.2.2.2.toNat : Int)] 42)).cell? ⟨w.heap.size, 0, none⟩ = some (.int .u64 (c.1.toNat : Int)) := by simp
  have c1 : (w.alloc (Obj.cells #[.int .u64 (c.1.toNat : Int), .int .u64 (c.2.1.toNat : Int), .int .u64 (c.2.2.1.toNat : Int), .int .u64 (c.2.2.2.toNat : Int)] 42)).cell? ⟨w.heap.size, 1, none⟩ = some (.int .u64 (c.2.1.toNat : Int)) := by simp
  have c2 : (w.alloc (Obj.cells #[.int .u64 (c.1.toNat : Int), .int .u64 (c.2.1.toNat : Int), .int .u64 (c.2.2.1.toNat : Int), .int .u64 (c.2.2.2.toNat : Int)] 42)).cell? ⟨w.heap.size, 2, none⟩ = some (.int .u64 (c.2.2.1.toNat : Int)) := by simp
  have c3 : (w.alloc (Obj.cells #[.int .u64 (c.1.toNat : Int), .int .u64 (c.2.1.toNat : Int), .int .u64 (c.2.2.1.toNat : Int), .int .u64 (c.2.2.2.toNat : Int)] 42)).cell? ⟨w.heap.size, 3, none⟩ = some (.int .u64 (c.2.2.2.toNat : Int)) := by simp
  have c4 : w.heap.size < (w.alloc (Obj.cells #[.int .u64 (c.1.toNat : Int), .int .u64 (c.2.1.toNat : Int), .int .u64 (c.2.2.1.toNat : Int), .int .u64 (c.2.2.2.toNat : Int)] 42)).heap.size := by simp
  have c5 : (v 0).ownBlock ≠ some w.heap.size := fun e => by have := ((h.own 0 (by omega)).lt _ e).2; omega
  have hgpl : gp < w.heap.size := h.box.lt
  have HPM0 : Hid (Pm base gp v V p (w.alloc (Obj.cells #[.int .u64 (c.1.toNat : Int), .int .u64 (c.2.1.toNat : Int), .int .u64 (c.2.2.1.toNat : Int), .int .u64 (c.2.2.2.toNat : Int)] 42))) := h.next hbx
  have HK0 : Hid (Fm (Own gp v V p.follow.length) w (w.alloc (Obj.cells #[.int .u64 (c.1.toNat : Int), .int .u64 (c.2.1.toNat : Int), .int .u64 (c.2.2.1.toNat : Int), .int .u64 (c.2.2.2.toNat : Int)] 42))) := Fm.below hbx
  obtain ⟨w1, HW1⟩ : ∃ q, Hid (w.alloc (Obj.cells #[.int .u64 (c.1.toNat : Int), .int .u64 (c.2.1.toNat : Int), .int .u64 (c.2.2.1.toNat : Int), .int .u64 (c.2.2.2.toNat : Int)] 42) = q) := ⟨_, (rfl : _ = _)⟩
  obtain ⟨b, HB⟩ : ∃ q, Hid (w.heap.size = q) := ⟨_, (rfl : _ = _)⟩
  rw [HW1.out] at c0 c1 c2 c3 c4 HPM0 HK0
  rw [HB.out] at c0 c1 c2 c3 c4 c5 hgpl
  have HCB : Hid (w1.cell? ⟨b, 0, none⟩ = some (.int .u64 (c.1.toNat : Int)) ∧ w1.cell? ⟨b, 1, none⟩ = some (.int .u64 (c.2.1.toNat : Int)) ∧ w1.cell? ⟨b, 2, none⟩ = some (.int .u64 (c.2.2.1.toNat : Int)) ∧ w1.cell? ⟨b, 3, none⟩ = some (.int .u64 (c.2.2.2.toNat : Int))) := ⟨c0, c1, c2, c3⟩
  have HBL : Hid (b < w1.heap.size ∧ (v 0).ownBlock ≠ some b) := ⟨c4, c5⟩
  have HBG : Hid (b ≠ gp) := by show _ ≠ _; omega
  clear h hs hbx c0 c1 c2 c3 c4 c5 hgpl
  go_enter Try.func83, Try.ntmps83
  go_upto_region 1 with fail
  rw [HW1.out, HB.out]
  clear HW1 HB
  refine wp_region_free mixed (fun a0 d a W => ∃ (gb : Nat) (gr : Nat) (cr : Nat) (x7 x8 x9 x10 x11 x12 x13 x14 x15 x16 : Value), a = ((((((((((a0.put (some 7) x7).put (some 8) x8).put (some 9) x9).put (some 10) x10).put (some 11) x11).put (some 12) x12).put (some 13) x13).put (some 14) x14).put (some 15) x15).put (some 16) x16) ∧ Hid (RP1 w1 base gp b v V p c gb gr cr d x7 x8 x9 x10 x11 x12 x13 x14 x15 x16 W)) (by kernel_rfl) ⟨0, 0, 0, undef, undef, undef, undef, undef, undef, undef, undef, undef, undef, by simp only [Act.put, List.setIfInBounds_toArray, List.set_cons_zero, List.set_cons_succ], ?_⟩ ?_ ?_
  · exact ⟨fun h => no_way h, fun h => no_way h, fun h => no_way h, fun h => no_way h, fun h => no_way h, fun h => no_way h, fun h => no_way h, fun h => no_way h, fun h => no_way h, fun h => no_way h, fun _ => trivial, fun h => no_way h, fun h => no_way h, fun h => no_way h, (Fm.refl _ _).trans (Fm.below (Below.refl _ _).drew) (fun q _ h => h), rfl, fun _ => HPM0.out.drew, fun h => no_way h, fun h => no_way h, fun h => no_way h⟩
  · simp only [StepAll, and_true]
    refine ⟨?_, ?_, ?_, ?_, ?_, ?_, ?_, ?_, ?_, ?_, ?_⟩
    · intro d a W hI hd hdep
      obtain ⟨gb, gr, cr, x7, x8, x9, x10, x11, x12, x13, x14, x15, x16, rfl, hF⟩ := hI
      clear hdep hd
      intro K hK
      simp only [Act.put, List.setIfInBounds_toArray, List.set_cons_zero, List.set_cons_succ]
      go_simp
      refine hK.out _ _ ⟨gb, gr, cr, (.pointer (some ⟨gp, 0, none⟩)), x8, x9, x10, x11, x12, x13, x14, x15, x16, by simp only [Act.put, List.setIfInBounds_toArray, List.set_cons_zero, List.set_cons_succ], ?_⟩
      exact ⟨fun _ => rfl, fun h => hF.out.f1 (by simpa using h), fun h => hF.out.f2 (by simpa using h), fun h => hF.out.f3 (by simpa using h), fun h => hF.out.f4 (by simpa using h), fun h => hF.out.f5 (by simpa using h), fun h => hF.out.f6 (by simpa using h), fun h => hF.out.f7 (by simpa using h), fun h => hF.out.f8 (by simpa using h), fun h => hF.out.f9 (by simpa using h), fun h => hF.out.f10 (by simpa using h), fun h => by have := hF.out.o7_4 (by simpa using h); simpa using this, fun h => by have := hF.out.o7_6 (by simpa using h); simpa using this, fun h => by have := hF.out.q10_7 (by simpa using h); simpa using this, hF.out.kf, hF.out.bx, fun h => hF.out.pm (by simpa using h), fun h h2 => hF.out.bs (by simpa using h) (by simpa using h2), fun h h2 => hF.out.th (by simpa using h) (by simpa using h2), fun h => hF.out.fin (by simpa using h)⟩
    · intro d a W hI hd hdep
      obtain ⟨gb, gr, cr, x7, x8, x9, x10, x11, x12, x13, x14, x15, x16, rfl, hF⟩ := hI
      clear hdep hd
      intro K hK
      simp only [Act.put, List.setIfInBounds_toArray, List.set_cons_zero, List.set_cons_succ]
      go_simp
      refine hK.out _ _ ⟨gb, gr, cr, x7, (.pointer (some ⟨gp, 0, none⟩)), x9, x10, x11, x12, x13, x14, x15, x16, by simp only [Act.put, List.setIfInBounds_toArray, List.set_cons_zero, List.set_cons_succ], ?_⟩
      exact ⟨fun h => hF.out.f0 (by simpa using h), fun _ => rfl, fun h => hF.out.f2 (by simpa using h), fun h => hF.out.f3 (by simpa using h), fun h => hF.out.f4 (by simpa using h), fun h => hF.out.f5 (by simpa using h), fun h => hF.out.f6 (by simpa using h), fun h => hF.out.f7 (by simpa using h), fun h => hF.out.f8 (by simpa using h), fun h => hF.out.f9 (by simpa using h), fun h => hF.out.f10 (by simpa using h), fun h => by have := hF.out.o7_4 (by simpa using h); simpa using this, fun h => by have := hF.out.o7_6 (by simpa using h); simpa using this, fun h => by have := hF.out.q10_7 (by simpa using h); simpa using this, hF.out.kf, hF.out.bx, fun h => hF.out.pm (by simpa using h), fun h h2 => hF.out.bs (by simpa using h) (by simpa using h2), fun h h2 => hF.out.th (by simpa using h) (by simpa using h2), fun h => hF.out.fin (by simpa using h)⟩
    · intro d a W hI hd hdep
      obtain ⟨gb, gr, cr, x7, x8, x9, x10, x11, x12, x13, x14, x15, x16, rfl, hF⟩ := hI
      have hd1 : d 1 = true := dep_of hdep 1 (by kernel_rfl)
      obtain rfl := hF.out.f1 hd1
      clear hdep hd hd1
      intro K hK
      simp only [Act.put, List.setIfInBounds_toArray, List.set_cons_zero, List.set_cons_succ]
      go_simp
      refine hK.out _ _ ⟨gb, gr, cr, x7, (.pointer (some ⟨gp, 0, none⟩)), (.pointer (some ⟨gp, 0, none⟩)), x10, x11, x12, x13, x14, x15, x16, by simp only [Act.put, List.setIfInBounds_toArray, List.set_cons_zero, List.set_cons_succ], ?_⟩
      exact ⟨fun h => hF.out.f0 (by simpa using h), fun h => hF.out.f1 (by simpa using h), fun _ => rfl, fun h => hF.out.f3 (by simpa using h), fun h => hF.out.f4 (by simpa using h), fun h => hF.out.f5 (by simpa using h), fun h => hF.out.f6 (by simpa using h), fun h => hF.out.f7 (by simpa using h), fun h => hF.out.f8 (by simpa using h), fun h => hF.out.f9 (by simpa using h), fun h => hF.out.f10 (by simpa using h), fun h => by have := hF.out.o7_4 (by simpa using h); simpa using this, fun h => by have := hF.out.o7_6 (by simpa using h); simpa using this, fun h => by have := hF.out.q10_7 (by simpa using h); simpa using this, hF.out.kf, hF.out.bx, fun h => hF.out.pm (by simpa using h), fun h h2 => hF.out.bs (by simpa using h) (by simpa using h2), fun h h2 => hF.out.th (by simpa using h) (by simpa using h2), fun h => hF.out.fin (by simpa using h)⟩
    · intro d a W hI hd hdep
      obtain ⟨gb, gr, cr, x7, x8, x9, x10, x11, x12, x13, x14, x15, x16, rfl, hF⟩ := hI
      have hd2 : d 2 = true := dep_of hdep 2 (by kernel_rfl)
      obtain rfl := hF.out.f2 hd2
      clear hdep hd hd2
      intro K hK
      simp only [Act.put, List.setIfInBounds_toArray, List.set_cons_zero, List.set_cons_succ]
      go_simp
      refine hK.out _ _ ⟨gb, gr, cr, x7, x8, (.pointer (some ⟨gp, 0, none⟩)), (.pointer (some ⟨gp, 0, none⟩)), x11, x12, x13, x14, x15, x16, by simp only [Act.put, List.setIfInBounds_toArray, List.set_cons_zero, List.set_cons_succ], ?_⟩
      exact ⟨fun h => hF.out.f0 (by simpa using h), fun h => hF.out.f1 (by simpa using h), fun h => hF.out.f2 (by simpa using h), fun _ => rfl, fun h => hF.out.f4 (by simpa using h), fun h => hF.out.f5 (by simpa using h), fun h => hF.out.f6 (by simpa using h), fun h => hF.out.f7 (by simpa using h), fun h => hF.out.f8 (by simpa using h), fun h => hF.out.f9 (by simpa using h), fun h => hF.out.f10 (by simpa using h), fun h => by have := hF.out.o7_4 (by simpa using h); simpa using this, fun h => by have := hF.out.o7_6 (by simpa using h); simpa using this, fun h => by have := hF.out.q10_7 (by simpa using h); simpa using this, hF.out.kf, hF.out.bx, fun h => hF.out.pm (by simpa using h), fun h h2 => hF.out.bs (by simpa using h) (by simpa using h2), fun h h2 => hF.out.th (by simpa using h) (by simpa using h2), fun h => hF.out.fin (by simpa using h)⟩
    · intro d a W hI hd hdep
      obtain ⟨gb, gr, cr, x7, x8, x9, x10, x11, x12, x13, x14, x15, x16, rfl, hF⟩ := hI
      have hd3 : d 3 = true := dep_of hdep 3 (by kernel_rfl)
      obtain rfl := hF.out.f3 hd3
      have HN7 : Hid (d 7 = false) := no_later hF.out.o7_4 hd
      have ya := (hF.out.pm HN7.out).box.cell (i := 0) (by omega)
      clear hdep hd hd3
      intro K hK
      simp only [Act.put, List.setIfInBounds_toArray, List.set_cons_zero, List.set_cons_succ]
      go_simp
      refine hK.out _ _ ⟨gb, gr, cr, x7, x8, x9, (.pointer (some ⟨gp, 0, none⟩)), (v 0), x12, x13, x14, x15, x16, by simp only [Act.put, List.setIfInBounds_toArray, List.set_cons_zero, List.set_cons_succ], ?_⟩
      exact ⟨fun h => hF.out.f0 (by simpa using h), fun h => hF.out.f1 (by simpa using h), fun h => hF.out.f2 (by simpa using h), fun h => hF.out.f3 (by simpa using h), fun _ => rfl, fun h => hF.out.f5 (by simpa using h), fun h => hF.out.f6 (by simpa using h), fun h => hF.out.f7 (by simpa using h), fun h => hF.out.f8 (by simpa using h), fun h => hF.out.f9 (by simpa using h), fun h => hF.out.f10 (by simpa using h), fun _ => by simp, fun h => by have := hF.out.o7_6 (by simpa using h); simpa using this, fun h => by have := hF.out.q10_7 (by simpa using h); simpa using this, hF.out.kf, hF.out.bx, fun h => hF.out.pm (by simpa using h), fun h h2 => hF.out.bs (by simpa using h) (by simpa using h2), fun h h2 => hF.out.th (by simpa using h) (by simpa using h2), fun h => hF.out.fin (by simpa using h)⟩
    · intro d a W hI hd hdep
      obtain ⟨gb, gr, cr, x7, x8, x9, x10, x11, x12, x13, x14, x15, x16, rfl, hF⟩ := hI
      have ya := (cell_as hF.out.bx 0).trans HCB.out.1
      have yb := (cell_as hF.out.bx 1).trans HCB.out.2.1
      have yc := (cell_as hF.out.bx 2).trans HCB.out.2.2.1
      have yd := (cell_as hF.out.bx 3).trans HCB.out.2.2.2
      clear hdep hd
      intro K hK
      simp only [Act.put, List.setIfInBounds_toArray, List.set_cons_zero, List.set_cons_succ]
      go_simp
      refine hK.out _ _ ⟨gb, gr, cr, x7, x8, x9, x10, x11, (.agg #[.int .u64 (c.1.toNat : Int), .int .u64 (c.2.1.toNat : Int), .int .u64 (c.2.2.1.toNat : Int), .int .u64 (c.2.2.2.toNat : Int)]), x13, x14, x15, x16, by simp only [Act.put, List.setIfInBounds_toArray, List.set_cons_zero, List.set_cons_succ], ?_⟩
      exact ⟨fun h => hF.out.f0 (by simpa using h), fun h => hF.out.f1 (by simpa using h), fun h => hF.out.f2 (by simpa using h), fun h => hF.out.f3 (by simpa using h), fun h => hF.out.f4 (by simpa using h), fun _ => rfl, fun h => hF.out.f6 (by simpa using h), fun h => hF.out.f7 (by simpa using h), fun h => hF.out.f8 (by simpa using h), fun h => hF.out.f9 (by simpa using h), fun h => hF.out.f10 (by simpa using h), fun h => by have := hF.out.o7_4 (by simpa using h); simpa using this, fun h => by have := hF.out.o7_6 (by simpa using h); simpa using this, fun h => by have := hF.out.q10_7 (by simpa using h); simpa using this, hF.out.kf, hF.out.bx, fun h => hF.out.pm (by simpa using h), fun h h2 => hF.out.bs (by simpa using h) (by simpa using h2), fun h h2 => hF.out.th (by simpa using h) (by simpa using h2), fun h => hF.out.fin (by simpa using h)⟩
    · intro d a W hI hd hdep
      obtain ⟨gb, gr, cr, x7, x8, x9, x10, x11, x12, x13, x14, x15, x16, rfl, hF⟩ := hI
      have hd5 : d 5 = true := dep_of hdep 5 (by kernel_rfl)
      obtain rfl := hF.out.f5 hd5
      have HN7 : Hid (d 7 = false) := no_later hF.out.o7_6 hd
      have HN10 : Hid (d 10 = false) := no_later hF.out.q10_7 HN7.out
      have hpm := hF.out.pm HN7.out
      clear hdep hd hd5
      intro K hK
      simp only [Act.put, List.setIfInBounds_toArray, List.set_cons_zero, List.set_cons_succ]
      go_simp
      refine hK.out _ _ ⟨W.heap.size, gr, cr, x7, x8, x9, x10, x11, (.agg #[.int .u64 (c.1.toNat : Int), .int .u64 (c.2.1.toNat : Int), .int .u64 (c.2.2.1.toNat : Int), .int .u64 (c.2.2.2.toNat : Int)]), (.slice (some ⟨W.heap.size, 0, none⟩) 1 1), x14, x15, x16, by simp only [Act.put, List.setIfInBounds_toArray, List.set_cons_zero, List.set_cons_succ], ?_⟩
      have B1 := (Below.refl W.heap.size W).alloc (Nat.le_refl _) (Obj.cells #[.int .u64 (c.1.toNat : Int), .int .u64 (c.2.1.toNat : Int), .int .u64 (c.2.2.1.toNat : Int), .int .u64 (c.2.2.2.toNat : Int)] 42)
      exact ⟨fun h => hF.out.f0 (by simpa using h), fun h => hF.out.f1 (by simpa using h), fun h => hF.out.f2 (by simpa using h), fun h => hF.out.f3 (by simpa using h), fun h => hF.out.f4 (by simpa using h), fun h => hF.out.f5 (by simpa using h), fun _ => rfl, fun h => hF.out.f7 (by simpa using h), fun h => hF.out.f8 (by simpa using h), fun h => hF.out.f9 (by simpa using h), fun h => hF.out.f10 (by simpa using h), fun h => by have := hF.out.o7_4 (by simpa using h); simpa using this, fun _ => by simp, fun h => by have := hF.out.q10_7 (by simpa using h); simpa using this, hF.out.kf.trans (Fm.below B1) (fun q _ h => h), (B1.block b (Nat.lt_of_lt_of_le HBL.out.1 hF.out.kf.size)).trans hF.out.bx, fun _ => hpm.next B1, fun _ _ j u hj => by rw [cell_new W ([.int .u64 (c.1.toNat : Int), .int .u64 (c.2.1.toNat : Int), .int .u64 (c.2.2.1.toNat : Int), .int .u64 (c.2.2.2.toNat : Int)] : List Value) 42 j]; exact hj, fun h => by have := HN7.out; simp [this] at h, fun h => by have := HN10.out; simp [this] at h⟩
    · intro d a W hI hd hdep
      obtain ⟨gb, gr, cr, x7, x8, x9, x10, x11, x12, x13, x14, x15, x16, rfl, hF⟩ := hI
      have hd4 : d 4 = true := dep_of hdep 4 (by kernel_rfl)
      have hd6 : d 6 = true := dep_of hdep 6 (by kernel_rfl)
      obtain rfl := hF.out.f4 hd4
      obtain rfl := hF.out.f6 hd6
      have hpm := hF.out.pm hd
      have HN10 : Hid (d 10 = false) := no_later hF.out.q10_7 hd
      have e7_4 := hd4
      have e7_6 := hd6
      have hbk := hF.out.bs hd6 hd
      have ho0 : W.ownsRow base 42 4 (v 0) p.cls.length (clc p.cls) := hpm.own 0 (by omega)
      have hm := run_append_lies (P := Try.prog) W 22 22 base 42 i42 _ 4 32 Try.underlying22 H42.out.1 H42.out.2.1 H42.out.2.2.1 H42.out.2.2.2 rfl (by omega) (v 0) p.cls.length (clc p.cls) ho0 ⟨gb, 0, none⟩ 1 1 [.int .u64 (c.1.toNat : Int), .int .u64 (c.2.1.toNat : Int), .int .u64 (c.2.2.1.toNat : Int), .int .u64 (c.2.2.2.toNat : Int)] rfl (fun j u hj => by rw [Addr.add_lit, Nat.zero_add]; exact hbk j u hj) (by intro u hu; simp at hu; rcases hu with rfl | rfl | rfl | rfl <;> rfl) (by omega) (by have := HSM.out; unfold maxLen; omega) (by have := HSM.out; omega) hpm.sz W.heap.size rfl
      have hmm := hm.choose_spec.choose_spec.choose_spec
      generalize hm.choose_spec.choose_spec.choose = W1x at hmm
      generalize hm.choose_spec.choose = cr2 at hmm
      generalize hm.choose = gr2 at hmm
      have hrun := hmm.1
      have hgr := hpm.grow (f := 0) (p' := ({ p with cls := p.cls ++ [c] } : P)) (by omega) (by omega) hmm.2.2.1 (s := (.slice (some ⟨gr2, 0, none⟩) (p.cls.length + 1) cr2)) (by show World.ownsRow _ _ 42 4 _ (p.cls ++ [c]).length (clc (p.cls ++ [c])); rw [clc_snoc, List.length_append]; exact hmm.2.1) (fun q hq => by simp [Value.ownBlock] at hq; subst hq; exact hmm.2.2.2.1.imp id (fun e => by omega)) rfl (fun g hg hg2 => by match g, hg, hg2 with | 0, _, h => exact absurd rfl h | 1, _, _ => exact ⟨rfl, rfl⟩ | 2, _, _ => exact ⟨rfl, rfl⟩ | 3, _, _ => exact ⟨rfl, rfl⟩ | 4, _, _ => exact ⟨rfl, rfl⟩ | 5, _, _ => exact ⟨rfl, rfl⟩)
      have HM : Hid (W1x.rowIs gp 27 6 v ∧ (Pm base gp (upd v 0 (.slice (some ⟨gr2, 0, none⟩) (p.cls.length + 1) cr2)) V ({ p with cls := p.cls ++ [c] } : P) (W1x.setCell ⟨gp, 0, none⟩ (.slice (some ⟨gr2, 0, none⟩) (p.cls.length + 1) cr2)) ∧ Fm (Own gp v V p.follow.length) w1 (W1x.setCell ⟨gp, 0, none⟩ (.slice (some ⟨gr2, 0, none⟩) (p.cls.length + 1) cr2)) ∧ ∀ q, Own gp (upd v 0 (.slice (some ⟨gr2, 0, none⟩) (p.cls.length + 1) cr2)) V ({ p with cls := p.cls ++ [c] } : P).follow.length q → Own gp v V p.follow.length q ∨ w1.heap.size ≤ q) ∧ W1x.heap[b]? = w1.heap[b]?) := ⟨hgr.1, ⟨hgr.2.1, hF.out.kf.trans hgr.2.2.1 (fun q _ h => h), fun q hq => (hgr.2.2.2 q hq).imp id (fun h => Nat.le_trans hF.out.kf.size h)⟩, (hmm.2.2.1.block b (Nat.lt_of_lt_of_le HBL.out.1 hF.out.kf.size) (fun e => HBL.out.2 e.symm)).trans hF.out.bx⟩
      clear hmm hm hbk hpm hgr ho0
      clear hdep hd hd4 hd6
      intro K hK
      refine step_call_append (sv := v 0) (xv := .slice (some ⟨gb, 0, none⟩) 1 1) (v := (.slice (some ⟨gr2, 0, none⟩) (p.cls.length + 1) cr2)) (W1 := W1x) (by rfl) _ _ 22 (by rfl) (by simp only [Act.put, List.setIfInBounds_toArray, List.set_cons_zero, List.set_cons_succ]; rfl) (by simp only [Act.put, List.setIfInBounds_toArray, List.set_cons_zero, List.set_cons_succ]; rfl) (by exact hrun) ?_
      simp only [Act.put, List.setIfInBounds_toArray, List.set_cons_zero, List.set_cons_succ]
      refine hK.out _ _ ⟨gb, gr2, cr2, x7, x8, x9, x10, (v 0), x12, (.slice (some ⟨gb, 0, none⟩) 1 1), (.slice (some ⟨gr2, 0, none⟩) (p.cls.length + 1) cr2), x15, x16, by simp only [Act.put, List.setIfInBounds_toArray, List.set_cons_zero, List.set_cons_succ], ?_⟩
      exact ⟨fun h => hF.out.f0 (by simpa using h), fun h => hF.out.f1 (by simpa using h), fun h => hF.out.f2 (by simpa using h), fun h => hF.out.f3 (by simpa using h), fun h => hF.out.f4 (by simpa using h), fun h => hF.out.f5 (by simpa using h), fun h => hF.out.f6 (by simpa using h), fun _ => rfl, fun h => hF.out.f8 (by simpa using h), fun h => hF.out.f9 (by simpa using h), fun h => hF.out.f10 (by simpa using h), fun _ => by simpa using e7_4, fun _ => by simpa using e7_6, fun _ => by simp, ⟨HM.out.2.1.2.1.os, HM.out.2.1.2.1.tape, HM.out.2.1.2.1.output, by have := HM.out.2.1.2.1.size; simpa [World.setCell] using this, fun k hk hn => ((Below.heap_setCell _ _ _ _ (by intro e; exact hn (Or.inl e))).symm.trans (HM.out.2.1.2.1.blk k hk hn))⟩, HM.out.2.2, fun h => by simp at h, fun _ h => by simp at h, fun _ _ => ⟨HM.out.1, HM.out.2.1⟩, fun h => by have := HN10.out; simp [this] at h⟩
    · intro d a W hI hd hdep
      obtain ⟨gb, gr, cr, x7, x8, x9, x10, x11, x12, x13, x14, x15, x16, rfl, hF⟩ := hI
      have hd0 : d 0 = true := dep_of hdep 0 (by kernel_rfl)
      obtain rfl := hF.out.f0 hd0
      clear hdep hd hd0
      intro K hK
      simp only [Act.put, List.setIfInBounds_toArray, List.set_cons_zero, List.set_cons_succ]
      go_simp
      refine hK.out _ _ ⟨gb, gr, cr, (.pointer (some ⟨gp, 0, none⟩)), x8, x9, x10, x11, x12, x13, x14, (.pointer (some ⟨gp, 0, none⟩)), x16, by simp only [Act.put, List.setIfInBounds_toArray, List.set_cons_zero, List.set_cons_succ], ?_⟩
      exact ⟨fun h => hF.out.f0 (by simpa using h), fun h => hF.out.f1 (by simpa using h), fun h => hF.out.f2 (by simpa using h), fun h => hF.out.f3 (by simpa using h), fun h => hF.out.f4 (by simpa using h), fun h => hF.out.f5 (by simpa using h), fun h => hF.out.f6 (by simpa using h), fun h => hF.out.f7 (by simpa using h), fun _ => rfl, fun h => hF.out.f9 (by simpa using h), fun h => hF.out.f10 (by simpa using h), fun h => by have := hF.out.o7_4 (by simpa using h); simpa using this, fun h => by have := hF.out.o7_6 (by simpa using h); simpa using this, fun h => by have := hF.out.q10_7 (by simpa using h); simpa using this, hF.out.kf, hF.out.bx, fun h => hF.out.pm (by simpa using h), fun h h2 => hF.out.bs (by simpa using h) (by simpa using h2), fun h h2 => hF.out.th (by simpa using h) (by simpa using h2), fun h => hF.out.fin (by simpa using h)⟩
    · intro d a W hI hd hdep
      obtain ⟨gb, gr, cr, x7, x8, x9, x10, x11, x12, x13, x14, x15, x16, rfl, hF⟩ := hI
      have hd8 : d 8 = true := dep_of hdep 8 (by kernel_rfl)
      obtain rfl := hF.out.f8 hd8
      clear hdep hd hd8
      intro K hK
      simp only [Act.put, List.setIfInBounds_toArray, List.set_cons_zero, List.set_cons_succ]
      go_simp
      refine hK.out _ _ ⟨gb, gr, cr, x7, x8, x9, x10, x11, x12, x13, x14, (.pointer (some ⟨gp, 0, none⟩)), (.pointer (some ⟨gp, 0, none⟩)), by simp only [Act.put, List.setIfInBounds_toArray, List.set_cons_zero, List.set_cons_succ], ?_⟩
      exact ⟨fun h => hF.out.f0 (by simpa using h), fun h => hF.out.f1 (by simpa using h), fun h => hF.out.f2 (by simpa using h), fun h => hF.out.f3 (by simpa using h), fun h => hF.out.f4 (by simpa using h), fun h => hF.out.f5 (by simpa using h), fun h => hF.out.f6 (by simpa using h), fun h => hF.out.f7 (by simpa using h), fun h => hF.out.f8 (by simpa using h), fun _ => rfl, fun h => hF.out.f10 (by simpa using h), fun h => by have := hF.out.o7_4 (by simpa using h); simpa using this, fun h => by have := hF.out.o7_6 (by simpa using h); simpa using this, fun h => by have := hF.out.q10_7 (by simpa using h); simpa using this, hF.out.kf, hF.out.bx, fun h => hF.out.pm (by simpa using h), fun h h2 => hF.out.bs (by simpa using h) (by simpa using h2), fun h h2 => hF.out.th (by simpa using h) (by simpa using h2), fun h => hF.out.fin (by simpa using h)⟩
    · intro d a W hI hd hdep
      obtain ⟨gb, gr, cr, x7, x8, x9, x10, x11, x12, x13, x14, x15, x16, rfl, hF⟩ := hI
      have hd9 : d 9 = true := dep_of hdep 9 (by kernel_rfl)
      have hd7 : d 7 = true := dep_of hdep 7 (by kernel_rfl)
      obtain rfl := hF.out.f9 hd9
      obtain rfl := hF.out.f7 hd7
      have e10_7 := hd7
      have hth := hF.out.th hd7 hd
      have ya := hth.1.cell (i := 0) (by omega)
      have yb := hth.1.frozen 0
      have HTH : Hid _ := hth.2
      clear hth
      clear hdep hd hd9 hd7
      intro K hK
      simp only [Act.put, List.setIfInBounds_toArray, List.set_cons_zero, List.set_cons_succ]
      go_simp
      refine hK.out _ _ ⟨gb, gr, cr, x7, x8, x9, x10, x11, x12, x13, (.slice (some ⟨gr, 0, none⟩) (p.cls.length + 1) cr), x15, (.pointer (some ⟨gp, 0, none⟩)), by simp only [Act.put, List.setIfInBounds_toArray, List.set_cons_zero, List.set_cons_succ], ?_⟩
      exact ⟨fun h => hF.out.f0 (by simpa using h), fun h => hF.out.f1 (by simpa using h), fun h => hF.out.f2 (by simpa using h), fun h => hF.out.f3 (by simpa using h), fun h => hF.out.f4 (by simpa using h), fun h => hF.out.f5 (by simpa using h), fun h => hF.out.f6 (by simpa using h), fun h => hF.out.f7 (by simpa using h), fun h => hF.out.f8 (by simpa using h), fun h => hF.out.f9 (by simpa using h), fun _ => trivial, fun h => by have := hF.out.o7_4 (by simpa using h); simpa using this, fun h => by have := hF.out.o7_6 (by simpa using h); simpa using this, fun _ => by simpa using e10_7, HTH.out.2.1, (Below.heap_setCell _ _ _ _ (by have := HBG.out; simpa using this)).trans hF.out.bx, fun h => by have := e10_7; simp [this] at h, fun _ h => by have := e10_7; simp [this] at h, fun _ h => by simp at h, fun _ => HTH.out⟩
  · intro d a W hI hall
    obtain ⟨gb, gr, cr, x7, x8, x9, x10, x11, x12, x13, x14, x15, x16, rfl, hF⟩ := hI
    simp only [List.length_cons, List.length_nil] at hall
    obtain rfl := hF.out.f0 (hall 0 (by omega))
    obtain rfl := hF.out.f1 (hall 1 (by omega))
    obtain rfl := hF.out.f2 (hall 2 (by omega))
    obtain rfl := hF.out.f3 (hall 3 (by omega))
    obtain rfl := hF.out.f4 (hall 4 (by omega))
    obtain rfl := hF.out.f5 (hall 5 (by omega))
    obtain rfl := hF.out.f6 (hall 6 (by omega))
    obtain rfl := hF.out.f7 (hall 7 (by omega))
    obtain rfl := hF.out.f8 (hall 8 (by omega))
    obtain rfl := hF.out.f9 (hall 9 (by omega))
    have HP2 : Hid (Pm base gp (upd v 0 (.slice (some ⟨gr, 0, none⟩) (p.cls.length + 1) cr)) V ({ p with cls := p.cls ++ [c] } : P) W ∧ Fm (Own gp v V p.follow.length) w W ∧ ∀ q, Own gp (upd v 0 (.slice (some ⟨gr, 0, none⟩) (p.cls.length + 1) cr)) V ({ p with cls := p.cls ++ [c] } : P).follow.length q → Own gp v V p.follow.length q ∨ w.heap.size ≤ q) := by
      have h9 := hF.out.fin (hall 10 (by omega))
      exact ⟨h9.1, HK0.out.trans h9.2.1 (fun q _ h => h), fun q hq => (h9.2.2 q hq).imp id (fun h => Nat.le_trans HK0.out.size h)⟩
    clear hF hall
    simp only [Act.put, List.setIfInBounds_toArray, List.set_cons_zero, List.set_cons_succ]
    obtain ⟨x2, rfl⟩ : ∃ q, q = W := ⟨_, rfl⟩
    have B2 := (Below.refl x2.heap.size x2).alloc (Nat.le_refl _) (Obj.cells #[.int .i64 ru] 3)
    have hpa := HP2.out.1.next B2
    have ho : (x2.alloc (Obj.cells #[.int .i64 ru] 3)).ownsRow base 3 1 ((upd v 0 (.slice (some ⟨gr, 0, none⟩) (p.cls.length + 1) cr)) 1) p.rules.length (p.rules.map (Value.int .i64)) := hpa.own 1 (by omega)
    obtain ⟨g2, k2, y2, hrun, hown, hgrw, hor, -⟩ := run_append_lies (P := Try.prog) (x2.alloc (Obj.cells #[.int .i64 ru] 3)) 23 23 base 3 i3 _ 1 8 Try.underlying23 H3.out.1 H3.out.2.1 H3.out.2.2.1 H3.out.2.2.2 rfl (by omega) ((upd v 0 (.slice (some ⟨gr, 0, none⟩) (p.cls.length + 1) cr)) 1) p.rules.length (p.rules.map (Value.int .i64)) ho ⟨x2.heap.size, 0, none⟩ 1 1 [.int .i64 ru] rfl (fun j u hj => by rw [Addr.add_lit, Nat.zero_add, cell_new x2 [.int .i64 ru] 3 j]; exact hj) (by intro u hu; simp at hu; subst hu; rfl) (by omega) (by have := HSM1.out; unfold maxLen; omega) (by have := HSM1.out; omega) hpa.sz _ rfl
    have hgr := hpa.grow (f := 1) (p' := ({ cls := p.cls ++ [c], rules := p.rules ++ [ru], first := p.first, follow := p.follow, last := p.last, empty := p.empty } : P)) (by omega) (by omega) hgrw (s := (.slice (some ⟨g2, 0, none⟩) (p.rules.length + 1) k2)) (by show World.ownsRow y2 base 3 1 _ (List.length (p.rules ++ [ru])) (List.map (Value.int .i64) (p.rules ++ [ru])); rw [List.length_append, List.map_append]; exact hown) (fun q hq => by simp [Value.ownBlock] at hq; subst hq; exact hor.imp id (fun e => by omega)) rfl (fun g hg hg2 => by match g, hg, hg2 with | 0, _, _ => exact ⟨rfl, rfl⟩ | 1, _, h => exact absurd rfl h | 2, _, _ => exact ⟨rfl, rfl⟩ | 3, _, _ => exact ⟨rfl, rfl⟩ | 4, _, _ => exact ⟨rfl, rfl⟩ | 5, _, _ => exact ⟨rfl, rfl⟩)
    have z2 := hgr.1.cell (i := 1) (by omega)
    have f2 := hgr.1.frozen 1
    have HRUN2 : Hid ((Builtin.append_ #[23, 23] 23 #[(upd v 0 (.slice (some ⟨gr, 0, none⟩) (p.cls.length + 1) cr)) 1, .slice (some ⟨x2.heap.size, 0, none⟩) 1 1]).run Try.prog (x2.alloc (Obj.cells #[.int .i64 ru] 3)) = .ok (.slice (some ⟨g2, 0, none⟩) (p.rules.length + 1) k2) y2) := hrun
    have HP3 : Hid (Pm base gp (upd (upd v 0 (.slice (some ⟨gr, 0, none⟩) (p.cls.length + 1) cr)) 1 (.slice (some ⟨g2, 0, none⟩) (p.rules.length + 1) k2)) V ({ cls := p.cls ++ [c], rules := p.rules ++ [ru], first := p.first, follow := p.follow, last := p.last, empty := p.empty } : P) (y2.setCell ⟨gp, 1, none⟩ (.slice (some ⟨g2, 0, none⟩) (p.rules.length + 1) k2)) ∧ Fm (Own gp v V p.follow.length) w (y2.setCell ⟨gp, 1, none⟩ (.slice (some ⟨g2, 0, none⟩) (p.rules.length + 1) k2)) ∧ ∀ q, Own gp (upd (upd v 0 (.slice (some ⟨gr, 0, none⟩) (p.cls.length + 1) cr)) 1 (.slice (some ⟨g2, 0, none⟩) (p.rules.length + 1) k2)) V ({ cls := p.cls ++ [c], rules := p.rules ++ [ru], first := p.first, follow := p.follow, last := p.last, empty := p.empty } : P).follow.length q → Own gp v V p.follow.length q ∨ w.heap.size ≤ q) := by
      refine ⟨hgr.2.1, (HP2.out.2.1.trans (Fm.below B2) (fun q _ h => h)).trans hgr.2.2.1 (fun q hq h => (HP2.out.2.2 q h).resolve_right (by omega)), fun q hq => ?_⟩
      rcases hgr.2.2.2 q hq with h1 | h1
      · exact HP2.out.2.2 q h1
      · exact Or.inr (Nat.le_trans HP2.out.2.1.size (Nat.le_trans B2.size h1))
    have yy := HP2.out.1.box.cell (i := 1) (by omega)
    clear hgr hrun hown hgrw hor hpa ho B2
    go_upto_region 3 with (refine wpList_append_run rfl _ _ 23 rfl _ _ rfl rfl HRUN2.out ?_)
    clear yy z2 f2 HRUN2 HP2
    obtain ⟨x3, HX3⟩ : ∃ q, Hid (y2.setCell ⟨gp, 1, none⟩ (.slice (some ⟨g2, 0, none⟩) (p.rules.length + 1) k2) = q) := ⟨_, (rfl : _ = _)⟩
    rw [HX3.out] at HP3 ⊢
    have B3 := (Below.refl x3.heap.size x3).alloc (Nat.le_refl _) (Obj.cells #[.slice none 0 0] 23)
    have hpa := HP3.out.1.next B3
    have ho : (x3.alloc (Obj.cells #[.slice none 0 0] 23)).ownsRow base 23 1 ((upd (upd v 0 (.slice (some ⟨gr, 0, none⟩) (p.cls.length + 1) cr)) 1 (.slice (some ⟨g2, 0, none⟩) (p.rules.length + 1) k2)) 3) p.follow.length ((List.range p.follow.length).map V) := hpa.own 3 (by omega)
    obtain ⟨g3, k3, y3, hrun, hown, hgrw, hor, -⟩ := run_append_lies (P := Try.prog) (x3.alloc (Obj.cells #[.slice none 0 0] 23)) 24 24 base 23 i24 _ 1 24 Try.underlying24 H24.out.1 H24.out.2.1 H24.out.2.2.1 H24.out.2.2.2 rfl (by omega) ((upd (upd v 0 (.slice (some ⟨gr, 0, none⟩) (p.cls.length + 1) cr)) 1 (.slice (some ⟨g2, 0, none⟩) (p.rules.length + 1) k2)) 3) p.follow.length ((List.range p.follow.length).map V) ho ⟨x3.heap.size, 0, none⟩ 1 1 [.slice none 0 0] rfl (fun j u hj => by rw [Addr.add_lit, Nat.zero_add, cell_new x3 [.slice none 0 0] 23 j]; exact hj) (by intro u hu; simp at hu; subst hu; rfl) (by omega) (by have := HSM3.out; unfold maxLen; omega) (by have := HSM3.out; omega) hpa.sz _ rfl
    have hgr := hpa.growF (p' := ({ cls := p.cls ++ [c], rules := p.rules ++ [ru], first := p.first, follow := p.follow ++ [[]], last := p.last, empty := p.empty } : P)) hgrw rfl (s := (.slice (some ⟨g3, 0, none⟩) (p.follow.length + 1) k3)) (by exact hown) (fun q hq => by simp [Value.ownBlock] at hq; subst hq; exact hor.imp id (fun e => by omega)) (fun g hg hg2 => by match g, hg, hg2 with | 0, _, _ => exact ⟨rfl, fun _ => rfl⟩ | 1, _, _ => exact ⟨rfl, fun _ => rfl⟩ | 2, _, _ => exact ⟨rfl, fun _ => rfl⟩ | 3, _, h => exact absurd rfl h | 4, _, _ => exact ⟨rfl, fun _ => rfl⟩ | 5, _, _ => exact ⟨rfl, fun _ => rfl⟩)
    have z3 := hgr.1.cell (i := 3) (by omega)
    have f3 := hgr.1.frozen 3
    have HRUN3 : Hid ((Builtin.append_ #[24, 24] 24 #[(upd (upd v 0 (.slice (some ⟨gr, 0, none⟩) (p.cls.length + 1) cr)) 1 (.slice (some ⟨g2, 0, none⟩) (p.rules.length + 1) k2)) 3, .slice (some ⟨x3.heap.size, 0, none⟩) 1 1]).run Try.prog (x3.alloc (Obj.cells #[.slice none 0 0] 23)) = .ok (.slice (some ⟨g3, 0, none⟩) (p.follow.length + 1) k3) y3) := hrun
    have HP4 : Hid (Pm base gp (upd (upd (upd v 0 (.slice (some ⟨gr, 0, none⟩) (p.cls.length + 1) cr)) 1 (.slice (some ⟨g2, 0, none⟩) (p.rules.length + 1) k2)) 3 (.slice (some ⟨g3, 0, none⟩) (p.follow.length + 1) k3)) (upd V p.follow.length (.slice none 0 0)) ({ cls := p.cls ++ [c], rules := p.rules ++ [ru], first := p.first, follow := p.follow ++ [[]], last := p.last, empty := p.empty } : P) (y3.setCell ⟨gp, 3, none⟩ (.slice (some ⟨g3, 0, none⟩) (p.follow.length + 1) k3)) ∧ Fm (Own gp v V p.follow.length) w (y3.setCell ⟨gp, 3, none⟩ (.slice (some ⟨g3, 0, none⟩) (p.follow.length + 1) k3)) ∧ ∀ q, Own gp (upd (upd (upd v 0 (.slice (some ⟨gr, 0, none⟩) (p.cls.length + 1) cr)) 1 (.slice (some ⟨g2, 0, none⟩) (p.rules.length + 1) k2)) 3 (.slice (some ⟨g3, 0, none⟩) (p.follow.length + 1) k3)) (upd V p.follow.length (.slice none 0 0)) ({ cls := p.cls ++ [c], rules := p.rules ++ [ru], first := p.first, follow := p.follow ++ [[]], last := p.last, empty := p.empty } : P).follow.length q → Own gp v V p.follow.length q ∨ w.heap.size ≤ q) := by
      refine ⟨hgr.2.1, (HP3.out.2.1.trans (Fm.below B3) (fun q _ h => h)).trans hgr.2.2.1 (fun q hq h => (HP3.out.2.2 q h).resolve_right (by omega)), fun q hq => ?_⟩
      rcases hgr.2.2.2 q hq with h1 | h1
      · exact HP3.out.2.2 q h1
      · exact Or.inr (Nat.le_trans HP3.out.2.1.size (Nat.le_trans B3.size h1))
    have yy := HP3.out.1.box.cell (i := 3) (by omega)
    clear hgr hrun hown hgrw hor hpa ho B3
    go_upto_region 4 with (refine wpList_append_run rfl _ _ 24 rfl _ _ rfl rfl HRUN3.out ?_)
    clear yy z3 f3 HRUN3 HP3
    obtain ⟨x4, HX4⟩ : ∃ q, Hid (y3.setCell ⟨gp, 3, none⟩ (.slice (some ⟨g3, 0, none⟩) (p.follow.length + 1) k3) = q) := ⟨_, (rfl : _ = _)⟩
    rw [HX4.out] at HP4 ⊢
    have B4 := (Below.refl x4.heap.size x4).alloc (Nat.le_refl _) (Obj.cells #[.bool false] 4)
    have hpa := HP4.out.1.next B4
    have ho : (x4.alloc (Obj.cells #[.bool false] 4)).ownsRow base 4 1 ((upd (upd (upd v 0 (.slice (some ⟨gr, 0, none⟩) (p.cls.length + 1) cr)) 1 (.slice (some ⟨g2, 0, none⟩) (p.rules.length + 1) k2)) 3 (.slice (some ⟨g3, 0, none⟩) (p.follow.length + 1) k3)) 4) p.last.length (p.last.map Value.bool) := hpa.own 4 (by omega)
    obtain ⟨g4, k4, y4, hrun, hown, hgrw, hor, -⟩ := run_append_lies (P := Try.prog) (x4.alloc (Obj.cells #[.bool false] 4)) 25 25 base 4 i4 _ 1 1 Try.underlying25 H4.out.1 H4.out.2.1 H4.out.2.2.1 H4.out.2.2.2 rfl (by omega) ((upd (upd (upd v 0 (.slice (some ⟨gr, 0, none⟩) (p.cls.length + 1) cr)) 1 (.slice (some ⟨g2, 0, none⟩) (p.rules.length + 1) k2)) 3 (.slice (some ⟨g3, 0, none⟩) (p.follow.length + 1) k3)) 4) p.last.length (p.last.map Value.bool) ho ⟨x4.heap.size, 0, none⟩ 1 1 [.bool false] rfl (fun j u hj => by rw [Addr.add_lit, Nat.zero_add, cell_new x4 [.bool false] 4 j]; exact hj) (by intro u hu; simp at hu; subst hu; rfl) (by omega) (by have := HSM4.out; unfold maxLen; omega) (by have := HSM4.out; omega) hpa.sz _ rfl
    have hgr := hpa.grow (f := 4) (p' := ({ cls := p.cls ++ [c], rules := p.rules ++ [ru], first := p.first, follow := p.follow ++ [[]], last := p.last ++ [false], empty := p.empty } : P)) (by omega) (by omega) hgrw (s := (.slice (some ⟨g4, 0, none⟩) (p.last.length + 1) k4)) (by show World.ownsRow y4 base 4 1 _ (List.length (p.last ++ [false])) (List.map Value.bool (p.last ++ [false])); rw [List.length_append, List.map_append]; exact hown) (fun q hq => by simp [Value.ownBlock] at hq; subst hq; exact hor.imp id (fun e => by omega)) rfl (fun g hg hg2 => by match g, hg, hg2 with | 0, _, _ => exact ⟨rfl, rfl⟩ | 1, _, _ => exact ⟨rfl, rfl⟩ | 2, _, _ => exact ⟨rfl, rfl⟩ | 3, _, _ => exact ⟨rfl, rfl⟩ | 4, _, h => exact absurd rfl h | 5, _, _ => exact ⟨rfl, rfl⟩)
    have z4 := hgr.1.cell (i := 4) (by omega)
    have f4 := hgr.1.frozen 4
    have HRUN4 : Hid ((Builtin.append_ #[25, 25] 25 #[(upd (upd (upd v 0 (.slice (some ⟨gr, 0, none⟩) (p.cls.length + 1) cr)) 1 (.slice (some ⟨g2, 0, none⟩) (p.rules.length + 1) k2)) 3 (.slice (some ⟨g3, 0, none⟩) (p.follow.length + 1) k3)) 4, .slice (some ⟨x4.heap.size, 0, none⟩) 1 1]).run Try.prog (x4.alloc (Obj.cells #[.bool false] 4)) = .ok (.slice (some ⟨g4, 0, none⟩) (p.last.length + 1) k4) y4) := hrun
    have HP5 : Hid (Pm base gp (upd (upd (upd (upd v 0 (.slice (some ⟨gr, 0, none⟩) (p.cls.length + 1) cr)) 1 (.slice (some ⟨g2, 0, none⟩) (p.rules.length + 1) k2)) 3 (.slice (some ⟨g3, 0, none⟩) (p.follow.length + 1) k3)) 4 (.slice (some ⟨g4, 0, none⟩) (p.last.length + 1) k4)) (upd V p.follow.length (.slice none 0 0)) ({ cls := p.cls ++ [c], rules := p.rules ++ [ru], first := p.first, follow := p.follow ++ [[]], last := p.last ++ [false], empty := p.empty } : P) (y4.setCell ⟨gp, 4, none⟩ (.slice (some ⟨g4, 0, none⟩) (p.last.length + 1) k4)) ∧ Fm (Own gp v V p.follow.length) w (y4.setCell ⟨gp, 4, none⟩ (.slice (some ⟨g4, 0, none⟩) (p.last.length + 1) k4)) ∧ ∀ q, Own gp (upd (upd (upd (upd v 0 (.slice (some ⟨gr, 0, none⟩) (p.cls.length + 1) cr)) 1 (.slice (some ⟨g2, 0, none⟩) (p.rules.length + 1) k2)) 3 (.slice (some ⟨g3, 0, none⟩) (p.follow.length + 1) k3)) 4 (.slice (some ⟨g4, 0, none⟩) (p.last.length + 1) k4)) (upd V p.follow.length (.slice none 0 0)) ({ cls := p.cls ++ [c], rules := p.rules ++ [ru], first := p.first, follow := p.follow ++ [[]], last := p.last ++ [false], empty := p.empty } : P).follow.length q → Own gp v V p.follow.length q ∨ w.heap.size ≤ q) := by
      refine ⟨hgr.2.1, (HP4.out.2.1.trans (Fm.below B4) (fun q _ h => h)).trans hgr.2.2.1 (fun q hq h => (HP4.out.2.2 q h).resolve_right (by omega)), fun q hq => ?_⟩
      rcases hgr.2.2.2 q hq with h1 | h1
      · exact HP4.out.2.2 q h1
      · exact Or.inr (Nat.le_trans HP4.out.2.1.size (Nat.le_trans B4.size h1))
    have yy := HP4.out.1.box.cell (i := 4) (by omega)
    clear hgr hrun hown hgrw hor hpa ho B4
    go_upto_region 5 with (refine wpList_append_run rfl _ _ 25 rfl _ _ rfl rfl HRUN4.out ?_)
    clear yy z4 f4 HRUN4 HP4
    obtain ⟨x5, HX5⟩ : ∃ q, Hid (y4.setCell ⟨gp, 4, none⟩ (.slice (some ⟨g4, 0, none⟩) (p.last.length + 1) k4) = q) := ⟨_, (rfl : _ = _)⟩
    rw [HX5.out] at HP5 ⊢
    have y9 : x5.cell? ⟨gp, 0, none⟩ = some (.slice (some ⟨gr, 0, none⟩) (p.cls.length + 1) cr) := HP5.out.1.box.cell (i := 0) (by omega)
    have hw9 : wrap64 (p.cls.length : Int) = (p.cls.length : Int) := by have := HSM.out; unfold wrap64; omega
    go_wp2_with fail
    go_ret
    exact ⟨rfl, _, _, HP5.out.1, HP5.out.2.1, fun q hq => HP5.out.2.2 q (by rw [List.length_append]; exact hq)⟩
end Go.Proofs.Ytlmlkpdppkgenaa
