/-
  A plan in memory, and the contract of plan.lay: one step more.
-/
import Derived.Test.YtgdaegmmapljgaaChecks
import Derived.Test.YtgdaegmmapljgaaPlan
import Derived.Test.YtgdaegmmapljgaaInvs
import Derived.OwnWalk
import Derived.Laws.AppendOwn
import Derived.Deep.AppendLies
namespace Go.Proofs.Ytgdaegmmapljgaa
open Go.RowKit
open Cls Rex

theorem rxno_way {p : Prop} (h : false = true) : p := by cases h
theorem rxdep_of {l : List Edge} {d : Nat → Bool} (h : ∀ e ∈ l, Region.binds .any e = true → d e.on = true) (j : Nat) (hj : l.any (fun e => Region.binds .any e && e.on == j) = true) : d j = true := by
  obtain ⟨e, he, h2⟩ := List.any_eq_true.1 hj
  simp only [Bool.and_eq_true, beq_iff_eq] at h2
  rw [← h2.2]; exact h e he h2.1
theorem rxstep_call_append {P : Program} {ops : Array Oper} {o : Oper} {a : Act} {K : Act → World → Prop} {Q : Exit → Act → World → Prop} {E : Prop} {W W1 : World} {v sv xv : Value} (hgd : o.guard = none) (s x : Operand) (t : TypeId) (ho : o.op = .call { callee := .builtin .append, args := #[s, x], argTypes := #[t, t] })
    (hs : a.eval s = sv) (hx : a.eval x = xv) (hr : (Builtin.append_ #[t, t] o.type #[sv, xv]).run P W = .ok v W1) (h : K (a.put o.dst v) W1) : if Region.wanted o (yielded ops a.tmps) = true then Oper.wp P o a W K Q else E := by
  have hw : Region.wanted o (yielded ops a.tmps) = true := by simp [Region.wanted, hgd]
  rw [if_pos hw]
  unfold Oper.wp
  simp [execOp, ho, resolve, invoke, builtin, hs, hx, hr, Result.andThen]
  exact h
theorem info97 : (Try.prog.info? 97).map (fun i => (i.zero, i.size, i.bytes)) = some (some (.agg #[.int .u64 0, .int .u64 0, .int .u64 0, .int .u64 0, .slice none 0 0]), 5, 56) := by kernel_rfl
theorem rxown_ge {w : World} {B : Nat} {e : TypeId} {size : Nat} {v : Value} {n : Nat} {xs : List Value} (h : w.ownsRow B e size v n xs) : ∀ j, v.ownBlock = some j → B ≤ j := by
  obtain ⟨_, h | ⟨g, cap, cur, rfl, hB, _⟩⟩ := h
  · obtain ⟨rfl, _⟩ := h; intro j hj; simp [Value.ownBlock] at hj
  · intro j hj; simp [Value.ownBlock] at hj; omega
/-- A block of another type is not the row's. -/
theorem own_tag {w : World} {B : Nat} {e : TypeId} {size : Nat} {v : Value} {n : Nat} {xs : List Value} (h : w.ownsRow B e size v n xs) {b : Nat} {z : Array Value} {t : TypeId} (hb : w.heap[b]? = some (.cells z t)) (ht : t ≠ e) : some b ≠ v.ownBlock := fun hv => by
  obtain ⟨_, h | ⟨g, cap, cur, rfl, _, hg, _⟩⟩ := h
  · obtain ⟨rfl, _⟩ := h; simp [Value.ownBlock] at hv
  · simp [Value.ownBlock] at hv
    subst hv
    rw [hg] at hb
    simp at hb
    exact ht hb.2.symm
/-- What is no plan and no step stays. -/
def Keep3 (w W : World) : Prop := ∀ (b : Nat) (z : Array Value) (t : TypeId), t ≠ 94 → t ≠ 97 → w.heap[b]? = some (Obj.cells z t) → W.heap[b]? = some (Obj.cells z t)
theorem Keep3.refl (w : World) : Keep3 w w := fun _ _ _ _ _ h => h
theorem Keep3.trans {a b c : World} (h : Keep3 a b) (k : Keep3 b c) : Keep3 a c := fun _ _ _ h1 h2 hz => k _ _ _ h1 h2 (h _ _ _ h1 h2 hz)
theorem Keep3.below {a b c : World} (h : Keep3 a b) (hb : Below b.heap.size b c) : Keep3 a c := fun _ _ _ h1 h2 hz => blk_next hb (h _ _ _ h1 h2 hz)
theorem Keep3.grown {a b c : World} (h : Keep3 a b) {B size n : Nat} {v : Value} {xs : List Value} (hr : b.ownsRow B 97 size v n xs) (hg : b.grownBy c v.ownBlock) : Keep3 a c := fun x z t h1 h2 hz => (hg.block x (blk_lt (h x z t h1 h2 hz)) (own_tag hr (h x z t h1 h2 hz) h2)).trans (h x z t h1 h2 hz)
theorem Keep3.set {a b : World} (h : Keep3 a b) {p o : Nat} {z : Array Value} {t : TypeId} (hp : b.heap[p]? = some (.cells z t)) (ht : t = 94 ∨ t = 97) (v : Value) : Keep3 a (b.setCell ⟨p, o, none⟩ v) := fun x y t' h1 h2 hy => by
  have hb := h x y t' h1 h2 hy
  refine (Below.heap_setCell _ _ _ _ (fun e => ?_)).trans hb
  simp only at e
  subst e
  rw [hp] at hb
  simp at hb
  rcases ht with h3 | h3
  · exact h1 (hb.2.symm.trans h3)
  · exact h2 (hb.2.symm.trans h3)
theorem row_set {w : World} {B : Nat} {size : Nat} {v : Value} {n : Nat} {xs : List Value} (h : w.ownsRow B 97 size v n xs) {p o : Nat} {z : Array Value} {t : TypeId} (hp : w.heap[p]? = some (.cells z t)) (ht : t ≠ 97) (u : Value) : (w.setCell ⟨p, o, none⟩ u).ownsRow B 97 size v n xs := by
  have hn := own_tag h hp ht
  refine ⟨h.1, h.2.imp id ?_⟩
  rintro ⟨g, cap, cur, rfl, h1, h2, h3⟩
  exact ⟨g, cap, cur, rfl, h1, (Below.heap_setCell _ _ _ _ (fun e => hn (by simp [Value.ownBlock, e]))).trans h2, h3⟩
def fl (qs : List (Cl × Value)) : List Value := qs.flatMap fun q => [.int .u64 (q.1.1.toNat : Int), .int .u64 (q.1.2.1.toNat : Int), .int .u64 (q.1.2.2.1.toNat : Int), .int .u64 (q.1.2.2.2.toNat : Int), q.2]
theorem fl_append (a b : List (Cl × Value)) : fl (a ++ b) = fl a ++ fl b := by simp [fl]
/-- A slice of numbers of the plan's own. -/
def Nxs (W : World) (B : Nat) (v : Value) (l : List Nat) : Prop := (l = [] ∧ v = .slice none 0 0) ∨ ∃ b, v = .slice (some ⟨b, 0, none⟩) l.length l.length ∧ B ≤ b ∧ W.heap[b]? = some (.cells (l.map fun n : Nat => Value.int .i64 (n : Int)).toArray 3)
theorem Nxs.keep {W W' : World} {B : Nat} {v : Value} {l : List Nat} (h : Nxs W B v l) (k : Keep3 W W') : Nxs W' B v l := by
  rcases h with h | ⟨b, h1, h2, h3⟩
  · exact Or.inl h
  · exact Or.inr ⟨b, h1, h2, k _ _ _ (by decide) (by decide) h3⟩
theorem Nxs.one {W : World} {B : Nat} {v : Value} {l : List Nat} (h : Nxs W B v l) : v.oneCell' = true := by
  rcases h with ⟨_, rfl⟩ | ⟨b, rfl, _⟩ <;> rfl
/-- A plan in memory: its steps, the two numbers beside them. -/
def Pl (B pp : Nat) (f e : Value) (ps : List St) (W : World) : Prop := ∃ (sv : Value) (qs : List (Cl × Value)), W.heap[pp]? = some (.cells #[sv, f, e] 94) ∧ W.ownsRow B 97 5 sv qs.length (fl qs) ∧ qs.length = ps.length ∧ ∀ i (h1 : i < qs.length) (h2 : i < ps.length), qs[i].1 = ps[i].1 ∧ Nxs W B qs[i].2 ps[i].2
/-- What lay's region keeps, whichever of its operations are done. -/
structure CL (wr : World) (B pp : Nat) (f e sv nv : Value) (c : Cl) (qs : List (Cl × Value)) (d : Nat → Bool) (bx gb gr cr : Nat) (x5 x6 x7 x8 x9 x10 x11 x12 x13 x14 : Value) (W : World) : Prop where
  below : Below B wr W
  size : wr.heap.size ≤ W.heap.size
  ints : Keep3 wr W
  f0 : d 0 = true → x5 = (.pointer (some ⟨pp, 0, none⟩))
  f1 : d 1 = true → x6 = (.pointer (some ⟨pp, 0, none⟩))
  f2 : d 2 = true → x7 = (.pointer (some ⟨pp, 0, none⟩))
  f3 : d 3 = true → x8 = (.pointer (some ⟨pp, 0, none⟩))
  f4 : d 4 = true → x9 = sv
  f5 : d 5 = true → x10 = (.agg #[.int .u64 (c.1.toNat : Int), .int .u64 (c.2.1.toNat : Int), .int .u64 (c.2.2.1.toNat : Int), .int .u64 (c.2.2.2.toNat : Int), nv])
  f6 : d 6 = true → x11 = (.slice (some ⟨gb, 0, none⟩) 1 1)
  f7 : d 7 = true → x12 = (.slice (some ⟨gr, 0, none⟩) (qs.length + 1) cr)
  f8 : d 8 = true → x13 = (.pointer (some ⟨pp, 0, none⟩))
  f9 : d 9 = true → x14 = (.pointer (some ⟨pp, 0, none⟩))
  r0 : d 7 = false → W.ownsRow B 97 5 sv qs.length (fl qs)
  r1 : d 7 = true → W.ownsRow B 97 5 (.slice (some ⟨gr, 0, none⟩) (qs.length + 1) cr) (qs.length + 1) (fl qs ++ [.int .u64 (c.1.toNat : Int), .int .u64 (c.2.1.toNat : Int), .int .u64 (c.2.2.1.toNat : Int), .int .u64 (c.2.2.2.toNat : Int), nv])
  b0 : d 6 = true → d 7 = false → W.heap[gb]? = some (.cells #[.int .u64 (c.1.toNat : Int), .int .u64 (c.2.1.toNat : Int), .int .u64 (c.2.2.1.toNat : Int), .int .u64 (c.2.2.2.toNat : Int), nv] 97) ∧ wr.heap.size ≤ gb
  p0 : d 10 = false → W.heap[pp]? = some (.cells #[sv, f, e] 94)
  p1 : d 10 = true → W.heap[pp]? = some (.cells #[.slice (some ⟨gr, 0, none⟩) (qs.length + 1) cr, f, e] 94)
  g7 : d 7 = true → d 6 = true
  g10 : d 10 = true → d 7 = true
  g4 : d 7 = true → d 4 = true
  bx : d 7 = false → W.heap[bx]? = some (.cells #[.int .u64 (c.1.toNat : Int), .int .u64 (c.2.1.toNat : Int), .int .u64 (c.2.2.1.toNat : Int), .int .u64 (c.2.2.2.toNat : Int), nv] 97)
  g6 : d 6 = true → d 5 = true
set_option maxHeartbeats 4000000 in
set_option maxRecDepth 20000 in
theorem lay_any (B pp : Nat) (f e : Value) (ps : List St) (c : Cl) (nv : Value) (l : List Nat) (w : World) (hP : Pl B pp f e ps w) (hBp : B ≤ pp) (hBw' : B ≤ w.heap.size) (hn : Nxs w B nv l) (hlen : ps.length ≤ 200) :
    Calls Try.prog 62 #[.pointer (some ⟨pp, 0, none⟩), .agg #[.int .u64 (c.1.toNat : Int), .int .u64 (c.2.1.toNat : Int), .int .u64 (c.2.2.1.toNat : Int), .int .u64 (c.2.2.2.toNat : Int), nv]] w fun e' w' => e' = .returned (.int .i64 (ps.length : Int)) ∧ Pl B pp f e (ps ++ [(c, l)]) w' ∧ Below B w w' ∧ Keep3 w w' := by
  obtain ⟨i0, hi, hz0, hz1, hz2⟩ := info_parts info97
  obtain ⟨sv, qs, hp, hrow, hql, hqs⟩ := hP
  have hone := hn.one
  have HN : Hid (Nxs w B nv l ∧ ∀ i (h1 : i < qs.length) (h2 : i < ps.length), qs[i].1 = ps[i].1 ∧ Nxs w B qs[i].2 ps[i].2) := ⟨hn, hqs⟩
  have hpl := blk_lt hp
  have hq2 : qs.length ≤ 200 := by omega
  obtain ⟨bx, HBX⟩ : ∃ bx, Hid (w.heap.size = bx) := ⟨_, (rfl : w.heap.size = w.heap.size)⟩
  obtain ⟨wr, HWR⟩ : ∃ wr, Hid (w.alloc (.cells #[.int .u64 (c.1.toNat : Int), .int .u64 (c.2.1.toNat : Int), .int .u64 (c.2.2.1.toNat : Int), .int .u64 (c.2.2.2.toNat : Int), nv] 97) = wr) := ⟨_, (rfl : w.alloc (.cells #[.int .u64 (c.1.toNat : Int), .int .u64 (c.2.1.toNat : Int), .int .u64 (c.2.2.1.toNat : Int), .int .u64 (c.2.2.2.toNat : Int), nv] 97) = w.alloc (.cells #[.int .u64 (c.1.toNat : Int), .int .u64 (c.2.1.toNat : Int), .int .u64 (c.2.2.1.toNat : Int), .int .u64 (c.2.2.2.toNat : Int), nv] 97))⟩
  have hb0 : Below w.heap.size w wr := HWR.out ▸ (Below.refl _ w).alloc (Nat.le_refl _) _
  have HP : Hid (wr.heap[pp]? = some (.cells #[sv, f, e] 94) ∧ wr.ownsRow B 97 5 sv qs.length (fl qs) ∧ wr.heap[bx]? = some (.cells #[.int .u64 (c.1.toNat : Int), .int .u64 (c.2.1.toNat : Int), .int .u64 (c.2.2.1.toNat : Int), .int .u64 (c.2.2.2.toNat : Int), nv] 97)) := ⟨blk_next hb0 hp, HWR.out ▸ hrow.alloc _, by rw [← HBX.out, ← HWR.out]; exact block_new w _⟩
  have hBw : B ≤ wr.heap.size := Nat.le_trans hBw' hb0.size
  have HQL : Hid (qs.length = ps.length) := hql
  clear hn hqs hp hrow hql
  go_enter Try.func62, Try.ntmps62
  go_upto_region 1 with fail
  rw [HBX.out, HWR.out]
  go_cut [12] (fun x12 wx => ∃ gr cr, x12 = .slice (some ⟨gr, 0, none⟩) (qs.length + 1) cr ∧ Hid (Below B wr wx ∧ Keep3 wr wx ∧ wx.ownsRow B 97 5 (.slice (some ⟨gr, 0, none⟩) (qs.length + 1) cr) (qs.length + 1) (fl qs ++ [.int .u64 (c.1.toNat : Int), .int .u64 (c.2.1.toNat : Int), .int .u64 (c.2.2.1.toNat : Int), .int .u64 (c.2.2.2.toNat : Int), nv]) ∧ wx.heap[pp]? = some (.cells #[.slice (some ⟨gr, 0, none⟩) (qs.length + 1) cr, f, e] 94)))
  case first =>
    refine wp_region_inv mixed (fun a0 d a W => ∃ (gb gr cr : Nat) (x5 x6 x7 x8 x9 x10 x11 x12 x13 x14 : Value), a = ((((((((((a0.put (some 5) x5).put (some 6) x6).put (some 7) x7).put (some 8) x8).put (some 9) x9).put (some 10) x10).put (some 11) x11).put (some 12) x12).put (some 13) x13).put (some 14) x14) ∧ Hid (CL wr B pp f e sv nv c qs d bx gb gr cr x5 x6 x7 x8 x9 x10 x11 x12 x13 x14 W)) (by kernel_rfl) ⟨0, 0, 0, undef, undef, undef, undef, undef, undef, undef, undef, undef, undef, by simp only [Act.put, List.setIfInBounds_toArray, List.set_cons_zero, List.set_cons_succ], ?_⟩ ?_ ?_
    · exact ⟨(Below.refl _ wr).drew, Nat.le_refl _, fun _ _ _ _ _ h => h, fun h => rxno_way h, fun h => rxno_way h, fun h => rxno_way h, fun h => rxno_way h, fun h => rxno_way h, fun h => rxno_way h, fun h => rxno_way h, fun h => rxno_way h, fun h => rxno_way h, fun h => rxno_way h, fun _ => HP.out.2.1, fun h => rxno_way h, fun h _ => rxno_way h, fun _ => HP.out.1, fun h => rxno_way h, fun h => rxno_way h, fun h => rxno_way h, fun h => rxno_way h, fun _ => HP.out.2.2, fun h => rxno_way h⟩
    · simp only [StepAll, and_true]
      refine ⟨?_, ?_, ?_, ?_, ?_, ?_, ?_, ?_, ?_, ?_, ?_⟩
      · intro d a W hI hd hdep
        obtain ⟨gb, gr, cr, x5, x6, x7, x8, x9, x10, x11, x12, x13, x14, rfl, hF⟩ := hI
        have hB := hF.out.below
        clear hB hdep hd
        intro K hK
        simp only [Act.put, List.setIfInBounds_toArray, List.set_cons_zero, List.set_cons_succ]
        go_simp
        refine hK.out _ _ ⟨gb, gr, cr, (.pointer (some ⟨pp, 0, none⟩)), x6, x7, x8, x9, x10, x11, x12, x13, x14, by simp only [Act.put, List.setIfInBounds_toArray, List.set_cons_zero, List.set_cons_succ], ?_⟩
        have hB := hF.out.below
        exact ⟨hB, hF.out.size, hF.out.ints, fun _ => rfl, fun h => hF.out.f1 (by simpa using h), fun h => hF.out.f2 (by simpa using h), fun h => hF.out.f3 (by simpa using h), fun h => hF.out.f4 (by simpa using h), fun h => hF.out.f5 (by simpa using h), fun h => hF.out.f6 (by simpa using h), fun h => hF.out.f7 (by simpa using h), fun h => hF.out.f8 (by simpa using h), fun h => hF.out.f9 (by simpa using h), fun h => hF.out.r0 (by simpa using h), fun h => hF.out.r1 (by simpa using h), fun h h2 => hF.out.b0 (by simpa using h) (by simpa using h2), fun h => hF.out.p0 (by simpa using h), fun h => hF.out.p1 (by simpa using h), fun h => by simpa using hF.out.g7 (by simpa using h), fun h => by simpa using hF.out.g10 (by simpa using h), fun h => by simpa using hF.out.g4 (by simpa using h), fun h => hF.out.bx (by simpa using h), fun h => by simpa using hF.out.g6 (by simpa using h)⟩
      · intro d a W hI hd hdep
        obtain ⟨gb, gr, cr, x5, x6, x7, x8, x9, x10, x11, x12, x13, x14, rfl, hF⟩ := hI
        have hB := hF.out.below
        clear hB hdep hd
        intro K hK
        simp only [Act.put, List.setIfInBounds_toArray, List.set_cons_zero, List.set_cons_succ]
        go_simp
        refine hK.out _ _ ⟨gb, gr, cr, x5, (.pointer (some ⟨pp, 0, none⟩)), x7, x8, x9, x10, x11, x12, x13, x14, by simp only [Act.put, List.setIfInBounds_toArray, List.set_cons_zero, List.set_cons_succ], ?_⟩
        have hB := hF.out.below
        exact ⟨hB, hF.out.size, hF.out.ints, fun h => hF.out.f0 (by simpa using h), fun _ => rfl, fun h => hF.out.f2 (by simpa using h), fun h => hF.out.f3 (by simpa using h), fun h => hF.out.f4 (by simpa using h), fun h => hF.out.f5 (by simpa using h), fun h => hF.out.f6 (by simpa using h), fun h => hF.out.f7 (by simpa using h), fun h => hF.out.f8 (by simpa using h), fun h => hF.out.f9 (by simpa using h), fun h => hF.out.r0 (by simpa using h), fun h => hF.out.r1 (by simpa using h), fun h h2 => hF.out.b0 (by simpa using h) (by simpa using h2), fun h => hF.out.p0 (by simpa using h), fun h => hF.out.p1 (by simpa using h), fun h => by simpa using hF.out.g7 (by simpa using h), fun h => by simpa using hF.out.g10 (by simpa using h), fun h => by simpa using hF.out.g4 (by simpa using h), fun h => hF.out.bx (by simpa using h), fun h => by simpa using hF.out.g6 (by simpa using h)⟩
      · intro d a W hI hd hdep
        obtain ⟨gb, gr, cr, x5, x6, x7, x8, x9, x10, x11, x12, x13, x14, rfl, hF⟩ := hI
        have hd1 : d 1 = true := rxdep_of hdep 1 (by kernel_rfl)
        have hB := hF.out.below
        obtain rfl := hF.out.f1 hd1
        clear hB hdep hd
        intro K hK
        simp only [Act.put, List.setIfInBounds_toArray, List.set_cons_zero, List.set_cons_succ]
        go_simp
        refine hK.out _ _ ⟨gb, gr, cr, x5, (.pointer (some ⟨pp, 0, none⟩)), (.pointer (some ⟨pp, 0, none⟩)), x8, x9, x10, x11, x12, x13, x14, by simp only [Act.put, List.setIfInBounds_toArray, List.set_cons_zero, List.set_cons_succ], ?_⟩
        have hB := hF.out.below
        exact ⟨hB, hF.out.size, hF.out.ints, fun h => hF.out.f0 (by simpa using h), fun h => hF.out.f1 (by simpa using h), fun _ => rfl, fun h => hF.out.f3 (by simpa using h), fun h => hF.out.f4 (by simpa using h), fun h => hF.out.f5 (by simpa using h), fun h => hF.out.f6 (by simpa using h), fun h => hF.out.f7 (by simpa using h), fun h => hF.out.f8 (by simpa using h), fun h => hF.out.f9 (by simpa using h), fun h => hF.out.r0 (by simpa using h), fun h => hF.out.r1 (by simpa using h), fun h h2 => hF.out.b0 (by simpa using h) (by simpa using h2), fun h => hF.out.p0 (by simpa using h), fun h => hF.out.p1 (by simpa using h), fun h => by simpa using hF.out.g7 (by simpa using h), fun h => by simpa using hF.out.g10 (by simpa using h), fun h => by simpa using hF.out.g4 (by simpa using h), fun h => hF.out.bx (by simpa using h), fun h => by simpa using hF.out.g6 (by simpa using h)⟩
      · intro d a W hI hd hdep
        obtain ⟨gb, gr, cr, x5, x6, x7, x8, x9, x10, x11, x12, x13, x14, rfl, hF⟩ := hI
        have hd2 : d 2 = true := rxdep_of hdep 2 (by kernel_rfl)
        have hB := hF.out.below
        obtain rfl := hF.out.f2 hd2
        clear hB hdep hd
        intro K hK
        simp only [Act.put, List.setIfInBounds_toArray, List.set_cons_zero, List.set_cons_succ]
        go_simp
        refine hK.out _ _ ⟨gb, gr, cr, x5, x6, (.pointer (some ⟨pp, 0, none⟩)), (.pointer (some ⟨pp, 0, none⟩)), x9, x10, x11, x12, x13, x14, by simp only [Act.put, List.setIfInBounds_toArray, List.set_cons_zero, List.set_cons_succ], ?_⟩
        have hB := hF.out.below
        exact ⟨hB, hF.out.size, hF.out.ints, fun h => hF.out.f0 (by simpa using h), fun h => hF.out.f1 (by simpa using h), fun h => hF.out.f2 (by simpa using h), fun _ => rfl, fun h => hF.out.f4 (by simpa using h), fun h => hF.out.f5 (by simpa using h), fun h => hF.out.f6 (by simpa using h), fun h => hF.out.f7 (by simpa using h), fun h => hF.out.f8 (by simpa using h), fun h => hF.out.f9 (by simpa using h), fun h => hF.out.r0 (by simpa using h), fun h => hF.out.r1 (by simpa using h), fun h h2 => hF.out.b0 (by simpa using h) (by simpa using h2), fun h => hF.out.p0 (by simpa using h), fun h => hF.out.p1 (by simpa using h), fun h => by simpa using hF.out.g7 (by simpa using h), fun h => by simpa using hF.out.g10 (by simpa using h), fun h => by simpa using hF.out.g4 (by simpa using h), fun h => hF.out.bx (by simpa using h), fun h => by simpa using hF.out.g6 (by simpa using h)⟩
      · intro d a W hI hd hdep
        obtain ⟨gb, gr, cr, x5, x6, x7, x8, x9, x10, x11, x12, x13, x14, rfl, hF⟩ := hI
        have hd3 : d 3 = true := rxdep_of hdep 3 (by kernel_rfl)
        have hB := hF.out.below
        obtain rfl := hF.out.f3 hd3
        have h10 : d 10 = false := by
          cases hx : d 10 with
          | false => rfl
          | true => have := hF.out.g10 hx; have h7 := hF.out.g7 this; exact absurd (hF.out.g4 this) (by rw [hd]; simp)
        have s0 : W.cell? ⟨pp, 0, none⟩ = some sv := by simp [World.cell?, hF.out.p0 h10]
        clear hB hdep h10 hd
        intro K hK
        simp only [Act.put, List.setIfInBounds_toArray, List.set_cons_zero, List.set_cons_succ]
        go_simp
        refine hK.out _ _ ⟨gb, gr, cr, x5, x6, x7, (.pointer (some ⟨pp, 0, none⟩)), sv, x10, x11, x12, x13, x14, by simp only [Act.put, List.setIfInBounds_toArray, List.set_cons_zero, List.set_cons_succ], ?_⟩
        have hB := hF.out.below
        exact ⟨hB, hF.out.size, hF.out.ints, fun h => hF.out.f0 (by simpa using h), fun h => hF.out.f1 (by simpa using h), fun h => hF.out.f2 (by simpa using h), fun h => hF.out.f3 (by simpa using h), fun _ => rfl, fun h => hF.out.f5 (by simpa using h), fun h => hF.out.f6 (by simpa using h), fun h => hF.out.f7 (by simpa using h), fun h => hF.out.f8 (by simpa using h), fun h => hF.out.f9 (by simpa using h), fun h => hF.out.r0 (by simpa using h), fun h => hF.out.r1 (by simpa using h), fun h h2 => hF.out.b0 (by simpa using h) (by simpa using h2), fun h => hF.out.p0 (by simpa using h), fun h => hF.out.p1 (by simpa using h), fun h => by simpa using hF.out.g7 (by simpa using h), fun h => by simpa using hF.out.g10 (by simpa using h), fun _ => by simp, fun h => hF.out.bx (by simpa using h), fun h => by simpa using hF.out.g6 (by simpa using h)⟩
      · intro d a W hI hd hdep
        obtain ⟨gb, gr, cr, x5, x6, x7, x8, x9, x10, x11, x12, x13, x14, rfl, hF⟩ := hI
        have hB := hF.out.below
        have HX := hF.out.bx (by cases h7 : d 7 with | false => rfl | true => exact absurd (hF.out.g6 (hF.out.g7 h7)) (by rw [hd]; simp))
        have s0 : W.cell? ⟨bx, 0, none⟩ = some (.int .u64 (c.1.toNat : Int)) := by simp [World.cell?, HX]
        have s1 : W.cell? ⟨bx, 1, none⟩ = some (.int .u64 (c.2.1.toNat : Int)) := by simp [World.cell?, HX]
        have s2 : W.cell? ⟨bx, 2, none⟩ = some (.int .u64 (c.2.2.1.toNat : Int)) := by simp [World.cell?, HX]
        have s3 : W.cell? ⟨bx, 3, none⟩ = some (.int .u64 (c.2.2.2.toNat : Int)) := by simp [World.cell?, HX]
        have s4 : W.cell? ⟨bx, 4, none⟩ = some (nv) := by simp [World.cell?, HX]
        clear HX
        clear hB hdep hd
        intro K hK
        simp only [Act.put, List.setIfInBounds_toArray, List.set_cons_zero, List.set_cons_succ]
        go_simp
        refine hK.out _ _ ⟨gb, gr, cr, x5, x6, x7, x8, x9, (.agg #[.int .u64 (c.1.toNat : Int), .int .u64 (c.2.1.toNat : Int), .int .u64 (c.2.2.1.toNat : Int), .int .u64 (c.2.2.2.toNat : Int), nv]), x11, x12, x13, x14, by simp only [Act.put, List.setIfInBounds_toArray, List.set_cons_zero, List.set_cons_succ], ?_⟩
        have hB := hF.out.below
        exact ⟨hB, hF.out.size, hF.out.ints, fun h => hF.out.f0 (by simpa using h), fun h => hF.out.f1 (by simpa using h), fun h => hF.out.f2 (by simpa using h), fun h => hF.out.f3 (by simpa using h), fun h => hF.out.f4 (by simpa using h), fun _ => rfl, fun h => hF.out.f6 (by simpa using h), fun h => hF.out.f7 (by simpa using h), fun h => hF.out.f8 (by simpa using h), fun h => hF.out.f9 (by simpa using h), fun h => hF.out.r0 (by simpa using h), fun h => hF.out.r1 (by simpa using h), fun h h2 => hF.out.b0 (by simpa using h) (by simpa using h2), fun h => hF.out.p0 (by simpa using h), fun h => hF.out.p1 (by simpa using h), fun h => by simpa using hF.out.g7 (by simpa using h), fun h => by simpa using hF.out.g10 (by simpa using h), fun h => by simpa using hF.out.g4 (by simpa using h), fun h => hF.out.bx (by simpa using h), fun _ => by simp⟩
      · intro d a W hI hd hdep
        obtain ⟨gb, gr, cr, x5, x6, x7, x8, x9, x10, x11, x12, x13, x14, rfl, hF⟩ := hI
        have hd5 : d 5 = true := rxdep_of hdep 5 (by kernel_rfl)
        have hB := hF.out.below
        obtain rfl := hF.out.f5 hd5
        have h7 : d 7 = false := by
          cases hx : d 7 with
          | false => rfl
          | true => have := hF.out.g7 hx; rw [hd] at this; cases this
        have h10 : d 10 = false := by
          cases hx : d 10 with
          | false => rfl
          | true => have := hF.out.g10 hx; rw [h7] at this; cases this
        have HD : Hid (d 7 = false ∧ d 10 = false) := ⟨h7, h10⟩
        have hd5' := hd5
        have HD5 : Hid (d 5 = true) := hd5
        clear hB hdep hd h7 h10 hd5 hd5'
        intro K hK
        simp only [Act.put, List.setIfInBounds_toArray, List.set_cons_zero, List.set_cons_succ]
        go_simp
        refine hK.out _ _ ⟨W.heap.size, gr, cr, x5, x6, x7, x8, x9, (.agg #[.int .u64 (c.1.toNat : Int), .int .u64 (c.2.1.toNat : Int), .int .u64 (c.2.2.1.toNat : Int), .int .u64 (c.2.2.2.toNat : Int), nv]), (.slice (some ⟨W.heap.size, 0, none⟩) 1 1), x12, x13, x14, by simp only [Act.put, List.setIfInBounds_toArray, List.set_cons_zero, List.set_cons_succ], ?_⟩
        have hB := hF.out.below
        have hb : Below W.heap.size W (W.alloc (.cells #[.int .u64 (c.1.toNat : Int), .int .u64 (c.2.1.toNat : Int), .int .u64 (c.2.2.1.toNat : Int), .int .u64 (c.2.2.2.toNat : Int), nv] 97)) := (Below.refl _ W).alloc (Nat.le_refl _) _
        have hBW : B ≤ W.heap.size := Nat.le_trans hBw hF.out.size
        exact ⟨hB.trans (hb.mono hBW), Nat.le_trans hF.out.size hb.size, hF.out.ints.below hb, fun h => hF.out.f0 (by simpa using h), fun h => hF.out.f1 (by simpa using h), fun h => hF.out.f2 (by simpa using h), fun h => hF.out.f3 (by simpa using h), fun h => hF.out.f4 (by simpa using h), fun h => hF.out.f5 (by simpa using h), fun _ => rfl, fun h => rxno_way (HD.out.1.symm.trans (by simpa using h)), fun h => hF.out.f8 (by simpa using h), fun h => hF.out.f9 (by simpa using h), fun h => (hF.out.r0 (by simpa using h)).alloc _, fun h => rxno_way (HD.out.1.symm.trans (by simpa using h)), fun _ _ => ⟨block_new W _, hF.out.size⟩, fun h => blk_next hb (hF.out.p0 (by simpa using h)), fun h => rxno_way (HD.out.2.symm.trans (by simpa using h)), fun h => rxno_way (HD.out.1.symm.trans (by simpa using h)), fun h => rxno_way (HD.out.2.symm.trans (by simpa using h)), fun h => rxno_way (HD.out.1.symm.trans (by simpa using h)), fun h => blk_next hb (hF.out.bx (by simpa using h)), fun _ => by simpa using HD5.out⟩
      · intro d a W hI hd hdep
        obtain ⟨gb, gr, cr, x5, x6, x7, x8, x9, x10, x11, x12, x13, x14, rfl, hF⟩ := hI
        have hd4 : d 4 = true := rxdep_of hdep 4 (by kernel_rfl)
        have hd6 : d 6 = true := rxdep_of hdep 6 (by kernel_rfl)
        have hB := hF.out.below
        obtain rfl := (hF.out.f4 hd4).symm
        obtain rfl := hF.out.f6 hd6
        have h10 : d 10 = false := by
          cases hx : d 10 with
          | false => rfl
          | true => have := hF.out.g10 hx; rw [hd] at this; cases this
        have hm := run_append_lies (P := Try.prog) W 92 92 B 97 i0 _ 5 56 Try.underlying92 hi hz0 hz1 hz2 rfl (by omega) sv qs.length (fl qs) (hF.out.r0 hd) ⟨gb, 0, none⟩ 1 1 [.int .u64 (c.1.toNat : Int), .int .u64 (c.2.1.toNat : Int), .int .u64 (c.2.2.1.toNat : Int), .int .u64 (c.2.2.2.toNat : Int), nv] rfl (World.news_of_block (t := 97) (fr := (0, 0)) (hF.out.b0 hd6 hd).1) (by simp [Value.oneCell']; exact hone) (by omega) (by unfold maxLen; omega) (by omega) (Nat.le_trans hBw hF.out.size) W.heap.size rfl
        have hmm := hm.choose_spec.choose_spec.choose_spec
        generalize hm.choose_spec.choose_spec.choose = W1 at hmm
        generalize hm.choose_spec.choose = cr1 at hmm
        generalize hm.choose = gr1 at hmm
        have hrun := hmm.1
        have HM : Hid (W1.ownsRow B 97 5 (.slice (some ⟨gr1, 0, none⟩) (qs.length + 1) cr1) (qs.length + 1) (fl qs ++ [.int .u64 (c.1.toNat : Int), .int .u64 (c.2.1.toNat : Int), .int .u64 (c.2.2.1.toNat : Int), .int .u64 (c.2.2.2.toNat : Int), nv]) ∧ W.grownBy W1 sv.ownBlock) := ⟨hmm.2.1, hmm.2.2.1⟩
        have HD : Hid (d 10 = false ∧ d 7 = false ∧ d 6 = true ∧ d 4 = true) := ⟨h10, hd, hd6, hd4⟩
        clear hmm hm hB hdep hd hd4 hd6 h10
        intro K hK
        refine rxstep_call_append (sv := sv) (xv := (.slice (some ⟨gb, 0, none⟩) 1 1)) (v := (.slice (some ⟨gr1, 0, none⟩) (qs.length + 1) cr1)) (W1 := W1) (by rfl) _ _ 92 (by rfl) (by simp only [Act.put, List.setIfInBounds_toArray, List.set_cons_zero, List.set_cons_succ]; rfl) (by simp only [Act.put, List.setIfInBounds_toArray, List.set_cons_zero, List.set_cons_succ]; rfl) (by exact hrun) ?_
        simp only [Act.put, List.setIfInBounds_toArray, List.set_cons_zero, List.set_cons_succ]
        refine hK.out _ _ ⟨gb, gr1, cr1, x5, x6, x7, x8, sv, x10, (.slice (some ⟨gb, 0, none⟩) 1 1), (.slice (some ⟨gr1, 0, none⟩) (qs.length + 1) cr1), x13, x14, by simp only [Act.put, List.setIfInBounds_toArray, List.set_cons_zero, List.set_cons_succ], ?_⟩
        have hB := hF.out.below
        have hBW : B ≤ W.heap.size := Nat.le_trans hBw hF.out.size
        have hrow := hF.out.r0 HD.out.2.1
        exact ⟨hB.grown HM.out.2 hBW (rxown_ge hrow), Nat.le_trans hF.out.size HM.out.2.size, hF.out.ints.grown hrow HM.out.2, fun h => hF.out.f0 (by simpa using h), fun h => hF.out.f1 (by simpa using h), fun h => hF.out.f2 (by simpa using h), fun h => hF.out.f3 (by simpa using h), fun h => hF.out.f4 (by simpa using h), fun h => hF.out.f5 (by simpa using h), fun h => hF.out.f6 (by simpa using h), fun _ => rfl, fun h => hF.out.f8 (by simpa using h), fun h => hF.out.f9 (by simpa using h), fun h => by simp at h, fun _ => HM.out.1, fun _ h => by simp at h, fun h => (HM.out.2.block pp (blk_lt (hF.out.p0 (by simpa using h))) (own_tag hrow (hF.out.p0 (by simpa using h)) (by decide))).trans (hF.out.p0 (by simpa using h)), fun h => rxno_way (HD.out.1.symm.trans (by simpa using h)), fun _ => by simpa using HD.out.2.2.1, fun h => rxno_way (HD.out.1.symm.trans (by simpa using h)), fun _ => by simpa using HD.out.2.2.2, fun h => by simp at h, fun h => by simpa using hF.out.g6 (by simpa using h)⟩
      · intro d a W hI hd hdep
        obtain ⟨gb, gr, cr, x5, x6, x7, x8, x9, x10, x11, x12, x13, x14, rfl, hF⟩ := hI
        have hd0 : d 0 = true := rxdep_of hdep 0 (by kernel_rfl)
        have hB := hF.out.below
        obtain rfl := hF.out.f0 hd0
        clear hB hdep hd
        intro K hK
        simp only [Act.put, List.setIfInBounds_toArray, List.set_cons_zero, List.set_cons_succ]
        go_simp
        refine hK.out _ _ ⟨gb, gr, cr, (.pointer (some ⟨pp, 0, none⟩)), x6, x7, x8, x9, x10, x11, x12, (.pointer (some ⟨pp, 0, none⟩)), x14, by simp only [Act.put, List.setIfInBounds_toArray, List.set_cons_zero, List.set_cons_succ], ?_⟩
        have hB := hF.out.below
        exact ⟨hB, hF.out.size, hF.out.ints, fun h => hF.out.f0 (by simpa using h), fun h => hF.out.f1 (by simpa using h), fun h => hF.out.f2 (by simpa using h), fun h => hF.out.f3 (by simpa using h), fun h => hF.out.f4 (by simpa using h), fun h => hF.out.f5 (by simpa using h), fun h => hF.out.f6 (by simpa using h), fun h => hF.out.f7 (by simpa using h), fun _ => rfl, fun h => hF.out.f9 (by simpa using h), fun h => hF.out.r0 (by simpa using h), fun h => hF.out.r1 (by simpa using h), fun h h2 => hF.out.b0 (by simpa using h) (by simpa using h2), fun h => hF.out.p0 (by simpa using h), fun h => hF.out.p1 (by simpa using h), fun h => by simpa using hF.out.g7 (by simpa using h), fun h => by simpa using hF.out.g10 (by simpa using h), fun h => by simpa using hF.out.g4 (by simpa using h), fun h => hF.out.bx (by simpa using h), fun h => by simpa using hF.out.g6 (by simpa using h)⟩
      · intro d a W hI hd hdep
        obtain ⟨gb, gr, cr, x5, x6, x7, x8, x9, x10, x11, x12, x13, x14, rfl, hF⟩ := hI
        have hd8 : d 8 = true := rxdep_of hdep 8 (by kernel_rfl)
        have hB := hF.out.below
        obtain rfl := hF.out.f8 hd8
        clear hB hdep hd
        intro K hK
        simp only [Act.put, List.setIfInBounds_toArray, List.set_cons_zero, List.set_cons_succ]
        go_simp
        refine hK.out _ _ ⟨gb, gr, cr, x5, x6, x7, x8, x9, x10, x11, x12, (.pointer (some ⟨pp, 0, none⟩)), (.pointer (some ⟨pp, 0, none⟩)), by simp only [Act.put, List.setIfInBounds_toArray, List.set_cons_zero, List.set_cons_succ], ?_⟩
        have hB := hF.out.below
        exact ⟨hB, hF.out.size, hF.out.ints, fun h => hF.out.f0 (by simpa using h), fun h => hF.out.f1 (by simpa using h), fun h => hF.out.f2 (by simpa using h), fun h => hF.out.f3 (by simpa using h), fun h => hF.out.f4 (by simpa using h), fun h => hF.out.f5 (by simpa using h), fun h => hF.out.f6 (by simpa using h), fun h => hF.out.f7 (by simpa using h), fun h => hF.out.f8 (by simpa using h), fun _ => rfl, fun h => hF.out.r0 (by simpa using h), fun h => hF.out.r1 (by simpa using h), fun h h2 => hF.out.b0 (by simpa using h) (by simpa using h2), fun h => hF.out.p0 (by simpa using h), fun h => hF.out.p1 (by simpa using h), fun h => by simpa using hF.out.g7 (by simpa using h), fun h => by simpa using hF.out.g10 (by simpa using h), fun h => by simpa using hF.out.g4 (by simpa using h), fun h => hF.out.bx (by simpa using h), fun h => by simpa using hF.out.g6 (by simpa using h)⟩
      · intro d a W hI hd hdep
        obtain ⟨gb, gr, cr, x5, x6, x7, x8, x9, x10, x11, x12, x13, x14, rfl, hF⟩ := hI
        have hd7 : d 7 = true := rxdep_of hdep 7 (by kernel_rfl)
        have hd9 : d 9 = true := rxdep_of hdep 9 (by kernel_rfl)
        have hB := hF.out.below
        obtain rfl := hF.out.f7 hd7
        obtain rfl := hF.out.f9 hd9
        have hp0 := hF.out.p0 hd
        have s0 : W.cell? ⟨pp, 0, none⟩ = some sv := by simp [World.cell?, hp0]
        have s1 : W.frozen? ⟨pp, 0, none⟩ = false := by simp [World.frozen?, hp0]
        have HD : Hid (d 10 = false ∧ d 7 = true) := ⟨hd, hd7⟩
        clear hB hdep hd hp0 hd7 hd9
        intro K hK
        simp only [Act.put, List.setIfInBounds_toArray, List.set_cons_zero, List.set_cons_succ]
        go_simp
        refine hK.out _ _ ⟨gb, gr, cr, x5, x6, x7, x8, x9, x10, x11, (.slice (some ⟨gr, 0, none⟩) (qs.length + 1) cr), x13, (.pointer (some ⟨pp, 0, none⟩)), by simp only [Act.put, List.setIfInBounds_toArray, List.set_cons_zero, List.set_cons_succ], ?_⟩
        have hB := hF.out.below
        have hp0 := hF.out.p0 HD.out.1
        have hr1 := hF.out.r1 HD.out.2
        exact ⟨hB.setCell hBp _, by simpa [World.setCell] using hF.out.size, hF.out.ints.set hp0 (Or.inl rfl) _, fun h => hF.out.f0 (by simpa using h), fun h => hF.out.f1 (by simpa using h), fun h => hF.out.f2 (by simpa using h), fun h => hF.out.f3 (by simpa using h), fun h => hF.out.f4 (by simpa using h), fun h => hF.out.f5 (by simpa using h), fun h => hF.out.f6 (by simpa using h), fun h => hF.out.f7 (by simpa using h), fun h => hF.out.f8 (by simpa using h), fun h => hF.out.f9 (by simpa using h), fun h => rxno_way ((show d 7 = false by simpa using h).symm.trans HD.out.2), fun _ => row_set hr1 hp0 (by decide) _, fun _ h => rxno_way ((show d 7 = false by simpa using h).symm.trans HD.out.2), fun h => by simp at h, fun _ => by simp [World.setCell, Array.getElem?_modify, hp0], fun h => by simpa using hF.out.g7 (by simpa using h), fun _ => by simpa using HD.out.2, fun h => by simpa using hF.out.g4 (by simpa using h), fun h => rxno_way ((show d 7 = false by simpa using h).symm.trans HD.out.2), fun h => by simpa using hF.out.g6 (by simpa using h)⟩
    · intro d a W hI hall
      obtain ⟨gb, gr, cr, x5, x6, x7, x8, x9, x10, x11, x12, x13, x14, rfl, hF⟩ := hI
      simp only [List.length_cons, List.length_nil] at hall
      obtain rfl := hF.out.f0 (hall 0 (by omega))
      obtain rfl := hF.out.f1 (hall 1 (by omega))
      obtain rfl := hF.out.f2 (hall 2 (by omega))
      obtain rfl := hF.out.f3 (hall 3 (by omega))
      obtain rfl := (hF.out.f4 (hall 4 (by omega))).symm
      obtain rfl := hF.out.f5 (hall 5 (by omega))
      obtain rfl := hF.out.f6 (hall 6 (by omega))
      obtain rfl := hF.out.f7 (hall 7 (by omega))
      obtain rfl := hF.out.f8 (hall 8 (by omega))
      obtain rfl := hF.out.f9 (hall 9 (by omega))
      have HF : Hid (Below B wr W ∧ Keep3 wr W ∧ W.ownsRow B 97 5 (.slice (some ⟨gr, 0, none⟩) (qs.length + 1) cr) (qs.length + 1) (fl qs ++ [.int .u64 (c.1.toNat : Int), .int .u64 (c.2.1.toNat : Int), .int .u64 (c.2.2.1.toNat : Int), .int .u64 (c.2.2.2.toNat : Int), nv]) ∧ W.heap[pp]? = some (.cells #[.slice (some ⟨gr, 0, none⟩) (qs.length + 1) cr, f, e] 94)) := ⟨hF.out.below, hF.out.ints, hF.out.r1 (hall 7 (by omega)), hF.out.p1 (hall 10 (by omega))⟩
      clear hF hall
      simp only [Act.put, List.setIfInBounds_toArray, List.set_cons_zero, List.set_cons_succ]
      go_wp2_with fail
      go_meet
      case rel => exact ⟨gr, cr, rfl, HF⟩
  case rest =>
    obtain ⟨gr, cr, rfl, HX⟩ := hcut
    have hc0 : wc.cell? ⟨pp, 0, none⟩ = some (.slice (some ⟨gr, 0, none⟩) (qs.length + 1) cr) := by simp [World.cell?, HX.out.2.2.2]
    go_wp2_with fail
    go_ret
    refine ⟨ret_i64 (by have := HQL.out; simp [this]), ?_, (hb0.mono hBw').trans HX.out.1, (Keep3.refl w).below hb0 |>.trans HX.out.2.1⟩
    have hk : Keep3 w wc := ((Keep3.refl w).below hb0).trans HX.out.2.1
    refine ⟨_, qs ++ [(c, nv)], HX.out.2.2.2, ?_, by simp [HQL.out], fun i h1 h2 => ?_⟩
    · rw [fl_append, List.length_append]; exact HX.out.2.2.1
    · by_cases e1 : i < qs.length
      · obtain ⟨k1, k2⟩ := HN.out.2 i e1 (by have := HQL.out; omega)
        rw [List.getElem_append_left e1, List.getElem_append_left (by have := HQL.out; omega)]
        exact ⟨k1, k2.keep hk⟩
      · have e2 : i = qs.length := by simp at h1; omega
        subst e2
        simp only [List.getElem_append_right (Nat.le_refl _), Nat.sub_self]
        have e3 : (ps ++ [(c, l)])[qs.length]'h2 = (c, l) := by rw [List.getElem_append_right (by have := HQL.out; omega)]; simp [HQL.out]
        rw [e3]
        exact ⟨rfl, HN.out.1.keep hk⟩
end Go.Proofs.Ytgdaegmmapljgaa
