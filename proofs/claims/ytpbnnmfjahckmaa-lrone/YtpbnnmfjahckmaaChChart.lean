/-
  The contract of chartOf: what it lays, and that all pieces are settled.
-/
import Derived.Test.YtpbnnmfjahckmaaChSettle
namespace Go.Proofs.Ytpbnnmfjahckmaa
open Go.RowKit
open Cg

theorem info125 : (Try.prog.info? 125).map (fun i => (i.zero, i.size, i.bytes)) = some (some (.agg (Array.replicate 441 (.int .u8 0))), 441, 441) := by kernel_rfl
theorem info118 : (Try.prog.info? 118).map (fun i => (i.zero, i.size, i.bytes)) = some (some (.slice none 0 0), 1, 24) := by kernel_rfl
theorem made_sqs (n : Nat) : madeCells (Array.replicate 441 (Value.int .u8 0)) (n * 441) = Array.replicate (n * 441) (Value.int .u8 0) := by
  apply Array.ext
  · simp [madeCells]
  · intro i h1 h2
    have h3 : i % 441 < 441 := Nat.mod_lt _ (by omega)
    simp only [madeCells, Array.getElem_map, Array.getElem_range, Array.size_replicate, Array.getElem_replicate]
    rw [getElem!_pos _ _ (by simpa using h3)]
    simp
theorem make_sqs (n : Nat) (hn : 0 < n ∧ n ≤ 200) (w : World) : (Instr.makeSlice 118 (.int .i64 (n : Int)) (.int .i64 (n : Int))).run Try.prog w = .ok (.slice (some ⟨w.heap.size, 0, none⟩) n n) (w.alloc (.cells (Array.replicate (n * 441) (Value.int .u8 0)) 125)) := by
  obtain ⟨i, hi, hz, hs, hb⟩ := info_parts info125
  have := run_make (P := Try.prog) w 118 125 i _ Try.underlying118 hi hz .i64 .i64 (n : Int) (n : Int) (by omega) (Int.le_refl _) (by rw [hb]; omega) (by omega)
  rw [this, hs]
  simp only [Int.toNat_natCast, Value.cells]
  rw [made_sqs]
theorem sqs_made (w : World) (n : Nat) : (w.alloc (.cells (Array.replicate (n * 441) (Value.int .u8 0)) 125)).rowIs w.heap.size 125 (n * 441) (fun _ => .int .u8 0) := by
  have := World.rowIs_alloc w (Array.replicate (n * 441) (Value.int .u8 0)) 125 (fun _ => .int .u8 0) (fun i hi => by simp at hi; simp [hi])
  simpa using this
theorem frozen_of_block {w w' : World} {b : Nat} (h : w'.heap[b]? = w.heap[b]?) (i : Nat) : w'.frozen? ⟨b, i, none⟩ = w.frozen? ⟨b, i, none⟩ := by simp [World.frozen?, h]
/-- A chart in the making: k productions have their rows. -/
structure Cp (w0 : World) (y : Lay) (t : Int) (n : Nat) (pv wv : Value) (ps : List Pd) (op : Bool) (k : Nat) (W : World) : Prop where
  bel : Below w0.heap.size w0 W
  box : W.heap[y.q]? = some (.cells #[.int .i64 t, .int .i64 (n : Int), pv, wv, .bool op, .slice (some ⟨y.bn, 0, none⟩) n n, .slice (some ⟨y.bb, 0, none⟩) ps.length ps.length] 121)
  nons : W.rowIs y.bn 125 (n * 441) (fun _ => .int .u8 0)
  bods : W.rowIs y.bb 118 ps.length (fun p => if p < k then .slice (some ⟨y.bs p, 0, none⟩) ((ps.getD p (0, [])).2.length + 1) ((ps.getD p (0, [])).2.length + 1) else .slice none 0 0)
  body : ∀ p, p < k → W.rowIs (y.bs p) 125 (((ps.getD p (0, [])).2.length + 1) * 441) (fun _ => .int .u8 0)
  oq : w0.heap.size ≤ y.q
  on : w0.heap.size ≤ y.bn
  ob : w0.heap.size ≤ y.bb
  os : ∀ p, p < k → w0.heap.size ≤ y.bs p
  qn : y.q ≠ y.bn
  qb : y.q ≠ y.bb
  nb : y.bn ≠ y.bb
  qs : ∀ p, p < k → y.bs p ≠ y.q ∧ y.bs p ≠ y.bn ∧ y.bs p ≠ y.bb
  ss : ∀ p p', p < k → p' < k → y.bs p = y.bs p' → p = p'
section
variable {w0 : World} {y : Lay} {t : Int} {n : Nat} {pv wv : Value} {ps : List Pd} {op : Bool} {k : Nat} {W W' : World}
theorem Cp.ls (h : Cp w0 y t n pv wv ps op k W) : y.q < W.heap.size ∧ y.bn < W.heap.size ∧ y.bb < W.heap.size := ⟨heap_lt3 h.box, h.nons.lt, h.bods.lt⟩
theorem Cp.next (h : Cp w0 y t n pv wv ps op k W) (hb : Below W.heap.size W W') : Cp w0 y t n pv wv ps op k W' :=
  ⟨h.bel.trans (hb.mono h.bel.size), (hb.block _ (heap_lt3 h.box)).trans h.box, h.nons.of_block (hb.block _ h.nons.lt), h.bods.of_block (hb.block _ h.bods.lt), fun p hp => (h.body p hp).of_block (hb.block _ (h.body p hp).lt), h.oq, h.on, h.ob, h.os, h.qn, h.qb, h.nb, h.qs, h.ss⟩
theorem Cp.push (h : Cp w0 y t n pv wv ps op k W) {gs : Nat} (hg : w0.heap.size ≤ gs) (h1 : gs ≠ y.q) (h2 : gs ≠ y.bn) (h3 : gs ≠ y.bb) (h4 : ∀ p, p < k → gs ≠ y.bs p) (hr : W.rowIs gs 125 (((ps.getD k (0, [])).2.length + 1) * 441) (fun _ => .int .u8 0)) :
    Cp w0 ⟨y.q, y.bn, y.bb, fun p => if p = k then gs else y.bs p⟩ t n pv wv ps op (k + 1) (W.setCell ⟨y.bb, k, none⟩ (.slice (some ⟨gs, 0, none⟩) ((ps.getD k (0, [])).2.length + 1) ((ps.getD k (0, [])).2.length + 1))) := by
  refine ⟨?_, ?_, h.nons.setOther h.nb _, (h.bods.set k _).congr fun p hp => ?_, fun p hp => ?_, h.oq, h.on, h.ob, fun p hp => ?_, h.qn, h.qb, h.nb, fun p hp => ?_, fun p p' hp hp' => ?_⟩
  · exact h.bel.trans ⟨rfl, rfl, rfl, by simp, fun j hj => Go.Deep.blk_setCell_other _ _ _ _ fun e => by have := h.ob; have e2 : j = y.bb := e; omega⟩
  · rw [Go.Deep.blk_setCell_other _ _ _ _ h.qb]; exact h.box
  · show _ = if p < k + 1 then Value.slice (some ⟨if p = k then gs else y.bs p, 0, none⟩) _ _ else _
    by_cases e : p = k
    · subst e; rw [if_pos rfl, if_pos (by omega), if_pos rfl]
    · rw [if_neg e, if_neg e]
      by_cases e2 : p < k
      · rw [if_pos e2, if_pos (by omega)]
      · rw [if_neg e2, if_neg (by omega)]
  · show World.rowIs _ (if p = k then gs else y.bs p) _ _ _
    by_cases e : p = k
    · subst e; rw [if_pos rfl]; exact hr.setOther h3 _
    · rw [if_neg e]; exact (h.body p (by omega)).setOther (h.qs p (by omega)).2.2 _
  · show w0.heap.size ≤ if p = k then gs else y.bs p
    split; exact hg; exact h.os p (by omega)
  · show (if p = k then gs else y.bs p) ≠ _ ∧ (if p = k then gs else y.bs p) ≠ _ ∧ (if p = k then gs else y.bs p) ≠ _
    split; exact ⟨h1, h2, h3⟩; exact h.qs p (by omega)
  · show (if p = k then gs else y.bs p) = (if p' = k then gs else y.bs p') → _
    by_cases e : p = k
    · by_cases e' : p' = k
      · intro _; omega
      · rw [if_pos e, if_neg e']; exact fun e2 => absurd e2 (h4 p' (by omega))
    · by_cases e' : p' = k
      · rw [if_neg e, if_pos e']; exact fun e2 => absurd e2.symm (h4 p (by omega))
      · rw [if_neg e, if_neg e']; exact h.ss p p' (by omega) (by omega)
theorem Cp.whole (h : Cp w0 y t n pv wv ps op ps.length W) (ws : List Int) : Ch w0 y t n pv wv ps ws op (fun _ _ _ => 0) (fun _ _ _ _ => 0) W :=
  ⟨h.bel, h.box, h.nons.congr fun i _ => rfl, h.bods.congr fun p hp => by rw [if_pos hp], fun p hp => (h.body p hp).congr fun i _ => rfl, h.oq, h.on, h.ob, h.os, h.qn, h.qb, h.nb, h.qs, h.ss⟩
end
structure RC1 (w1 : World) (g0 : Nat) (t : Int) (n m : Nat) (pao : Option Addr) (pc : Nat) (wv : Value) (op : Bool) (bn : Nat) (bb : Nat) (q : Nat) (d : Nat → Bool) (x7 x12 x13 x14 x15 x16 x17 x18 x19 x20 x21 x22 x23 : Value) (W : World) : Prop where
  f0 : d 0 = true → x12 = (.agg #[.int .i64 t, .int .i64 (n : Int), .slice pao m pc])
  f1 : d 1 = true → wv = x13
  f2 : d 2 = true → x14 = (.bool op)
  f3 : d 3 = true → x15 = (.pointer (some ⟨g0, 1, none⟩))
  f4 : d 4 = true → x16 = (.int .i64 (n : Int))
  f5 : d 5 = true → x17 = (.slice (some ⟨bn, 0, none⟩) n n)
  f6 : d 6 = true → x18 = (.pointer (some ⟨g0, 2, none⟩))
  f7 : d 7 = true → x19 = (.slice pao m pc)
  f8 : d 8 = true → x20 = (.int .i64 (m : Int))
  f9 : d 9 = true → x21 = (.slice (some ⟨bb, 0, none⟩) m m)
  f10 : d 10 = true → x22 = (.agg #[.int .i64 t, .int .i64 (n : Int), .slice pao m pc, wv, .bool op, .slice (some ⟨bn, 0, none⟩) n n, .slice (some ⟨bb, 0, none⟩) m m])
  f11 : d 11 = true → x23 = (.pointer (some ⟨q, 0, none⟩))
  f12 : d 12 = true → x7 = (.pointer (some ⟨q, 0, none⟩))
  o10_5 : d 10 = true → d 5 = true
  o10_9 : d 10 = true → d 9 = true
  o11_5 : d 11 = true → d 5 = true
  o11_9 : d 11 = true → d 9 = true
  o12_11 : d 12 = true → d 11 = true
  bl : Below w1.heap.size w1 W
  mn : d 5 = true → w1.heap.size ≤ bn ∧ W.rowIs bn 125 (n * 441) (fun _ => .int .u8 0)
  mb : d 9 = true → w1.heap.size ≤ bb ∧ W.rowIs bb 118 m (fun _ => .slice none 0 0)
  nb : d 5 = true → d 9 = true → bn ≠ bb
  bx : d 11 = true → w1.heap.size ≤ q ∧ W.heap[q]? = some (.cells #[.int .i64 t, .int .i64 (n : Int), .slice pao m pc, wv, .bool op, .slice (some ⟨bn, 0, none⟩) n n, .slice (some ⟨bb, 0, none⟩) m m] 121) ∧ q ≠ bn ∧ q ≠ bb
structure RC5 (wr : World) (q bb gp k m bl : Nat) (uo : Option Addr) (uc : Nat) (gs : Nat) (d : Nat → Bool) (x32 x33 x34 x35 x36 x37 x38 x39 x40 x41 x42 : Value) (W : World) : Prop where
  f0 : d 0 = true → x32 = (.pointer (some ⟨q, 0, none⟩))
  f1 : d 1 = true → x33 = (.pointer (some ⟨q, 0, none⟩))
  f2 : d 2 = true → x34 = (.pointer (some ⟨q, 6, none⟩))
  f3 : d 3 = true → x35 = (.slice (some ⟨bb, 0, none⟩) m m)
  f4 : d 4 = true → x36 = (.int .i64 (k : Int))
  f5 : d 5 = true → x37 = (.pointer (some ⟨gp, 1, none⟩))
  f6 : d 6 = true → x38 = (.slice uo bl uc)
  f7 : d 7 = true → x39 = (.int .i64 (bl : Int))
  f8 : d 8 = true → x40 = (.int .i64 ((bl : Int) + 1))
  f9 : d 9 = true → x41 = (.slice (some ⟨gs, 0, none⟩) (bl + 1) (bl + 1))
  f10 : d 10 = true → x42 = (.pointer (some ⟨bb, k, none⟩))
  f11 : d 11 = true → True
  p0 : d 11 = true → d 0 = true
  p1 : d 11 = true → d 1 = true
  p2 : d 11 = true → d 2 = true
  p3 : d 11 = true → d 3 = true
  p4 : d 11 = true → d 4 = true
  p5 : d 11 = true → d 5 = true
  p6 : d 11 = true → d 6 = true
  p7 : d 11 = true → d 7 = true
  p8 : d 11 = true → d 8 = true
  p9 : d 11 = true → d 9 = true
  p10 : d 11 = true → d 10 = true
  bw : d 11 = false → Below wr.heap.size wr W
  mn : d 9 = true → d 11 = false → wr.heap.size ≤ gs ∧ W.rowIs gs 125 ((bl + 1) * 441) (fun _ => .int .u8 0)
  fin : d 11 = true → ∃ W6, Below wr.heap.size wr W6 ∧ wr.heap.size ≤ gs ∧ W6.rowIs gs 125 ((bl + 1) * 441) (fun _ => .int .u8 0) ∧ W = W6.setCell ⟨bb, k, none⟩ (.slice (some ⟨gs, 0, none⟩) (bl + 1) (bl + 1))

/-- What chartOf answers: all pieces are settled. -/
def ChartP (w : World) (t : Int) (n : Nat) (pv wv : Value) (ps : List Pd) (ws : List Int) (op : Bool) (y : Lay) (W : World) : Prop := ∃ N B, Ch w y t n pv wv ps ws op N B W ∧ Lst (lf op ws) ps (ws.length + 1) N ∧ ∀ p k i j, p < ps.length → k ≤ (ps.getD p (0, [])).2.length → i ≤ j → j < ws.length + 1 → B p k i j = vB ps (ws.length + 1) (on1 (lf op ws) N) p i j k

set_option maxHeartbeats 8000000 in
set_option maxRecDepth 20000 in
theorem chartOf_any (t : Int) (n : Nat) (pv wv : Value) (ps : List Pd) (ws : List Int) (op : Bool) (w : World) (rc : Rc w t n pv wv ps ws) :
    Calls Try.prog 38 #[.agg #[.int .i64 t, .int .i64 (n : Int), pv], wv, .bool op] w fun e w' => ∃ y, e = .returned (.pointer (some ⟨y.q, 0, none⟩)) ∧ ChartP w t n pv wv ps ws op y w' := by
  have hwl := rc.wl
  have hnl := rc.nl
  have hpl := rc.pl
  have HRC : Hid (Rc w t n pv wv ps ws) := rc
  have HN : Hid (0 < n ∧ n ≤ 200) := ⟨hnl.1, by omega⟩
  have HM : Hid (ps.length ≤ 40) := hpl
  obtain ⟨pao, pc, rfl, hpm, -⟩ := id rc.pds
  obtain ⟨wao, wc, rfl, hwm, -⟩ := id rc.wrd
  have c0 : (w.alloc (Obj.cells #[.int .i64 t, .int .i64 (n : Int), (.slice pao ps.length pc)] 24)).cell? ⟨w.heap.size, 0, none⟩ = some (.int .i64 t) := cell_new w _ 24 0
  have c1 : (w.alloc (Obj.cells #[.int .i64 t, .int .i64 (n : Int), (.slice pao ps.length pc)] 24)).cell? ⟨w.heap.size, 1, none⟩ = some (.int .i64 (n : Int)) := cell_new w _ 24 1
  have c2 : (w.alloc (Obj.cells #[.int .i64 t, .int .i64 (n : Int), (.slice pao ps.length pc)] 24)).cell? ⟨w.heap.size, 2, none⟩ = some (.slice pao ps.length pc) := cell_new w _ 24 2
  have HW1 : Hid (Below w.heap.size w (w.alloc (Obj.cells #[.int .i64 t, .int .i64 (n : Int), (.slice pao ps.length pc)] 24))) := below_alloc _ _
  have hg : w.heap.size < (w.alloc (Obj.cells #[.int .i64 t, .int .i64 (n : Int), (.slice pao ps.length pc)] 24)).heap.size := by simp
  go_enter Try.func38, Try.ntmps38
  go_upto_region 1 with fail
  obtain ⟨g0, HG0⟩ : ∃ g0, Hid (w.heap.size = g0) := ⟨_, (rfl : w.heap.size = w.heap.size)⟩
  generalize w.alloc (Obj.cells #[.int .i64 t, .int .i64 (n : Int), (.slice pao ps.length pc)] 24) = w1 at c0 c1 c2 HW1 hg ⊢
  rw [HG0.out] at c0 c1 c2 hg ⊢
  clear rc
  refine wp_region_free mixed (fun a0 d a W => ∃ (bn : Nat) (bb : Nat) (q : Nat) (x7 x12 x13 x14 x15 x16 x17 x18 x19 x20 x21 x22 x23 : Value), a = (((((((((((((a0.put (some 7) x7).put (some 12) x12).put (some 13) x13).put (some 14) x14).put (some 15) x15).put (some 16) x16).put (some 17) x17).put (some 18) x18).put (some 19) x19).put (some 20) x20).put (some 21) x21).put (some 22) x22).put (some 23) x23) ∧ Hid (RC1 w1 g0 t n ps.length pao pc (.slice wao ws.length wc) op bn bb q d x7 x12 x13 x14 x15 x16 x17 x18 x19 x20 x21 x22 x23 W)) (by kernel_rfl) ⟨0, 0, 0, undef, undef, undef, undef, undef, undef, undef, undef, undef, undef, undef, undef, undef, by simp only [Act.put, List.setIfInBounds_toArray, List.set_cons_zero, List.set_cons_succ], ?_⟩ ?_ ?_
  · exact ⟨fun h => no_way h, fun h => no_way h, fun h => no_way h, fun h => no_way h, fun h => no_way h, fun h => no_way h, fun h => no_way h, fun h => no_way h, fun h => no_way h, fun h => no_way h, fun h => no_way h, fun h => no_way h, fun h => no_way h, fun h => no_way h, fun h => no_way h, fun h => no_way h, fun h => no_way h, fun h => no_way h, ⟨rfl, rfl, rfl, Nat.le_refl _, fun _ _ => rfl⟩, fun h => no_way h, fun h => no_way h, fun h => no_way h, fun h => no_way h⟩
  · simp only [StepAll, and_true]
    refine ⟨?_, ?_, ?_, ?_, ?_, ?_, ?_, ?_, ?_, ?_, ?_, ?_, ?_⟩
    · intro d a W hI hd hdep
      obtain ⟨bn, bb, q, x7, x12, x13, x14, x15, x16, x17, x18, x19, x20, x21, x22, x23, rfl, hF⟩ := hI
      have hbl := hF.out.bl
      have y0 := (hbl.cell (p := ⟨g0, 0, none⟩) hg).trans c0
      have y1 := (hbl.cell (p := ⟨g0, 1, none⟩) hg).trans c1
      have y2 := (hbl.cell (p := ⟨g0, 2, none⟩) hg).trans c2
      clear hdep hd
      intro K hK
      simp only [Act.put, List.setIfInBounds_toArray, List.set_cons_zero, List.set_cons_succ]
      go_simp
      refine hK.out _ _ ⟨bn, bb, q, x7, (.agg #[.int .i64 t, .int .i64 (n : Int), .slice pao ps.length pc]), x13, x14, x15, x16, x17, x18, x19, x20, x21, x22, x23, by simp only [Act.put, List.setIfInBounds_toArray, List.set_cons_zero, List.set_cons_succ], ?_⟩
      exact ⟨fun _ => rfl, fun h => hF.out.f1 (by simpa using h), fun h => hF.out.f2 (by simpa using h), fun h => hF.out.f3 (by simpa using h), fun h => hF.out.f4 (by simpa using h), fun h => hF.out.f5 (by simpa using h), fun h => hF.out.f6 (by simpa using h), fun h => hF.out.f7 (by simpa using h), fun h => hF.out.f8 (by simpa using h), fun h => hF.out.f9 (by simpa using h), fun h => hF.out.f10 (by simpa using h), fun h => hF.out.f11 (by simpa using h), fun h => hF.out.f12 (by simpa using h), fun h => by have := hF.out.o10_5 (by simpa using h); simpa using this, fun h => by have := hF.out.o10_9 (by simpa using h); simpa using this, fun h => by have := hF.out.o11_5 (by simpa using h); simpa using this, fun h => by have := hF.out.o11_9 (by simpa using h); simpa using this, fun h => by have := hF.out.o12_11 (by simpa using h); simpa using this, hF.out.bl, fun h => hF.out.mn (by simpa using h), fun h => hF.out.mb (by simpa using h), fun h k => hF.out.nb (by simpa using h) (by simpa using k), fun h => hF.out.bx (by simpa using h)⟩
    · intro d a W hI hd hdep
      obtain ⟨bn, bb, q, x7, x12, x13, x14, x15, x16, x17, x18, x19, x20, x21, x22, x23, rfl, hF⟩ := hI
      clear hdep hd
      intro K hK
      simp only [Act.put, List.setIfInBounds_toArray, List.set_cons_zero, List.set_cons_succ]
      go_simp
      refine hK.out _ _ ⟨bn, bb, q, x7, x12, (.slice wao ws.length wc), x14, x15, x16, x17, x18, x19, x20, x21, x22, x23, by simp only [Act.put, List.setIfInBounds_toArray, List.set_cons_zero, List.set_cons_succ], ?_⟩
      exact ⟨fun h => hF.out.f0 (by simpa using h), fun _ => rfl, fun h => hF.out.f2 (by simpa using h), fun h => hF.out.f3 (by simpa using h), fun h => hF.out.f4 (by simpa using h), fun h => hF.out.f5 (by simpa using h), fun h => hF.out.f6 (by simpa using h), fun h => hF.out.f7 (by simpa using h), fun h => hF.out.f8 (by simpa using h), fun h => hF.out.f9 (by simpa using h), fun h => hF.out.f10 (by simpa using h), fun h => hF.out.f11 (by simpa using h), fun h => hF.out.f12 (by simpa using h), fun h => by have := hF.out.o10_5 (by simpa using h); simpa using this, fun h => by have := hF.out.o10_9 (by simpa using h); simpa using this, fun h => by have := hF.out.o11_5 (by simpa using h); simpa using this, fun h => by have := hF.out.o11_9 (by simpa using h); simpa using this, fun h => by have := hF.out.o12_11 (by simpa using h); simpa using this, hF.out.bl, fun h => hF.out.mn (by simpa using h), fun h => hF.out.mb (by simpa using h), fun h k => hF.out.nb (by simpa using h) (by simpa using k), fun h => hF.out.bx (by simpa using h)⟩
    · intro d a W hI hd hdep
      obtain ⟨bn, bb, q, x7, x12, x13, x14, x15, x16, x17, x18, x19, x20, x21, x22, x23, rfl, hF⟩ := hI
      clear hdep hd
      intro K hK
      simp only [Act.put, List.setIfInBounds_toArray, List.set_cons_zero, List.set_cons_succ]
      go_simp
      refine hK.out _ _ ⟨bn, bb, q, x7, x12, x13, (.bool op), x15, x16, x17, x18, x19, x20, x21, x22, x23, by simp only [Act.put, List.setIfInBounds_toArray, List.set_cons_zero, List.set_cons_succ], ?_⟩
      exact ⟨fun h => hF.out.f0 (by simpa using h), fun h => hF.out.f1 (by simpa using h), fun _ => rfl, fun h => hF.out.f3 (by simpa using h), fun h => hF.out.f4 (by simpa using h), fun h => hF.out.f5 (by simpa using h), fun h => hF.out.f6 (by simpa using h), fun h => hF.out.f7 (by simpa using h), fun h => hF.out.f8 (by simpa using h), fun h => hF.out.f9 (by simpa using h), fun h => hF.out.f10 (by simpa using h), fun h => hF.out.f11 (by simpa using h), fun h => hF.out.f12 (by simpa using h), fun h => by have := hF.out.o10_5 (by simpa using h); simpa using this, fun h => by have := hF.out.o10_9 (by simpa using h); simpa using this, fun h => by have := hF.out.o11_5 (by simpa using h); simpa using this, fun h => by have := hF.out.o11_9 (by simpa using h); simpa using this, fun h => by have := hF.out.o12_11 (by simpa using h); simpa using this, hF.out.bl, fun h => hF.out.mn (by simpa using h), fun h => hF.out.mb (by simpa using h), fun h k => hF.out.nb (by simpa using h) (by simpa using k), fun h => hF.out.bx (by simpa using h)⟩
    · intro d a W hI hd hdep
      obtain ⟨bn, bb, q, x7, x12, x13, x14, x15, x16, x17, x18, x19, x20, x21, x22, x23, rfl, hF⟩ := hI
      clear hdep hd
      intro K hK
      simp only [Act.put, List.setIfInBounds_toArray, List.set_cons_zero, List.set_cons_succ]
      go_simp
      refine hK.out _ _ ⟨bn, bb, q, x7, x12, x13, x14, (.pointer (some ⟨g0, 1, none⟩)), x16, x17, x18, x19, x20, x21, x22, x23, by simp only [Act.put, List.setIfInBounds_toArray, List.set_cons_zero, List.set_cons_succ], ?_⟩
      exact ⟨fun h => hF.out.f0 (by simpa using h), fun h => hF.out.f1 (by simpa using h), fun h => hF.out.f2 (by simpa using h), fun _ => rfl, fun h => hF.out.f4 (by simpa using h), fun h => hF.out.f5 (by simpa using h), fun h => hF.out.f6 (by simpa using h), fun h => hF.out.f7 (by simpa using h), fun h => hF.out.f8 (by simpa using h), fun h => hF.out.f9 (by simpa using h), fun h => hF.out.f10 (by simpa using h), fun h => hF.out.f11 (by simpa using h), fun h => hF.out.f12 (by simpa using h), fun h => by have := hF.out.o10_5 (by simpa using h); simpa using this, fun h => by have := hF.out.o10_9 (by simpa using h); simpa using this, fun h => by have := hF.out.o11_5 (by simpa using h); simpa using this, fun h => by have := hF.out.o11_9 (by simpa using h); simpa using this, fun h => by have := hF.out.o12_11 (by simpa using h); simpa using this, hF.out.bl, fun h => hF.out.mn (by simpa using h), fun h => hF.out.mb (by simpa using h), fun h k => hF.out.nb (by simpa using h) (by simpa using k), fun h => hF.out.bx (by simpa using h)⟩
    · intro d a W hI hd hdep
      obtain ⟨bn, bb, q, x7, x12, x13, x14, x15, x16, x17, x18, x19, x20, x21, x22, x23, rfl, hF⟩ := hI
      have hd3 : d 3 = true := dep_of hdep 3 (by kernel_rfl)
      obtain rfl := hF.out.f3 hd3
      have hbl := hF.out.bl
      have y1 := (hbl.cell (p := ⟨g0, 1, none⟩) hg).trans c1
      clear hdep hd hd3
      intro K hK
      simp only [Act.put, List.setIfInBounds_toArray, List.set_cons_zero, List.set_cons_succ]
      go_simp
      refine hK.out _ _ ⟨bn, bb, q, x7, x12, x13, x14, (.pointer (some ⟨g0, 1, none⟩)), (.int .i64 (n : Int)), x17, x18, x19, x20, x21, x22, x23, by simp only [Act.put, List.setIfInBounds_toArray, List.set_cons_zero, List.set_cons_succ], ?_⟩
      exact ⟨fun h => hF.out.f0 (by simpa using h), fun h => hF.out.f1 (by simpa using h), fun h => hF.out.f2 (by simpa using h), fun h => hF.out.f3 (by simpa using h), fun _ => rfl, fun h => hF.out.f5 (by simpa using h), fun h => hF.out.f6 (by simpa using h), fun h => hF.out.f7 (by simpa using h), fun h => hF.out.f8 (by simpa using h), fun h => hF.out.f9 (by simpa using h), fun h => hF.out.f10 (by simpa using h), fun h => hF.out.f11 (by simpa using h), fun h => hF.out.f12 (by simpa using h), fun h => by have := hF.out.o10_5 (by simpa using h); simpa using this, fun h => by have := hF.out.o10_9 (by simpa using h); simpa using this, fun h => by have := hF.out.o11_5 (by simpa using h); simpa using this, fun h => by have := hF.out.o11_9 (by simpa using h); simpa using this, fun h => by have := hF.out.o12_11 (by simpa using h); simpa using this, hF.out.bl, fun h => hF.out.mn (by simpa using h), fun h => hF.out.mb (by simpa using h), fun h k => hF.out.nb (by simpa using h) (by simpa using k), fun h => hF.out.bx (by simpa using h)⟩
    · intro d a W hI hd hdep
      obtain ⟨bn, bb, q, x7, x12, x13, x14, x15, x16, x17, x18, x19, x20, x21, x22, x23, rfl, hF⟩ := hI
      have hd4 : d 4 = true := dep_of hdep 4 (by kernel_rfl)
      obtain rfl := hF.out.f4 hd4
      have hmk := make_sqs n HN.out
      have HD : Hid (d 10 = false) := no_later hF.out.o10_5 hd
      have HD9 : Hid (d 11 = false) := no_later hF.out.o11_5 hd
      have B1 := (Below.refl W.heap.size W).alloc (Nat.le_refl _) (Obj.cells (Array.replicate (n * 441) (Value.int .u8 0)) 125)
      clear hdep hd hd4
      intro K hK
      simp only [Act.put, List.setIfInBounds_toArray, List.set_cons_zero, List.set_cons_succ]
      go_simp
      refine hK.out _ _ ⟨W.heap.size, bb, q, x7, x12, x13, x14, x15, (.int .i64 (n : Int)), (.slice (some ⟨W.heap.size, 0, none⟩) n n), x18, x19, x20, x21, x22, x23, by simp only [Act.put, List.setIfInBounds_toArray, List.set_cons_zero, List.set_cons_succ], ?_⟩
      exact ⟨fun h => hF.out.f0 (by simpa using h), fun h => hF.out.f1 (by simpa using h), fun h => hF.out.f2 (by simpa using h), fun h => hF.out.f3 (by simpa using h), fun h => hF.out.f4 (by simpa using h), fun _ => rfl, fun h => hF.out.f6 (by simpa using h), fun h => hF.out.f7 (by simpa using h), fun h => hF.out.f8 (by simpa using h), fun h => hF.out.f9 (by simpa using h), fun h => by have := HD.out; simp [this] at h, fun h => hF.out.f11 (by simpa using h), fun h => hF.out.f12 (by simpa using h), fun _ => by simp, fun h => by have := hF.out.o10_9 (by simpa using h); simpa using this, fun _ => by simp, fun h => by have := hF.out.o11_9 (by simpa using h); simpa using this, fun h => by have := hF.out.o12_11 (by simpa using h); simpa using this, hF.out.bl.trans (B1.mono hF.out.bl.size), fun _ => ⟨hF.out.bl.size, sqs_made W n⟩, fun h => have k := hF.out.mb (by simpa using h); ⟨k.1, k.2.alloc _⟩, fun _ k => by have := (hF.out.mb (by simpa using k)).2.lt; omega, fun h => by have := HD9.out; simp [this] at h⟩
    · intro d a W hI hd hdep
      obtain ⟨bn, bb, q, x7, x12, x13, x14, x15, x16, x17, x18, x19, x20, x21, x22, x23, rfl, hF⟩ := hI
      clear hdep hd
      intro K hK
      simp only [Act.put, List.setIfInBounds_toArray, List.set_cons_zero, List.set_cons_succ]
      go_simp
      refine hK.out _ _ ⟨bn, bb, q, x7, x12, x13, x14, x15, x16, x17, (.pointer (some ⟨g0, 2, none⟩)), x19, x20, x21, x22, x23, by simp only [Act.put, List.setIfInBounds_toArray, List.set_cons_zero, List.set_cons_succ], ?_⟩
      exact ⟨fun h => hF.out.f0 (by simpa using h), fun h => hF.out.f1 (by simpa using h), fun h => hF.out.f2 (by simpa using h), fun h => hF.out.f3 (by simpa using h), fun h => hF.out.f4 (by simpa using h), fun h => hF.out.f5 (by simpa using h), fun _ => rfl, fun h => hF.out.f7 (by simpa using h), fun h => hF.out.f8 (by simpa using h), fun h => hF.out.f9 (by simpa using h), fun h => hF.out.f10 (by simpa using h), fun h => hF.out.f11 (by simpa using h), fun h => hF.out.f12 (by simpa using h), fun h => by have := hF.out.o10_5 (by simpa using h); simpa using this, fun h => by have := hF.out.o10_9 (by simpa using h); simpa using this, fun h => by have := hF.out.o11_5 (by simpa using h); simpa using this, fun h => by have := hF.out.o11_9 (by simpa using h); simpa using this, fun h => by have := hF.out.o12_11 (by simpa using h); simpa using this, hF.out.bl, fun h => hF.out.mn (by simpa using h), fun h => hF.out.mb (by simpa using h), fun h k => hF.out.nb (by simpa using h) (by simpa using k), fun h => hF.out.bx (by simpa using h)⟩
    · intro d a W hI hd hdep
      obtain ⟨bn, bb, q, x7, x12, x13, x14, x15, x16, x17, x18, x19, x20, x21, x22, x23, rfl, hF⟩ := hI
      have hd6 : d 6 = true := dep_of hdep 6 (by kernel_rfl)
      obtain rfl := hF.out.f6 hd6
      have hbl := hF.out.bl
      have y2 := (hbl.cell (p := ⟨g0, 2, none⟩) hg).trans c2
      clear hdep hd hd6
      intro K hK
      simp only [Act.put, List.setIfInBounds_toArray, List.set_cons_zero, List.set_cons_succ]
      go_simp
      refine hK.out _ _ ⟨bn, bb, q, x7, x12, x13, x14, x15, x16, x17, (.pointer (some ⟨g0, 2, none⟩)), (.slice pao ps.length pc), x20, x21, x22, x23, by simp only [Act.put, List.setIfInBounds_toArray, List.set_cons_zero, List.set_cons_succ], ?_⟩
      exact ⟨fun h => hF.out.f0 (by simpa using h), fun h => hF.out.f1 (by simpa using h), fun h => hF.out.f2 (by simpa using h), fun h => hF.out.f3 (by simpa using h), fun h => hF.out.f4 (by simpa using h), fun h => hF.out.f5 (by simpa using h), fun h => hF.out.f6 (by simpa using h), fun _ => rfl, fun h => hF.out.f8 (by simpa using h), fun h => hF.out.f9 (by simpa using h), fun h => hF.out.f10 (by simpa using h), fun h => hF.out.f11 (by simpa using h), fun h => hF.out.f12 (by simpa using h), fun h => by have := hF.out.o10_5 (by simpa using h); simpa using this, fun h => by have := hF.out.o10_9 (by simpa using h); simpa using this, fun h => by have := hF.out.o11_5 (by simpa using h); simpa using this, fun h => by have := hF.out.o11_9 (by simpa using h); simpa using this, fun h => by have := hF.out.o12_11 (by simpa using h); simpa using this, hF.out.bl, fun h => hF.out.mn (by simpa using h), fun h => hF.out.mb (by simpa using h), fun h k => hF.out.nb (by simpa using h) (by simpa using k), fun h => hF.out.bx (by simpa using h)⟩
    · intro d a W hI hd hdep
      obtain ⟨bn, bb, q, x7, x12, x13, x14, x15, x16, x17, x18, x19, x20, x21, x22, x23, rfl, hF⟩ := hI
      have hd7 : d 7 = true := dep_of hdep 7 (by kernel_rfl)
      obtain rfl := hF.out.f7 hd7
      clear hdep hd hd7
      intro K hK
      simp only [Act.put, List.setIfInBounds_toArray, List.set_cons_zero, List.set_cons_succ]
      go_simp
      refine hK.out _ _ ⟨bn, bb, q, x7, x12, x13, x14, x15, x16, x17, x18, (.slice pao ps.length pc), (.int .i64 (ps.length : Int)), x21, x22, x23, by simp only [Act.put, List.setIfInBounds_toArray, List.set_cons_zero, List.set_cons_succ], ?_⟩
      exact ⟨fun h => hF.out.f0 (by simpa using h), fun h => hF.out.f1 (by simpa using h), fun h => hF.out.f2 (by simpa using h), fun h => hF.out.f3 (by simpa using h), fun h => hF.out.f4 (by simpa using h), fun h => hF.out.f5 (by simpa using h), fun h => hF.out.f6 (by simpa using h), fun h => hF.out.f7 (by simpa using h), fun _ => rfl, fun h => hF.out.f9 (by simpa using h), fun h => hF.out.f10 (by simpa using h), fun h => hF.out.f11 (by simpa using h), fun h => hF.out.f12 (by simpa using h), fun h => by have := hF.out.o10_5 (by simpa using h); simpa using this, fun h => by have := hF.out.o10_9 (by simpa using h); simpa using this, fun h => by have := hF.out.o11_5 (by simpa using h); simpa using this, fun h => by have := hF.out.o11_9 (by simpa using h); simpa using this, fun h => by have := hF.out.o12_11 (by simpa using h); simpa using this, hF.out.bl, fun h => hF.out.mn (by simpa using h), fun h => hF.out.mb (by simpa using h), fun h k => hF.out.nb (by simpa using h) (by simpa using k), fun h => hF.out.bx (by simpa using h)⟩
    · intro d a W hI hd hdep
      obtain ⟨bn, bb, q, x7, x12, x13, x14, x15, x16, x17, x18, x19, x20, x21, x22, x23, rfl, hF⟩ := hI
      have hd8 : d 8 = true := dep_of hdep 8 (by kernel_rfl)
      obtain rfl := hF.out.f8 hd8
      have hmk := run_make_row' (P := Try.prog) 119 118 (.slice none 0 0) 24 Try.underlying119 info118 rfl .i64 .i64 (ps.length) (by have := HM.out; omega) (by have := HM.out; omega)
      have HD : Hid (d 10 = false) := no_later hF.out.o10_9 hd
      have HD9 : Hid (d 11 = false) := no_later hF.out.o11_9 hd
      have B1 := (Below.refl W.heap.size W).alloc (Nat.le_refl _) (Obj.cells (madeCells #[Value.slice none 0 0] (ps.length)) 118)
      clear hdep hd hd8
      intro K hK
      simp only [Act.put, List.setIfInBounds_toArray, List.set_cons_zero, List.set_cons_succ]
      go_simp
      refine hK.out _ _ ⟨bn, W.heap.size, q, x7, x12, x13, x14, x15, x16, x17, x18, x19, (.int .i64 (ps.length : Int)), (.slice (some ⟨W.heap.size, 0, none⟩) ps.length ps.length), x22, x23, by simp only [Act.put, List.setIfInBounds_toArray, List.set_cons_zero, List.set_cons_succ], ?_⟩
      exact ⟨fun h => hF.out.f0 (by simpa using h), fun h => hF.out.f1 (by simpa using h), fun h => hF.out.f2 (by simpa using h), fun h => hF.out.f3 (by simpa using h), fun h => hF.out.f4 (by simpa using h), fun h => hF.out.f5 (by simpa using h), fun h => hF.out.f6 (by simpa using h), fun h => hF.out.f7 (by simpa using h), fun h => hF.out.f8 (by simpa using h), fun _ => rfl, fun h => by have := HD.out; simp [this] at h, fun h => hF.out.f11 (by simpa using h), fun h => hF.out.f12 (by simpa using h), fun h => by have := hF.out.o10_5 (by simpa using h); simpa using this, fun _ => by simp, fun h => by have := hF.out.o11_5 (by simpa using h); simpa using this, fun _ => by simp, fun h => by have := hF.out.o12_11 (by simpa using h); simpa using this, hF.out.bl.trans (B1.mono hF.out.bl.size), fun h => have k := hF.out.mn (by simpa using h); ⟨k.1, k.2.alloc _⟩, fun _ => ⟨hF.out.bl.size, World.rowIs_made W _ _ _⟩, fun k _ => by have := (hF.out.mn (by simpa using k)).2.lt; omega, fun h => by have := HD9.out; simp [this] at h⟩
    · intro d a W hI hd hdep
      obtain ⟨bn, bb, q, x7, x12, x13, x14, x15, x16, x17, x18, x19, x20, x21, x22, x23, rfl, hF⟩ := hI
      have hd0 : d 0 = true := dep_of hdep 0 (by kernel_rfl)
      have hd1 : d 1 = true := dep_of hdep 1 (by kernel_rfl)
      have hd2 : d 2 = true := dep_of hdep 2 (by kernel_rfl)
      have hd5 : d 5 = true := dep_of hdep 5 (by kernel_rfl)
      have hd9 : d 9 = true := dep_of hdep 9 (by kernel_rfl)
      obtain rfl := hF.out.f0 hd0
      obtain rfl := hF.out.f1 hd1
      obtain rfl := hF.out.f2 hd2
      obtain rfl := hF.out.f5 hd5
      obtain rfl := hF.out.f9 hd9
      have hdd := hd5
      have hde := hd9
      clear hdep hd hd0 hd1 hd2 hd5 hd9
      intro K hK
      simp only [Act.put, List.setIfInBounds_toArray, List.set_cons_zero, List.set_cons_succ]
      go_simp
      refine hK.out _ _ ⟨bn, bb, q, x7, (.agg #[.int .i64 t, .int .i64 (n : Int), .slice pao ps.length pc]), (.slice wao ws.length wc), (.bool op), x15, x16, (.slice (some ⟨bn, 0, none⟩) n n), x18, x19, x20, (.slice (some ⟨bb, 0, none⟩) ps.length ps.length), (.agg #[.int .i64 t, .int .i64 (n : Int), .slice pao ps.length pc, (.slice wao ws.length wc), .bool op, .slice (some ⟨bn, 0, none⟩) n n, .slice (some ⟨bb, 0, none⟩) ps.length ps.length]), x23, by simp only [Act.put, List.setIfInBounds_toArray, List.set_cons_zero, List.set_cons_succ], ?_⟩
      exact ⟨fun h => hF.out.f0 (by simpa using h), fun h => hF.out.f1 (by simpa using h), fun h => hF.out.f2 (by simpa using h), fun h => hF.out.f3 (by simpa using h), fun h => hF.out.f4 (by simpa using h), fun h => hF.out.f5 (by simpa using h), fun h => hF.out.f6 (by simpa using h), fun h => hF.out.f7 (by simpa using h), fun h => hF.out.f8 (by simpa using h), fun h => hF.out.f9 (by simpa using h), fun _ => rfl, fun h => hF.out.f11 (by simpa using h), fun h => hF.out.f12 (by simpa using h), fun _ => by simpa using hdd, fun _ => by simpa using hde, fun h => by have := hF.out.o11_5 (by simpa using h); simpa using this, fun h => by have := hF.out.o11_9 (by simpa using h); simpa using this, fun h => by have := hF.out.o12_11 (by simpa using h); simpa using this, hF.out.bl, fun h => hF.out.mn (by simpa using h), fun h => hF.out.mb (by simpa using h), fun h k => hF.out.nb (by simpa using h) (by simpa using k), fun h => hF.out.bx (by simpa using h)⟩
    · intro d a W hI hd hdep
      obtain ⟨bn, bb, q, x7, x12, x13, x14, x15, x16, x17, x18, x19, x20, x21, x22, x23, rfl, hF⟩ := hI
      have hd10 : d 10 = true := dep_of hdep 10 (by kernel_rfl)
      obtain rfl := hF.out.f10 hd10
      have hdd := hF.out.o10_5 hd10
      have hde := hF.out.o10_9 hd10
      have HD12 : Hid (d 12 = false) := no_later hF.out.o12_11 hd
      have B1 := (Below.refl W.heap.size W).alloc (Nat.le_refl _) (Obj.cells #[.int .i64 t, .int .i64 (n : Int), .slice pao ps.length pc, (.slice wao ws.length wc), .bool op, .slice (some ⟨bn, 0, none⟩) n n, .slice (some ⟨bb, 0, none⟩) ps.length ps.length] 121)
      clear hdep hd hd10
      intro K hK
      simp only [Act.put, List.setIfInBounds_toArray, List.set_cons_zero, List.set_cons_succ]
      go_simp
      refine hK.out _ _ ⟨bn, bb, W.heap.size, x7, x12, x13, x14, x15, x16, x17, x18, x19, x20, x21, (.agg #[.int .i64 t, .int .i64 (n : Int), .slice pao ps.length pc, (.slice wao ws.length wc), .bool op, .slice (some ⟨bn, 0, none⟩) n n, .slice (some ⟨bb, 0, none⟩) ps.length ps.length]), (.pointer (some ⟨W.heap.size, 0, none⟩)), by simp only [Act.put, List.setIfInBounds_toArray, List.set_cons_zero, List.set_cons_succ], ?_⟩
      exact ⟨fun h => hF.out.f0 (by simpa using h), fun h => hF.out.f1 (by simpa using h), fun h => hF.out.f2 (by simpa using h), fun h => hF.out.f3 (by simpa using h), fun h => hF.out.f4 (by simpa using h), fun h => hF.out.f5 (by simpa using h), fun h => hF.out.f6 (by simpa using h), fun h => hF.out.f7 (by simpa using h), fun h => hF.out.f8 (by simpa using h), fun h => hF.out.f9 (by simpa using h), fun h => hF.out.f10 (by simpa using h), fun _ => rfl, fun h => by have := HD12.out; simp [this] at h, fun h => by have := hF.out.o10_5 (by simpa using h); simpa using this, fun h => by have := hF.out.o10_9 (by simpa using h); simpa using this, fun _ => by simpa using hdd, fun _ => by simpa using hde, fun _ => by simp, hF.out.bl.trans (B1.mono hF.out.bl.size), fun h => have k := hF.out.mn (by simpa using h); ⟨k.1, k.2.alloc _⟩, fun h => have k := hF.out.mb (by simpa using h); ⟨k.1, k.2.alloc _⟩, fun h k => hF.out.nb (by simpa using h) (by simpa using k), fun _ => ⟨hF.out.bl.size, heap_alloc_new _ _, by have := (hF.out.mn hdd).2.lt; omega, by have := (hF.out.mb hde).2.lt; omega⟩⟩
    · intro d a W hI hd hdep
      obtain ⟨bn, bb, q, x7, x12, x13, x14, x15, x16, x17, x18, x19, x20, x21, x22, x23, rfl, hF⟩ := hI
      have hd11 : d 11 = true := dep_of hdep 11 (by kernel_rfl)
      obtain rfl := hF.out.f11 hd11
      have hdf := hd11
      clear hdep hd hd11
      intro K hK
      simp only [Act.put, List.setIfInBounds_toArray, List.set_cons_zero, List.set_cons_succ]
      go_simp
      refine hK.out _ _ ⟨bn, bb, q, (.pointer (some ⟨q, 0, none⟩)), x12, x13, x14, x15, x16, x17, x18, x19, x20, x21, x22, (.pointer (some ⟨q, 0, none⟩)), by simp only [Act.put, List.setIfInBounds_toArray, List.set_cons_zero, List.set_cons_succ], ?_⟩
      exact ⟨fun h => hF.out.f0 (by simpa using h), fun h => hF.out.f1 (by simpa using h), fun h => hF.out.f2 (by simpa using h), fun h => hF.out.f3 (by simpa using h), fun h => hF.out.f4 (by simpa using h), fun h => hF.out.f5 (by simpa using h), fun h => hF.out.f6 (by simpa using h), fun h => hF.out.f7 (by simpa using h), fun h => hF.out.f8 (by simpa using h), fun h => hF.out.f9 (by simpa using h), fun h => hF.out.f10 (by simpa using h), fun h => hF.out.f11 (by simpa using h), fun _ => rfl, fun h => by have := hF.out.o10_5 (by simpa using h); simpa using this, fun h => by have := hF.out.o10_9 (by simpa using h); simpa using this, fun h => by have := hF.out.o11_5 (by simpa using h); simpa using this, fun h => by have := hF.out.o11_9 (by simpa using h); simpa using this, fun _ => by simpa using hdf, hF.out.bl, fun h => hF.out.mn (by simpa using h), fun h => hF.out.mb (by simpa using h), fun h k => hF.out.nb (by simpa using h) (by simpa using k), fun h => hF.out.bx (by simpa using h)⟩
  · intro d a W hI hall
    obtain ⟨bn, bb, q, x7, x12, x13, x14, x15, x16, x17, x18, x19, x20, x21, x22, x23, rfl, hF⟩ := hI
    simp only [List.length_cons, List.length_nil] at hall
    obtain rfl := hF.out.f0 (hall 0 (by omega))
    obtain rfl := hF.out.f1 (hall 1 (by omega))
    obtain rfl := hF.out.f2 (hall 2 (by omega))
    obtain rfl := hF.out.f3 (hall 3 (by omega))
    obtain rfl := hF.out.f4 (hall 4 (by omega))
    obtain rfl := hF.out.f5 (hall 5 (by omega))
    obtain rfl := hF.out.f6 (hall 6 (by omega))
    obtain rfl := hF.out.f7 (hall 7 (by omega))
    obtain rfl := hF.out.f8 (hall 8 (by omega))
    obtain rfl := hF.out.f9 (hall 9 (by omega))
    obtain rfl := hF.out.f10 (hall 10 (by omega))
    obtain rfl := hF.out.f11 (hall 11 (by omega))
    obtain rfl := hF.out.f12 (hall 12 (by omega))
    have HBX : Hid (w1.heap.size ≤ q ∧ W.heap[q]? = some (.cells #[.int .i64 t, .int .i64 (n : Int), .slice pao ps.length pc, (.slice wao ws.length wc), .bool op, .slice (some ⟨bn, 0, none⟩) n n, .slice (some ⟨bb, 0, none⟩) ps.length ps.length] 121) ∧ q ≠ bn ∧ q ≠ bb) := hF.out.bx (hall 11 (by omega))
    have HMN : Hid (w1.heap.size ≤ bn ∧ W.rowIs bn 125 (n * 441) (fun _ => .int .u8 0)) := hF.out.mn (hall 5 (by omega))
    have HMB : Hid (w1.heap.size ≤ bb ∧ W.rowIs bb 118 ps.length (fun _ => .slice none 0 0)) := hF.out.mb (hall 9 (by omega))
    have HNB : Hid (bn ≠ bb) := hF.out.nb (hall 5 (by omega)) (hall 9 (by omega))
    have HBL : Hid (Below w1.heap.size w1 W) := hF.out.bl
    clear hF hall
    simp only [Act.put, List.setIfInBounds_toArray, List.set_cons_zero, List.set_cons_succ]
    have HCP : Hid (Cp w ⟨q, bn, bb, fun _ => 0⟩ t n (.slice pao ps.length pc) (.slice wao ws.length wc) ps op 0 W) := by
      have hw := HW1.out.size
      refine ⟨HW1.out.trans (HBL.out.mono hw), HBX.out.2.1, HMN.out.2, HMB.out.2.congr fun i hi => by rw [if_neg (by omega)], fun p hp => by omega, Nat.le_trans hw HBX.out.1, Nat.le_trans hw HMN.out.1, Nat.le_trans hw HMB.out.1, fun p hp => by omega, HBX.out.2.2.1, HBX.out.2.2.2, HNB.out, fun p hp => by omega, fun p p' hp => by omega⟩
    have HG0 : Hid (∀ V, Below w1.heap.size w1 V → V.cell? ⟨g0, 2, none⟩ = some (.slice pao ps.length pc)) := fun V hV => (hV.cell (p := ⟨g0, 2, none⟩) hg).trans c2
    have d2 := HG0.out W HBL.out
    clear c0 c1 c2
    go_wp2_with fail
    go_loopw [27] (fun i wr => ∃ k : Nat, k ≤ ps.length ∧ i = .int .i64 (k : Int) ∧ ∃ bs, Hid (Cp w ⟨q, bn, bb, bs⟩ t n (.slice pao ps.length pc) (.slice wao ws.length wc) ps op k wr)) (fun i _ => ps.length - (intOf i).toNat)
    case atStart => exact ⟨0, by omega, rfl, _, HCP⟩
    case round =>
      obtain ⟨k, hk, rfl, bs, HCPk⟩ := hrel
      by_cases hlt : k < ps.length
      · have hrc := HRC.out
        obtain ⟨pb, po, uo, uc, rfl, hpb, hc0, hc1, hsy⟩ := hrc.cell hlt
        obtain ⟨-, hbl8, -, -⟩ := hrc.at hlt
        generalize hbd : (ps.getD k (0, [])).2 = bd at hc1 hbl8 hsy
        have HBD : Hid ((ps.getD k (0, [])).2 = bd) := hbd
        generalize (ps.getD k (0, [])).1 = hd at hc0
        have HBL8 : Hid (bd.length ≤ 8) := hbl8
        replace hc0 : wr.cell? ⟨pb, po + k * 2, none⟩ = some (.int .i64 hd) := (HCPk.out.bel.cell (p := ⟨pb, po + k * 2, none⟩) hpb).trans hc0
        replace hc1 : wr.cell? ⟨pb, po + k * 2 + 1, none⟩ = some (.slice uo bd.length uc) := (HCPk.out.bel.cell (p := ⟨pb, po + k * 2 + 1, none⟩) hpb).trans hc1
        have HCP1 : Hid (Cp w ⟨q, bn, bb, bs⟩ t n (.slice (some ⟨pb, po, none⟩) ps.length pc) (.slice wao ws.length wc) ps op k (wr.alloc (Obj.cells #[.int .i64 hd, .slice uo bd.length uc] 79))) := HCPk.out.next (below_alloc _ _)
        have e1 : (wr.alloc (Obj.cells #[.int .i64 hd, .slice uo bd.length uc] 79)).cell? ⟨wr.heap.size, 1, none⟩ = some (.slice uo bd.length uc) := cell_new wr _ 79 1
        have hgl : wr.heap.size < (wr.alloc (Obj.cells #[.int .i64 hd, .slice uo bd.length uc] 79)).heap.size := by simp
        have hk1 : (k : Int) < (ps.length : Int) := by omega
        clear hsy hrc hbl8 hbd
        go_upto_region 5 with fail
        obtain ⟨gp, HGP⟩ : ∃ gp, Hid (wr.heap.size = gp) := ⟨_, (rfl : wr.heap.size = wr.heap.size)⟩
        rw [HGP.out] at e1 hgl ⊢
        clear hc0 hc1 HCPk HGP
        generalize wr.alloc (Obj.cells #[.int .i64 hd, .slice uo bd.length uc] 79) = wr at HCP1 e1 hgl ⊢
        have e6 : wr.cell? ⟨q, 6, none⟩ = some (.slice (some ⟨bb, 0, none⟩) ps.length ps.length) := tcell_blk HCP1.out.box 6
        have hql : q < wr.heap.size := HCP1.out.ls.1
        have hbb : bb < wr.heap.size := HCP1.out.ls.2.2
        have ebk : wr.cell? ⟨bb, k, none⟩ = some (.slice none 0 0) := by
          have := HCP1.out.bods.cell hlt
          rw [if_neg (by omega)] at this; exact this
        have fbk : wr.frozen? ⟨bb, k, none⟩ = false := World.rowIs.frozen HCP1.out.bods k
        refine wp_region_free mixed (fun a0 d a W => ∃ (gs : Nat) (x32 x33 x34 x35 x36 x37 x38 x39 x40 x41 x42 : Value), a = (((((((((((a0.put (some 32) x32).put (some 33) x33).put (some 34) x34).put (some 35) x35).put (some 36) x36).put (some 37) x37).put (some 38) x38).put (some 39) x39).put (some 40) x40).put (some 41) x41).put (some 42) x42) ∧ Hid (RC5 wr q bb gp k ps.length bd.length uo uc gs d x32 x33 x34 x35 x36 x37 x38 x39 x40 x41 x42 W)) (by kernel_rfl) ⟨0, u32, u33, u34, u35, u36, u37, u38, u39, u40, u41, u42, by simp only [Act.put, List.setIfInBounds_toArray, List.set_cons_zero, List.set_cons_succ], ?_⟩ ?_ ?_
        · exact ⟨fun h => no_way h, fun h => no_way h, fun h => no_way h, fun h => no_way h, fun h => no_way h, fun h => no_way h, fun h => no_way h, fun h => no_way h, fun h => no_way h, fun h => no_way h, fun h => no_way h, fun _ => trivial, fun h => no_way h, fun h => no_way h, fun h => no_way h, fun h => no_way h, fun h => no_way h, fun h => no_way h, fun h => no_way h, fun h => no_way h, fun h => no_way h, fun h => no_way h, fun h => no_way h, fun _ => ⟨rfl, rfl, rfl, Nat.le_refl _, fun _ _ => rfl⟩, fun h => no_way h, fun h => no_way h⟩
        · simp only [StepAll, and_true]
          refine ⟨?_, ?_, ?_, ?_, ?_, ?_, ?_, ?_, ?_, ?_, ?_, ?_⟩
          · intro d a W hI hd hdep
            obtain ⟨gs, x32, x33, x34, x35, x36, x37, x38, x39, x40, x41, x42, rfl, hF⟩ := hI
            clear hdep hd
            intro K hK
            simp only [Act.put, List.setIfInBounds_toArray, List.set_cons_zero, List.set_cons_succ]
            go_simp
            refine hK.out _ _ ⟨gs, (.pointer (some ⟨q, 0, none⟩)), x33, x34, x35, x36, x37, x38, x39, x40, x41, x42, by simp only [Act.put, List.setIfInBounds_toArray, List.set_cons_zero, List.set_cons_succ], ?_⟩
            exact ⟨fun _ => rfl, fun h => hF.out.f1 (by simpa using h), fun h => hF.out.f2 (by simpa using h), fun h => hF.out.f3 (by simpa using h), fun h => hF.out.f4 (by simpa using h), fun h => hF.out.f5 (by simpa using h), fun h => hF.out.f6 (by simpa using h), fun h => hF.out.f7 (by simpa using h), fun h => hF.out.f8 (by simpa using h), fun h => hF.out.f9 (by simpa using h), fun h => hF.out.f10 (by simpa using h), fun h => hF.out.f11 (by simpa using h), fun _ => by simp, fun h => by have := hF.out.p1 (by simpa using h); simpa using this, fun h => by have := hF.out.p2 (by simpa using h); simpa using this, fun h => by have := hF.out.p3 (by simpa using h); simpa using this, fun h => by have := hF.out.p4 (by simpa using h); simpa using this, fun h => by have := hF.out.p5 (by simpa using h); simpa using this, fun h => by have := hF.out.p6 (by simpa using h); simpa using this, fun h => by have := hF.out.p7 (by simpa using h); simpa using this, fun h => by have := hF.out.p8 (by simpa using h); simpa using this, fun h => by have := hF.out.p9 (by simpa using h); simpa using this, fun h => by have := hF.out.p10 (by simpa using h); simpa using this, fun h => hF.out.bw (by simpa using h), fun h h2 => hF.out.mn (by simpa using h) (by simpa using h2), fun h => hF.out.fin (by simpa using h)⟩
          · intro d a W hI hd hdep
            obtain ⟨gs, x32, x33, x34, x35, x36, x37, x38, x39, x40, x41, x42, rfl, hF⟩ := hI
            have hd0 : d 0 = true := dep_of hdep 0 (by kernel_rfl)
            obtain rfl := hF.out.f0 hd0
            clear hdep hd hd0
            intro K hK
            simp only [Act.put, List.setIfInBounds_toArray, List.set_cons_zero, List.set_cons_succ]
            go_simp
            refine hK.out _ _ ⟨gs, (.pointer (some ⟨q, 0, none⟩)), (.pointer (some ⟨q, 0, none⟩)), x34, x35, x36, x37, x38, x39, x40, x41, x42, by simp only [Act.put, List.setIfInBounds_toArray, List.set_cons_zero, List.set_cons_succ], ?_⟩
            exact ⟨fun h => hF.out.f0 (by simpa using h), fun _ => rfl, fun h => hF.out.f2 (by simpa using h), fun h => hF.out.f3 (by simpa using h), fun h => hF.out.f4 (by simpa using h), fun h => hF.out.f5 (by simpa using h), fun h => hF.out.f6 (by simpa using h), fun h => hF.out.f7 (by simpa using h), fun h => hF.out.f8 (by simpa using h), fun h => hF.out.f9 (by simpa using h), fun h => hF.out.f10 (by simpa using h), fun h => hF.out.f11 (by simpa using h), fun h => by have := hF.out.p0 (by simpa using h); simpa using this, fun _ => by simp, fun h => by have := hF.out.p2 (by simpa using h); simpa using this, fun h => by have := hF.out.p3 (by simpa using h); simpa using this, fun h => by have := hF.out.p4 (by simpa using h); simpa using this, fun h => by have := hF.out.p5 (by simpa using h); simpa using this, fun h => by have := hF.out.p6 (by simpa using h); simpa using this, fun h => by have := hF.out.p7 (by simpa using h); simpa using this, fun h => by have := hF.out.p8 (by simpa using h); simpa using this, fun h => by have := hF.out.p9 (by simpa using h); simpa using this, fun h => by have := hF.out.p10 (by simpa using h); simpa using this, fun h => hF.out.bw (by simpa using h), fun h h2 => hF.out.mn (by simpa using h) (by simpa using h2), fun h => hF.out.fin (by simpa using h)⟩
          · intro d a W hI hd hdep
            obtain ⟨gs, x32, x33, x34, x35, x36, x37, x38, x39, x40, x41, x42, rfl, hF⟩ := hI
            have hd1 : d 1 = true := dep_of hdep 1 (by kernel_rfl)
            obtain rfl := hF.out.f1 hd1
            clear hdep hd hd1
            intro K hK
            simp only [Act.put, List.setIfInBounds_toArray, List.set_cons_zero, List.set_cons_succ]
            go_simp
            refine hK.out _ _ ⟨gs, x32, (.pointer (some ⟨q, 0, none⟩)), (.pointer (some ⟨q, 6, none⟩)), x35, x36, x37, x38, x39, x40, x41, x42, by simp only [Act.put, List.setIfInBounds_toArray, List.set_cons_zero, List.set_cons_succ], ?_⟩
            exact ⟨fun h => hF.out.f0 (by simpa using h), fun h => hF.out.f1 (by simpa using h), fun _ => rfl, fun h => hF.out.f3 (by simpa using h), fun h => hF.out.f4 (by simpa using h), fun h => hF.out.f5 (by simpa using h), fun h => hF.out.f6 (by simpa using h), fun h => hF.out.f7 (by simpa using h), fun h => hF.out.f8 (by simpa using h), fun h => hF.out.f9 (by simpa using h), fun h => hF.out.f10 (by simpa using h), fun h => hF.out.f11 (by simpa using h), fun h => by have := hF.out.p0 (by simpa using h); simpa using this, fun h => by have := hF.out.p1 (by simpa using h); simpa using this, fun _ => by simp, fun h => by have := hF.out.p3 (by simpa using h); simpa using this, fun h => by have := hF.out.p4 (by simpa using h); simpa using this, fun h => by have := hF.out.p5 (by simpa using h); simpa using this, fun h => by have := hF.out.p6 (by simpa using h); simpa using this, fun h => by have := hF.out.p7 (by simpa using h); simpa using this, fun h => by have := hF.out.p8 (by simpa using h); simpa using this, fun h => by have := hF.out.p9 (by simpa using h); simpa using this, fun h => by have := hF.out.p10 (by simpa using h); simpa using this, fun h => hF.out.bw (by simpa using h), fun h h2 => hF.out.mn (by simpa using h) (by simpa using h2), fun h => hF.out.fin (by simpa using h)⟩
          · intro d a W hI hd hdep
            obtain ⟨gs, x32, x33, x34, x35, x36, x37, x38, x39, x40, x41, x42, rfl, hF⟩ := hI
            have hd2 : d 2 = true := dep_of hdep 2 (by kernel_rfl)
            obtain rfl := hF.out.f2 hd2
            have hbl := hF.out.bw (no_later hF.out.p3 hd)
            have y0 := (hbl.cell (p := ⟨q, 6, none⟩) hql).trans e6
            clear hdep hd hd2
            intro K hK
            simp only [Act.put, List.setIfInBounds_toArray, List.set_cons_zero, List.set_cons_succ]
            go_simp
            refine hK.out _ _ ⟨gs, x32, x33, (.pointer (some ⟨q, 6, none⟩)), (.slice (some ⟨bb, 0, none⟩) ps.length ps.length), x36, x37, x38, x39, x40, x41, x42, by simp only [Act.put, List.setIfInBounds_toArray, List.set_cons_zero, List.set_cons_succ], ?_⟩
            exact ⟨fun h => hF.out.f0 (by simpa using h), fun h => hF.out.f1 (by simpa using h), fun h => hF.out.f2 (by simpa using h), fun _ => rfl, fun h => hF.out.f4 (by simpa using h), fun h => hF.out.f5 (by simpa using h), fun h => hF.out.f6 (by simpa using h), fun h => hF.out.f7 (by simpa using h), fun h => hF.out.f8 (by simpa using h), fun h => hF.out.f9 (by simpa using h), fun h => hF.out.f10 (by simpa using h), fun h => hF.out.f11 (by simpa using h), fun h => by have := hF.out.p0 (by simpa using h); simpa using this, fun h => by have := hF.out.p1 (by simpa using h); simpa using this, fun h => by have := hF.out.p2 (by simpa using h); simpa using this, fun _ => by simp, fun h => by have := hF.out.p4 (by simpa using h); simpa using this, fun h => by have := hF.out.p5 (by simpa using h); simpa using this, fun h => by have := hF.out.p6 (by simpa using h); simpa using this, fun h => by have := hF.out.p7 (by simpa using h); simpa using this, fun h => by have := hF.out.p8 (by simpa using h); simpa using this, fun h => by have := hF.out.p9 (by simpa using h); simpa using this, fun h => by have := hF.out.p10 (by simpa using h); simpa using this, fun h => hF.out.bw (by simpa using h), fun h h2 => hF.out.mn (by simpa using h) (by simpa using h2), fun h => hF.out.fin (by simpa using h)⟩
          · intro d a W hI hd hdep
            obtain ⟨gs, x32, x33, x34, x35, x36, x37, x38, x39, x40, x41, x42, rfl, hF⟩ := hI
            clear hdep hd
            intro K hK
            simp only [Act.put, List.setIfInBounds_toArray, List.set_cons_zero, List.set_cons_succ]
            go_simp
            refine hK.out _ _ ⟨gs, x32, x33, x34, x35, (.int .i64 (k : Int)), x37, x38, x39, x40, x41, x42, by simp only [Act.put, List.setIfInBounds_toArray, List.set_cons_zero, List.set_cons_succ], ?_⟩
            exact ⟨fun h => hF.out.f0 (by simpa using h), fun h => hF.out.f1 (by simpa using h), fun h => hF.out.f2 (by simpa using h), fun h => hF.out.f3 (by simpa using h), fun _ => rfl, fun h => hF.out.f5 (by simpa using h), fun h => hF.out.f6 (by simpa using h), fun h => hF.out.f7 (by simpa using h), fun h => hF.out.f8 (by simpa using h), fun h => hF.out.f9 (by simpa using h), fun h => hF.out.f10 (by simpa using h), fun h => hF.out.f11 (by simpa using h), fun h => by have := hF.out.p0 (by simpa using h); simpa using this, fun h => by have := hF.out.p1 (by simpa using h); simpa using this, fun h => by have := hF.out.p2 (by simpa using h); simpa using this, fun h => by have := hF.out.p3 (by simpa using h); simpa using this, fun _ => by simp, fun h => by have := hF.out.p5 (by simpa using h); simpa using this, fun h => by have := hF.out.p6 (by simpa using h); simpa using this, fun h => by have := hF.out.p7 (by simpa using h); simpa using this, fun h => by have := hF.out.p8 (by simpa using h); simpa using this, fun h => by have := hF.out.p9 (by simpa using h); simpa using this, fun h => by have := hF.out.p10 (by simpa using h); simpa using this, fun h => hF.out.bw (by simpa using h), fun h h2 => hF.out.mn (by simpa using h) (by simpa using h2), fun h => hF.out.fin (by simpa using h)⟩
          · intro d a W hI hd hdep
            obtain ⟨gs, x32, x33, x34, x35, x36, x37, x38, x39, x40, x41, x42, rfl, hF⟩ := hI
            clear hdep hd
            intro K hK
            simp only [Act.put, List.setIfInBounds_toArray, List.set_cons_zero, List.set_cons_succ]
            go_simp
            refine hK.out _ _ ⟨gs, x32, x33, x34, x35, x36, (.pointer (some ⟨gp, 1, none⟩)), x38, x39, x40, x41, x42, by simp only [Act.put, List.setIfInBounds_toArray, List.set_cons_zero, List.set_cons_succ], ?_⟩
            exact ⟨fun h => hF.out.f0 (by simpa using h), fun h => hF.out.f1 (by simpa using h), fun h => hF.out.f2 (by simpa using h), fun h => hF.out.f3 (by simpa using h), fun h => hF.out.f4 (by simpa using h), fun _ => rfl, fun h => hF.out.f6 (by simpa using h), fun h => hF.out.f7 (by simpa using h), fun h => hF.out.f8 (by simpa using h), fun h => hF.out.f9 (by simpa using h), fun h => hF.out.f10 (by simpa using h), fun h => hF.out.f11 (by simpa using h), fun h => by have := hF.out.p0 (by simpa using h); simpa using this, fun h => by have := hF.out.p1 (by simpa using h); simpa using this, fun h => by have := hF.out.p2 (by simpa using h); simpa using this, fun h => by have := hF.out.p3 (by simpa using h); simpa using this, fun h => by have := hF.out.p4 (by simpa using h); simpa using this, fun _ => by simp, fun h => by have := hF.out.p6 (by simpa using h); simpa using this, fun h => by have := hF.out.p7 (by simpa using h); simpa using this, fun h => by have := hF.out.p8 (by simpa using h); simpa using this, fun h => by have := hF.out.p9 (by simpa using h); simpa using this, fun h => by have := hF.out.p10 (by simpa using h); simpa using this, fun h => hF.out.bw (by simpa using h), fun h h2 => hF.out.mn (by simpa using h) (by simpa using h2), fun h => hF.out.fin (by simpa using h)⟩
          · intro d a W hI hd hdep
            obtain ⟨gs, x32, x33, x34, x35, x36, x37, x38, x39, x40, x41, x42, rfl, hF⟩ := hI
            have hd5 : d 5 = true := dep_of hdep 5 (by kernel_rfl)
            obtain rfl := hF.out.f5 hd5
            have hbl := hF.out.bw (no_later hF.out.p6 hd)
            have y0 := (hbl.cell (p := ⟨gp, 1, none⟩) hgl).trans e1
            clear hdep hd hd5
            intro K hK
            simp only [Act.put, List.setIfInBounds_toArray, List.set_cons_zero, List.set_cons_succ]
            go_simp
            refine hK.out _ _ ⟨gs, x32, x33, x34, x35, x36, (.pointer (some ⟨gp, 1, none⟩)), (.slice uo bd.length uc), x39, x40, x41, x42, by simp only [Act.put, List.setIfInBounds_toArray, List.set_cons_zero, List.set_cons_succ], ?_⟩
            exact ⟨fun h => hF.out.f0 (by simpa using h), fun h => hF.out.f1 (by simpa using h), fun h => hF.out.f2 (by simpa using h), fun h => hF.out.f3 (by simpa using h), fun h => hF.out.f4 (by simpa using h), fun h => hF.out.f5 (by simpa using h), fun _ => rfl, fun h => hF.out.f7 (by simpa using h), fun h => hF.out.f8 (by simpa using h), fun h => hF.out.f9 (by simpa using h), fun h => hF.out.f10 (by simpa using h), fun h => hF.out.f11 (by simpa using h), fun h => by have := hF.out.p0 (by simpa using h); simpa using this, fun h => by have := hF.out.p1 (by simpa using h); simpa using this, fun h => by have := hF.out.p2 (by simpa using h); simpa using this, fun h => by have := hF.out.p3 (by simpa using h); simpa using this, fun h => by have := hF.out.p4 (by simpa using h); simpa using this, fun h => by have := hF.out.p5 (by simpa using h); simpa using this, fun _ => by simp, fun h => by have := hF.out.p7 (by simpa using h); simpa using this, fun h => by have := hF.out.p8 (by simpa using h); simpa using this, fun h => by have := hF.out.p9 (by simpa using h); simpa using this, fun h => by have := hF.out.p10 (by simpa using h); simpa using this, fun h => hF.out.bw (by simpa using h), fun h h2 => hF.out.mn (by simpa using h) (by simpa using h2), fun h => hF.out.fin (by simpa using h)⟩
          · intro d a W hI hd hdep
            obtain ⟨gs, x32, x33, x34, x35, x36, x37, x38, x39, x40, x41, x42, rfl, hF⟩ := hI
            have hd6 : d 6 = true := dep_of hdep 6 (by kernel_rfl)
            obtain rfl := hF.out.f6 hd6
            clear hdep hd hd6
            intro K hK
            simp only [Act.put, List.setIfInBounds_toArray, List.set_cons_zero, List.set_cons_succ]
            go_simp
            refine hK.out _ _ ⟨gs, x32, x33, x34, x35, x36, x37, (.slice uo bd.length uc), (.int .i64 (bd.length : Int)), x40, x41, x42, by simp only [Act.put, List.setIfInBounds_toArray, List.set_cons_zero, List.set_cons_succ], ?_⟩
            exact ⟨fun h => hF.out.f0 (by simpa using h), fun h => hF.out.f1 (by simpa using h), fun h => hF.out.f2 (by simpa using h), fun h => hF.out.f3 (by simpa using h), fun h => hF.out.f4 (by simpa using h), fun h => hF.out.f5 (by simpa using h), fun h => hF.out.f6 (by simpa using h), fun _ => rfl, fun h => hF.out.f8 (by simpa using h), fun h => hF.out.f9 (by simpa using h), fun h => hF.out.f10 (by simpa using h), fun h => hF.out.f11 (by simpa using h), fun h => by have := hF.out.p0 (by simpa using h); simpa using this, fun h => by have := hF.out.p1 (by simpa using h); simpa using this, fun h => by have := hF.out.p2 (by simpa using h); simpa using this, fun h => by have := hF.out.p3 (by simpa using h); simpa using this, fun h => by have := hF.out.p4 (by simpa using h); simpa using this, fun h => by have := hF.out.p5 (by simpa using h); simpa using this, fun h => by have := hF.out.p6 (by simpa using h); simpa using this, fun _ => by simp, fun h => by have := hF.out.p8 (by simpa using h); simpa using this, fun h => by have := hF.out.p9 (by simpa using h); simpa using this, fun h => by have := hF.out.p10 (by simpa using h); simpa using this, fun h => hF.out.bw (by simpa using h), fun h h2 => hF.out.mn (by simpa using h) (by simpa using h2), fun h => hF.out.fin (by simpa using h)⟩
          · intro d a W hI hd hdep
            obtain ⟨gs, x32, x33, x34, x35, x36, x37, x38, x39, x40, x41, x42, rfl, hF⟩ := hI
            have hd7 : d 7 = true := dep_of hdep 7 (by kernel_rfl)
            obtain rfl := hF.out.f7 hd7
            have hbl8 := HBL8.out
            have hw : IntKind.i64.wrap ((bd.length : Int) + 1) = (bd.length : Int) + 1 := by rw [IntKind.wrap_i64]; omega
            clear hdep hd hd7
            intro K hK
            simp only [Act.put, List.setIfInBounds_toArray, List.set_cons_zero, List.set_cons_succ]
            go_simp
            refine hK.out _ _ ⟨gs, x32, x33, x34, x35, x36, x37, x38, (.int .i64 (bd.length : Int)), (.int .i64 ((bd.length : Int) + 1)), x41, x42, by simp only [Act.put, List.setIfInBounds_toArray, List.set_cons_zero, List.set_cons_succ], ?_⟩
            exact ⟨fun h => hF.out.f0 (by simpa using h), fun h => hF.out.f1 (by simpa using h), fun h => hF.out.f2 (by simpa using h), fun h => hF.out.f3 (by simpa using h), fun h => hF.out.f4 (by simpa using h), fun h => hF.out.f5 (by simpa using h), fun h => hF.out.f6 (by simpa using h), fun h => hF.out.f7 (by simpa using h), fun _ => rfl, fun h => hF.out.f9 (by simpa using h), fun h => hF.out.f10 (by simpa using h), fun h => hF.out.f11 (by simpa using h), fun h => by have := hF.out.p0 (by simpa using h); simpa using this, fun h => by have := hF.out.p1 (by simpa using h); simpa using this, fun h => by have := hF.out.p2 (by simpa using h); simpa using this, fun h => by have := hF.out.p3 (by simpa using h); simpa using this, fun h => by have := hF.out.p4 (by simpa using h); simpa using this, fun h => by have := hF.out.p5 (by simpa using h); simpa using this, fun h => by have := hF.out.p6 (by simpa using h); simpa using this, fun h => by have := hF.out.p7 (by simpa using h); simpa using this, fun _ => by simp, fun h => by have := hF.out.p9 (by simpa using h); simpa using this, fun h => by have := hF.out.p10 (by simpa using h); simpa using this, fun h => hF.out.bw (by simpa using h), fun h h2 => hF.out.mn (by simpa using h) (by simpa using h2), fun h => hF.out.fin (by simpa using h)⟩
          · intro d a W hI hd hdep
            obtain ⟨gs, x32, x33, x34, x35, x36, x37, x38, x39, x40, x41, x42, rfl, hF⟩ := hI
            have hd8 : d 8 = true := dep_of hdep 8 (by kernel_rfl)
            obtain rfl := hF.out.f8 hd8
            have hmk := make_sqs (bd.length + 1) (by have := HBL8.out; omega)
            rw [Int.natCast_succ] at hmk
            have HD : Hid (d 11 = false) := no_later hF.out.p9 hd
            have hbl := hF.out.bw HD.out
            have B1 := (Below.refl W.heap.size W).alloc (Nat.le_refl _) (Obj.cells (Array.replicate ((bd.length + 1) * 441) (Value.int .u8 0)) 125)
            clear hdep hd hd8
            intro K hK
            simp only [Act.put, List.setIfInBounds_toArray, List.set_cons_zero, List.set_cons_succ]
            go_simp
            refine hK.out _ _ ⟨W.heap.size, x32, x33, x34, x35, x36, x37, x38, x39, (.int .i64 ((bd.length : Int) + 1)), (.slice (some ⟨W.heap.size, 0, none⟩) (bd.length + 1) (bd.length + 1)), x42, by simp only [Act.put, List.setIfInBounds_toArray, List.set_cons_zero, List.set_cons_succ], ?_⟩
            exact ⟨fun h => hF.out.f0 (by simpa using h), fun h => hF.out.f1 (by simpa using h), fun h => hF.out.f2 (by simpa using h), fun h => hF.out.f3 (by simpa using h), fun h => hF.out.f4 (by simpa using h), fun h => hF.out.f5 (by simpa using h), fun h => hF.out.f6 (by simpa using h), fun h => hF.out.f7 (by simpa using h), fun h => hF.out.f8 (by simpa using h), fun _ => rfl, fun h => hF.out.f10 (by simpa using h), fun h => hF.out.f11 (by simpa using h), fun h => by have := hF.out.p0 (by simpa using h); simpa using this, fun h => by have := hF.out.p1 (by simpa using h); simpa using this, fun h => by have := hF.out.p2 (by simpa using h); simpa using this, fun h => by have := hF.out.p3 (by simpa using h); simpa using this, fun h => by have := hF.out.p4 (by simpa using h); simpa using this, fun h => by have := hF.out.p5 (by simpa using h); simpa using this, fun h => by have := hF.out.p6 (by simpa using h); simpa using this, fun h => by have := hF.out.p7 (by simpa using h); simpa using this, fun h => by have := hF.out.p8 (by simpa using h); simpa using this, fun _ => by simp, fun h => by have := hF.out.p10 (by simpa using h); simpa using this, fun _ => hbl.trans (B1.mono hbl.size), fun _ _ => ⟨hbl.size, sqs_made W _⟩, fun h => by have := HD.out; simp [this] at h⟩
          · intro d a W hI hd hdep
            obtain ⟨gs, x32, x33, x34, x35, x36, x37, x38, x39, x40, x41, x42, rfl, hF⟩ := hI
            have hd3 : d 3 = true := dep_of hdep 3 (by kernel_rfl)
            have hd4 : d 4 = true := dep_of hdep 4 (by kernel_rfl)
            obtain rfl := hF.out.f3 hd3
            obtain rfl := hF.out.f4 hd4
            clear hdep hd hd3 hd4
            intro K hK
            simp only [Act.put, List.setIfInBounds_toArray, List.set_cons_zero, List.set_cons_succ]
            go_simp
            refine hK.out _ _ ⟨gs, x32, x33, x34, (.slice (some ⟨bb, 0, none⟩) ps.length ps.length), (.int .i64 (k : Int)), x37, x38, x39, x40, x41, (.pointer (some ⟨bb, k, none⟩)), by simp only [Act.put, List.setIfInBounds_toArray, List.set_cons_zero, List.set_cons_succ], ?_⟩
            exact ⟨fun h => hF.out.f0 (by simpa using h), fun h => hF.out.f1 (by simpa using h), fun h => hF.out.f2 (by simpa using h), fun h => hF.out.f3 (by simpa using h), fun h => hF.out.f4 (by simpa using h), fun h => hF.out.f5 (by simpa using h), fun h => hF.out.f6 (by simpa using h), fun h => hF.out.f7 (by simpa using h), fun h => hF.out.f8 (by simpa using h), fun h => hF.out.f9 (by simpa using h), fun _ => rfl, fun h => hF.out.f11 (by simpa using h), fun h => by have := hF.out.p0 (by simpa using h); simpa using this, fun h => by have := hF.out.p1 (by simpa using h); simpa using this, fun h => by have := hF.out.p2 (by simpa using h); simpa using this, fun h => by have := hF.out.p3 (by simpa using h); simpa using this, fun h => by have := hF.out.p4 (by simpa using h); simpa using this, fun h => by have := hF.out.p5 (by simpa using h); simpa using this, fun h => by have := hF.out.p6 (by simpa using h); simpa using this, fun h => by have := hF.out.p7 (by simpa using h); simpa using this, fun h => by have := hF.out.p8 (by simpa using h); simpa using this, fun h => by have := hF.out.p9 (by simpa using h); simpa using this, fun _ => by simp, fun h => hF.out.bw (by simpa using h), fun h h2 => hF.out.mn (by simpa using h) (by simpa using h2), fun h => hF.out.fin (by simpa using h)⟩
          · intro d a W hI hd hdep
            obtain ⟨gs, x32, x33, x34, x35, x36, x37, x38, x39, x40, x41, x42, rfl, hF⟩ := hI
            have hd10 : d 10 = true := dep_of hdep 10 (by kernel_rfl)
            have hd9 : d 9 = true := dep_of hdep 9 (by kernel_rfl)
            have hd0 : d 0 = true := dep_of hdep 0 (by kernel_rfl)
            have hd1 : d 1 = true := dep_of hdep 1 (by kernel_rfl)
            have hd2 : d 2 = true := dep_of hdep 2 (by kernel_rfl)
            have hd3 : d 3 = true := dep_of hdep 3 (by kernel_rfl)
            have hd4 : d 4 = true := dep_of hdep 4 (by kernel_rfl)
            have hd5 : d 5 = true := dep_of hdep 5 (by kernel_rfl)
            have hd6 : d 6 = true := dep_of hdep 6 (by kernel_rfl)
            have hd7 : d 7 = true := dep_of hdep 7 (by kernel_rfl)
            have hd8 : d 8 = true := dep_of hdep 8 (by kernel_rfl)
            obtain rfl := hF.out.f10 hd10
            obtain rfl := hF.out.f9 hd9
            obtain rfl := hF.out.f0 hd0
            obtain rfl := hF.out.f1 hd1
            obtain rfl := hF.out.f2 hd2
            obtain rfl := hF.out.f3 hd3
            obtain rfl := hF.out.f4 hd4
            obtain rfl := hF.out.f5 hd5
            obtain rfl := hF.out.f6 hd6
            obtain rfl := hF.out.f7 hd7
            obtain rfl := hF.out.f8 hd8
            have hbl := hF.out.bw hd
            have hmn := hF.out.mn hd9 hd
            have y0 := (hbl.cell (p := ⟨bb, k, none⟩) hbb).trans ebk
            have y1 : W.frozen? ⟨bb, k, none⟩ = false := (frozen_of_block (hbl.block bb hbb) k).trans fbk
            have z0 := hd0
            have z1 := hd1
            have z2 := hd2
            have z3 := hd3
            have z4 := hd4
            have z5 := hd5
            have z6 := hd6
            have z7 := hd7
            have z8 := hd8
            have z9 := hd9
            have z10 := hd10
            clear hdep hd hd10 hd9 hd0 hd1 hd2 hd3 hd4 hd5 hd6 hd7 hd8
            intro K hK
            simp only [Act.put, List.setIfInBounds_toArray, List.set_cons_zero, List.set_cons_succ]
            go_simp
            refine hK.out _ _ ⟨gs, (.pointer (some ⟨q, 0, none⟩)), (.pointer (some ⟨q, 0, none⟩)), (.pointer (some ⟨q, 6, none⟩)), (.slice (some ⟨bb, 0, none⟩) ps.length ps.length), (.int .i64 (k : Int)), (.pointer (some ⟨gp, 1, none⟩)), (.slice uo bd.length uc), (.int .i64 (bd.length : Int)), (.int .i64 ((bd.length : Int) + 1)), (.slice (some ⟨gs, 0, none⟩) (bd.length + 1) (bd.length + 1)), (.pointer (some ⟨bb, k, none⟩)), by simp only [Act.put, List.setIfInBounds_toArray, List.set_cons_zero, List.set_cons_succ], ?_⟩
            exact ⟨fun h => hF.out.f0 (by simpa using h), fun h => hF.out.f1 (by simpa using h), fun h => hF.out.f2 (by simpa using h), fun h => hF.out.f3 (by simpa using h), fun h => hF.out.f4 (by simpa using h), fun h => hF.out.f5 (by simpa using h), fun h => hF.out.f6 (by simpa using h), fun h => hF.out.f7 (by simpa using h), fun h => hF.out.f8 (by simpa using h), fun h => hF.out.f9 (by simpa using h), fun h => hF.out.f10 (by simpa using h), fun _ => trivial, fun _ => by simpa using z0, fun _ => by simpa using z1, fun _ => by simpa using z2, fun _ => by simpa using z3, fun _ => by simpa using z4, fun _ => by simpa using z5, fun _ => by simpa using z6, fun _ => by simpa using z7, fun _ => by simpa using z8, fun _ => by simpa using z9, fun _ => by simpa using z10, fun h => by simp at h, fun _ h => by simp at h, fun _ => ⟨_, hbl, hmn.1, hmn.2, rfl⟩⟩
        · intro d a W hI hall
          obtain ⟨gs, x32, x33, x34, x35, x36, x37, x38, x39, x40, x41, x42, rfl, hF⟩ := hI
          simp only [List.length_cons, List.length_nil] at hall
          obtain rfl := hF.out.f0 (hall 0 (by omega))
          obtain rfl := hF.out.f1 (hall 1 (by omega))
          obtain rfl := hF.out.f2 (hall 2 (by omega))
          obtain rfl := hF.out.f3 (hall 3 (by omega))
          obtain rfl := hF.out.f4 (hall 4 (by omega))
          obtain rfl := hF.out.f5 (hall 5 (by omega))
          obtain rfl := hF.out.f6 (hall 6 (by omega))
          obtain rfl := hF.out.f7 (hall 7 (by omega))
          obtain rfl := hF.out.f8 (hall 8 (by omega))
          obtain rfl := hF.out.f9 (hall 9 (by omega))
          obtain rfl := hF.out.f10 (hall 10 (by omega))
          obtain ⟨W6, hW1, hW2, hW3, rfl⟩ := hF.out.fin (hall 11 (by omega))
          have HNX : Hid (Cp w ⟨q, bn, bb, fun p => if p = k then gs else bs p⟩ t n (.slice (some ⟨pb, po, none⟩) ps.length pc) (.slice wao ws.length wc) ps op (k + 1) (W6.setCell ⟨bb, k, none⟩ (.slice (some ⟨gs, 0, none⟩) (bd.length + 1) (bd.length + 1)))) := by
            have := (HCP1.out.next hW1).push (gs := gs) (Nat.le_trans HCP1.out.bel.size hW2) (fun e => by have := HCP1.out.ls.1; omega) (fun e => by have := HCP1.out.ls.2.1; omega) (fun e => by have := HCP1.out.ls.2.2; omega) (fun p hp e => by have := (HCP1.out.body p hp).lt; omega) (by rw [HBD.out]; exact hW3)
            rw [HBD.out] at this; exact this
          clear hF hall hW1 hW2 hW3
          simp only [Act.put, List.setIfInBounds_toArray, List.set_cons_zero, List.set_cons_succ]
          go_wp2_with fail
          go_roundw
          case rel => exact ⟨k + 1, by omega, by go_num, _, HNX⟩
          case measure => simp [intOf]; omega
      · obtain rfl : k = ps.length := by omega
        have HCH : Hid (Ch w ⟨q, bn, bb, bs⟩ t n (.slice pao ps.length pc) (.slice wao ws.length wc) ps ws op (fun _ _ _ => 0) (fun _ _ _ _ => 0) wr) := HCPk.out.whole ws
        clear HCPk HMN HMB HNB HBX
        obtain ⟨y, HY⟩ : ∃ y : Lay, Hid (y = ⟨q, bn, bb, bs⟩) := ⟨_, (rfl : (⟨q, bn, bb, bs⟩ : Lay) = _)⟩
        obtain rfl : q = y.q := by rw [HY.out]
        rw [← HY.out] at HCH
        have HS0 : Hid (∃ N B, Ch w y t n (.slice pao ps.length pc) (.slice wao ws.length wc) ps ws op N B wr ∧ At (lf op ws) ps (ws.length + 1) (ws.length + 1) (ws.length + 1) N ∧ Bi (lf op ws) ps (ws.length + 1) (ws.length + 1) (ws.length + 1) N B) := ⟨_, _, HCH.out, At.start _ (by omega), fun _ _ _ _ _ => rfl, fun p k i j _ _ hd h1 h2 => by rcases hd with h | h <;> omega⟩
        clear HCH HY
        go_wp2_with fail
        go_loopw [10] (fun v wr => ∃ f : Nat, f ≤ ws.length + 1 ∧ v = .int .i64 ((f : Int) - 1) ∧ Hid (∃ N B, Ch w y t n (.slice pao ps.length pc) (.slice wao ws.length wc) ps ws op N B wr ∧ At (lf op ws) ps (ws.length + 1) f (ws.length + 1) N ∧ Bi (lf op ws) ps (ws.length + 1) f (ws.length + 1) N B)) (fun v _ => (intOf v + 1).toNat)
        case atStart => exact ⟨ws.length + 1, by omega, by go_num, HS0⟩
        case round =>
          obtain ⟨f, hf, rfl, HE⟩ := hrel
          cases f with
          | zero =>
            have HFIN : Hid (ChartP w t n (.slice pao ps.length pc) (.slice wao ws.length wc) ps ws op y wr) := by
              obtain ⟨N, B, h1, h2, h3⟩ := HE.out
              exact ⟨N, B, h1, h2.done, fun p k i j hp hk hi hj => h3.d p k i j hp hk (by unfold Dn2; omega) hi hj⟩
            clear HE
            go_wp2_with fail
            go_ret
            have hfin := HFIN.out
            exact ⟨y, by simp, hfin⟩
          | succ i =>
            have hi0 : (0 : Int) ≤ ((i + 1 : Nat) : Int) - 1 := by omega
            have hi1 : ((i + 1 : Nat) : Int) - 1 = (i : Int) := by omega
            rw [hi1]
            have HE2 : Hid (∃ N B, Ch w y t n (.slice pao ps.length pc) (.slice wao ws.length wc) ps ws op N B wr ∧ At (lf op ws) ps (ws.length + 1) i i N ∧ Bi (lf op ws) ps (ws.length + 1) i i N B) := by
              obtain ⟨N, B, h1, h2, h3⟩ := HE.out
              exact ⟨N, B, h1, h2.row, h3.row⟩
            clear HE hi0 hi1
            go_wp2_with fail
            go_loopw [11] (fun v wr => ∃ j : Nat, i ≤ j ∧ j ≤ ws.length + 1 ∧ v = .int .i64 (j : Int) ∧ Hid (∃ N B, Ch w y t n (.slice pao ps.length pc) (.slice wao ws.length wc) ps ws op N B wr ∧ At (lf op ws) ps (ws.length + 1) i j N ∧ Bi (lf op ws) ps (ws.length + 1) i j N B)) (fun v _ => ws.length + 1 - (intOf v).toNat)
            case atStart => exact ⟨i, by omega, by omega, rfl, HE2⟩
            case round =>
              obtain ⟨j, hij, hj, rfl, HE3⟩ := hrel
              by_cases hlt : j ≤ ws.length
              · obtain ⟨N, B, h1, h2, h3⟩ := HE3.out
                have hcall := settle_any2 w y t n (.slice pao ps.length pc) (.slice wao ws.length wc) ps ws op N B wr HRC.out h1 i j hij hlt h2 h3
                have hj1 : (j : Int) ≤ (ws.length : Int) := by omega
                clear h1 h2 h3 HE3
                go_wp2_with fail
                refine hcall.mono ?_
                rintro _ w2 ⟨rfl, N, B, h1, -, h2, h3⟩
                have HE4 : Hid (∃ N B, Ch w y t n (.slice pao ps.length pc) (.slice wao ws.length wc) ps ws op N B w2 ∧ At (lf op ws) ps (ws.length + 1) i (j + 1) N ∧ Bi (lf op ws) ps (ws.length + 1) i (j + 1) N B) := ⟨N, B, h1, h2, h3⟩
                clear h1 h2 h3 hcall
                go_wp2_with fail
                go_roundw
                case rel => exact ⟨j + 1, by omega, by omega, by go_num, HE4⟩
                case measure => simp [intOf]; omega
              · obtain rfl : j = ws.length + 1 := by omega
                go_wp2_with fail
                go_roundw
                case rel => exact ⟨i, by omega, by go_num, HE3⟩
                case measure => first | (simp [intOf]; done) | (simp [intOf]; omega)
end Go.Proofs.Ytpbnnmfjahckmaa
