/-
  The contract of chart.node.
-/
import Derived.Test.YtpfehghicaaghaaChNodB
import Derived.Test.YtpfehghicaaghaaChTrees
namespace Go.Proofs.Ytpfehghicaaghaa
open Go.RowKit
open Cg

structure RNd (NC NC2 : World → Prop) (q lb kb g bl sb c u0 u1 : Nat) (s0 s1 : Int) (k1 k2' : Nat) (xk : T) (p2 : Int) (k2 : Int) (a2 : Option Addr) (m2 : Nat) (c2 : Nat) (d : Nat → Bool) (x64 x65 x66 x67 x68 x69 x70 x71 x72 x73 x74 x75 x76 x77 x78 x79 x80 : Value) (W : World) : Prop where
  f0 : d 0 = true → x64 = (.pointer (some ⟨kb + 1, 2, none⟩))
  f1 : d 1 = true → x65 = (.slice (some ⟨kb, 0, none⟩) bl bl)
  f2 : d 2 = true → x66 = (.int .i64 (c : Int))
  f3 : d 3 = true → x67 = (.pointer (some ⟨q, 0, none⟩))
  f4 : d 4 = true → x68 = (.agg #[.int .i64 s0, .int .i64 s1])
  f5 : d 5 = true → x69 = (.slice (some ⟨g, 0, none⟩) (bl + 1) (bl + 1))
  f6 : d 6 = true → x70 = (.int .i64 (c : Int))
  f7 : d 7 = true → x71 = (.pointer (some ⟨g, c, none⟩))
  f8 : d 8 = true → x72 = (.int .i64 (u0 : Int))
  f9 : d 9 = true → x73 = (.slice (some ⟨g, 0, none⟩) (bl + 1) (bl + 1))
  f10 : d 10 = true → x74 = (.int .i64 (c : Int))
  f11 : d 11 = true → x75 = (.int .i64 ((c : Int) + 1))
  f12 : d 12 = true → x76 = (.pointer (some ⟨g, c + 1, none⟩))
  f13 : d 13 = true → x77 = (.int .i64 (u1 : Int))
  f14 : d 14 = true → x78 = (.pointer (some ⟨lb, 0, none⟩))
  f15 : d 15 = true → x79 = (.agg #[.int .i64 p2, .int .i64 k2, .slice a2 m2 c2])
  f16 : d 16 = true → x80 = (.pointer (some ⟨kb, c * 3, none⟩))
  f17 : d 17 = true → True
  o16_1 : d 16 = true → d 1 = true
  o17_15 : d 17 = true → d 15 = true
  o17_16 : d 17 = true → d 16 = true
  o15_4 : d 15 = true → d 4 = true
  o15_8 : d 15 = true → d 8 = true
  o15_13 : d 15 = true → d 13 = true
  nc : d 17 = false → NC W
  bs : d 15 = false → W.heap[sb]? = some (.cells #[.int .i64 s0, .int .i64 s1] 47)
  lv0 : d 15 = false → W.heap[lb]? = some (.cells #[.int .i64 (k1 : Int)] 3)
  lv1 : d 15 = true → W.heap[lb]? = some (.cells #[.int .i64 (k2' : Int)] 3)
  tx : d 15 = true → d 17 = false → Tx W (fun b => kb + 1 < b) (.agg #[.int .i64 p2, .int .i64 k2, .slice a2 m2 c2]) xk
  fin : d 17 = true → NC2 W

/-- What the tables say of trees. -/
structure Nt (ps : List Pd) (ws : List Int) (op : Bool) (N : Tb) (B : Nat → Nat → Nat → Nat → Nat) : Prop where
  n2 : ∀ a i j, N a i j ≤ 2
  low : ∀ a i j, j < i → N a i j = 0
  bv : ∀ p k i j, p < ps.length → k ≤ (ps.getD p (0, [])).2.length → i ≤ j → j < ws.length + 1 → B p k i j = vB ps (ws.length + 1) (on1 (lf op ws) N) p i j k
  one : ∀ s i j, (s.1 = 1 ∨ s.1 = 2) → on1 (lf op ws) N s i j ≠ 0 → ∃ t, Sp ps ws t s i j
  all : ∀ p i j l, p < ps.length → SpL ps ws l (ps.getD p (0, [])).2 i j → B p (ps.getD p (0, [])).2.length i j ≠ 0
set_option maxHeartbeats 8000000 in
set_option maxRecDepth 20000 in
theorem node_all (w0 : World) (y : Lay) (t : Int) (n : Nat) (pv wv : Value) (ps : List Pd) (ws : List Int) (op : Bool) (N : Tb) (B : Nat → Nat → Nat → Nat → Nat) (rc : Rc w0 t n pv wv ps ws) (nt : Nt ps ws op N B) (m : Nat) :
    ∀ (k : Nat) (s0 s1 : Int) (i j lb : Nat) (x : T) (w : World), k ≤ m → k ≤ 1000 → Ch w0 y t n pv wv ps ws op N B w → ((s0 = 1 ∧ 0 ≤ s1 ∧ s1 < t) ∨ (s0 = 2 ∧ 0 ≤ s1 ∧ s1 < (n : Int))) → Sp ps ws x (s0, s1) i j → (∀ z, Sp ps ws z (s0, s1) i j → z = x) → w.heap[lb]? = some (.cells #[.int .i64 (k : Int)] 3) → w0.heap.size ≤ lb → (lb ≠ y.q ∧ lb ≠ y.bn ∧ lb ≠ y.bb ∧ ∀ p, p < ps.length → y.bs p ≠ lb) →
    Calls Try.prog 67 #[.pointer (some ⟨y.q, 0, none⟩), .agg #[.int .i64 s0, .int .i64 s1], .int .i64 (i : Int), .int .i64 (j : Int), .pointer (some ⟨lb, 0, none⟩)] w fun e w' => ∃ v, e = .returned v ∧ Tx w' (fun b => w.heap.size ≤ b) v (cutT k x).2 ∧ w'.heap[lb]? = some (.cells #[.int .i64 ((cutT k x).1 : Int)] 3) ∧ Fm (fun b => b = lb) w w' := by
  induction m with
  | zero =>
    intro k s0 s1 i j lb x w hk _ hc hs hx hu hlb hl0 hl1
    obtain rfl : k = 0 := by omega
    exact node_zero y.q s0 s1 i j lb x w hlb
  | succ m ih =>
    intro k s0 s1 i j lb x w hk hk1 hc hs hx hu hlb hl0 hl1
    have HIH : Hid _ := ih
    cases k with
    | zero => exact node_zero y.q s0 s1 i j lb x w hlb
    | succ k =>
      by_cases h4 : s0 = 1
      · obtain rfl := ((sp_leaf h4).1 hx).2
        exact node_leaf y.q k hk1 s0 s1 h4 i j lb w hlb
      · obtain rfl : s0 = 2 := by omega
        have hs1 : 0 ≤ s1 := by omega
        obtain ⟨a, rfl⟩ : ∃ a : Nat, s1 = (a : Int) := ⟨s1.toNat, by omega⟩
        obtain ⟨q0, hq0, hh0, l0, hsl0, rfl⟩ := (sp_node h4).1 hx
        have hij := hx.ij
        have hj := hx.jl
        have hb0 := nt.all q0 i j l0 hq0 hsl0
        have hlt := heap_lt3 hlb
        have HLB : Hid (w.heap[lb]? = some (.cells #[.int .i64 ((k + 1 : Nat) : Int)] 3)) := hlb
        have HBA : Hid (Below w.heap.size w ((w.alloc (Obj.cells #[.int .i64 2, .int .i64 (a : Int)] 47)).alloc (Obj.cells #[.int .i64 0, .int .i64 0, .slice none 0 0] 32))) := two_allocs _ _ _
        have g0 := cell_new w #[.int .i64 2, .int .i64 (a : Int)] 47
        have HBT : Hid (Below (w.heap.size + 1) (w.alloc (Obj.cells #[.int .i64 2, .int .i64 (a : Int)] 47)) ((w.alloc (Obj.cells #[.int .i64 2, .int .i64 (a : Int)] 47)).alloc (Obj.cells #[.int .i64 0, .int .i64 0, .slice none 0 0] 32))) := by show Below _ _ _; have := below_alloc (w.alloc (Obj.cells #[.int .i64 2, .int .i64 (a : Int)] 47)) (Obj.cells #[.int .i64 0, .int .i64 0, .slice none 0 0] 32); simpa using this
        have c0 : (((w.alloc (Obj.cells #[.int .i64 2, .int .i64 (a : Int)] 47)).alloc (Obj.cells #[.int .i64 0, .int .i64 0, .slice none 0 0] 32))).cell? ⟨lb, 0, none⟩ = some (.int .i64 ((k : Int) + 1)) := (HBA.out.cell (p := ⟨lb, 0, none⟩) hlt).trans (by simp [World.cell?, hlb])
        have y0 : (((w.alloc (Obj.cells #[.int .i64 2, .int .i64 (a : Int)] 47)).alloc (Obj.cells #[.int .i64 0, .int .i64 0, .slice none 0 0] 32))).cell? ⟨w.heap.size, 0, none⟩ = some (.int .i64 2) := (HBT.out.cell (p := ⟨w.heap.size, 0, none⟩) (by simp)).trans (g0 0)
        have y1 : (((w.alloc (Obj.cells #[.int .i64 2, .int .i64 (a : Int)] 47)).alloc (Obj.cells #[.int .i64 0, .int .i64 0, .slice none 0 0] 32))).cell? ⟨w.heap.size, 1, none⟩ = some (.int .i64 (a : Int)) := (HBT.out.cell (p := ⟨w.heap.size, 1, none⟩) (by simp)).trans (g0 1)
        have f0 : (((w.alloc (Obj.cells #[.int .i64 2, .int .i64 (a : Int)] 47)).alloc (Obj.cells #[.int .i64 0, .int .i64 0, .slice none 0 0] 32))).frozen? ⟨lb, 0, none⟩ = false := by have := HBA.out.block lb hlt; simp [World.frozen?, this, hlb]
        have hk0 : ((k : Int) + 1 == 0) = false := by simp; omega
        have hkb : (k : Int) ≤ 1000 := by omega
        have HC1 : Hid (Ch w0 y t n pv wv ps ws op N B (((w.setCell ⟨lb, 0, none⟩ (.int .i64 (k : Int))).alloc (Obj.cells #[.int .i64 2, .int .i64 (a : Int)] 47)).alloc (Obj.cells #[.int .i64 0, .int .i64 0, .slice none 0 0] 32))) := by
          have h1 := hc.other (a := ⟨lb, 0, none⟩) hl0 (fun e => hl1.1 e.symm) (fun e => hl1.2.1 e.symm) (fun e => hl1.2.2.1 e.symm) (fun p hp => hl1.2.2.2 p hp) (.int .i64 (k : Int))
          exact h1.next (two_allocs _ _ _)
        have HF1 : Hid (Fm (fun b => b = lb) w (((w.setCell ⟨lb, 0, none⟩ (.int .i64 (k : Int))).alloc (Obj.cells #[.int .i64 2, .int .i64 (a : Int)] 47)).alloc (Obj.cells #[.int .i64 0, .int .i64 0, .slice none 0 0] 32))) := (Fm.set (X := fun b => b = lb) _ rfl).trans (Fm.of (two_allocs _ _ _)) fun _ _ h => h
        have HL1 : Hid ((((w.setCell ⟨lb, 0, none⟩ (.int .i64 (k : Int))).alloc (Obj.cells #[.int .i64 2, .int .i64 (a : Int)] 47)).alloc (Obj.cells #[.int .i64 0, .int .i64 0, .slice none 0 0] 32)).heap[lb]? = some (.cells #[.int .i64 (k : Int)] 3)) := by
          show _ = _
          rw [(two_allocs _ _ _).block lb (by simpa using hlt)]
          exact heap_setCell_same w lb 0 _ 3 (.int .i64 (k : Int)) HLB.out
        have HT1 : Hid ((((w.setCell ⟨lb, 0, none⟩ (.int .i64 (k : Int))).alloc (Obj.cells #[.int .i64 2, .int .i64 (a : Int)] 47)).alloc (Obj.cells #[.int .i64 0, .int .i64 0, .slice none 0 0] 32)).heap[w.heap.size + 1]? = some (.cells #[.int .i64 0, .int .i64 0, .slice none 0 0] 32)) := by
          show _ = _
          have := heap_alloc2_new (w.setCell ⟨lb, 0, none⟩ (.int .i64 (k : Int))) (.cells #[.int .i64 2, .int .i64 (a : Int)] 47) (.cells #[.int .i64 0, .int .i64 0, .slice none 0 0] 32)
          simpa using this
        have HS1 : Hid ((((w.setCell ⟨lb, 0, none⟩ (.int .i64 (k : Int))).alloc (Obj.cells #[.int .i64 2, .int .i64 (a : Int)] 47)).alloc (Obj.cells #[.int .i64 0, .int .i64 0, .slice none 0 0] 32)).heap.size = w.heap.size + 2) := by show _ = _; simp
        have HYK : Hid (y.q < w.heap.size ∧ y.bn < w.heap.size ∧ y.bb < w.heap.size ∧ ∀ p, p < ps.length → y.bs p < w.heap.size) := ⟨heap_lt3 hc.box, hc.nons.lt, hc.bods.lt, fun p hp => (hc.body p hp).lt⟩
        have HFIN : Hid (cutT (k + 1) (.mk (q0 : Int) 0 l0) = (k - szL l0, .mk (q0 : Int) 0 (cutL k l0).2)) := by show _ = _; rw [cutT, ← cutL_left]
        have HU : Hid (∀ z, Sp ps ws z (2, (a : Int)) i j → z = .mk (q0 : Int) 0 l0) := hu
        clear HBT g0 hlb hx hu hsl0 hs hc
        go_enter Try.func67, Try.ntmps67
        go_wp2_with fail
        generalize ((w.setCell ⟨lb, 0, none⟩ (.int .i64 (k : Int))).alloc (Obj.cells #[.int .i64 2, .int .i64 (a : Int)] 47)).alloc (Obj.cells #[.int .i64 0, .int .i64 0, .slice none 0 0] 32) = w1 at HC1 HF1 HL1 HT1 HS1 ⊢
        refine (prod_any w0 y t n pv wv ps ws op N B w1 rc HC1.out a i j hij hj q0 hq0 hh0 hb0).mono ?_
        rintro _ w2 ⟨q, rfl, hq, hqh, hqb, hb2⟩
        have hvq : vB ps (ws.length + 1) (on1 (lf op ws) N) q i j (ps.getD q (0, [])).2.length ≠ 0 := by
          rw [← nt.bv q _ i j hq (Nat.le_refl _) hij (by omega)]; exact hqb
        have HC2 : Hid (Ch w0 y t n pv wv ps ws op N B w2) := HC1.out.next hb2
        have hcut := cuts_any w0 y t n pv wv ps ws op N B w2 rc HC2.out nt.n2 nt.low nt.bv q i j hij hj hq hvq
        have HRC : Hid (Rc w0 t n pv wv ps ws) := rc
        obtain ⟨pao, pc, rfl, hpm, -⟩ := id rc.pds
        obtain ⟨pb, po, uo, uc, rfl, hpb, -, hc1, hsy⟩ := rc.cell hq
        obtain ⟨-, hbl8, -, -⟩ := rc.at hq
        have HSY : Hid (Syms w0 (.slice uo (ps.getD q (0, [])).2.length uc) (ps.getD q (0, [])).2) := hsy
        have z2 : w2.cell? ⟨y.q, 2, none⟩ = some (.slice (some ⟨pb, po, none⟩) ps.length pc) := HC2.out.bcell 2
        replace hc1 : w2.cell? ⟨pb, po + q * 2 + 1, none⟩ = some (.slice uo (ps.getD q (0, [])).2.length uc) := (HC2.out.bel.cell (p := ⟨pb, po + q * 2 + 1, none⟩) hpb).trans hc1
        have hq2 : (q : Int) < (ps.length : Int) := by omega
        have HF2 : Hid (Fm (fun b => b = lb) w w2) := HF1.out.trans (Fm.of hb2) fun _ _ h => h
        have HL2 : Hid (w2.heap[lb]? = some (.cells #[.int .i64 (k : Int)] 3)) := (hb2.block lb (heap_lt3 HL1.out)).trans HL1.out
        have HT2 : Hid (w2.heap[w.heap.size + 1]? = some (.cells #[.int .i64 0, .int .i64 0, .slice none 0 0] 32)) := (hb2.block _ (heap_lt3 HT1.out)).trans HT1.out
        have HS2 : Hid (w.heap.size + 2 ≤ w2.heap.size) := by have := hb2.size; have := HS1.out; show _ ≤ _; omega
        clear hb2 hsy rc hpm HC1 HF1 HL1 HT1 HS1 c0 y0 y1 f0 hk0
        obtain ⟨bl, HBLN⟩ : ∃ bl, Hid ((ps.getD q (0, [])).2.length = bl) := ⟨_, (rfl : (ps.getD q (0, [])).2.length = _)⟩
        rw [HBLN.out] at hc1 hbl8 hcut
        go_wp2_with fail
        refine hcut.mono ?_
        rintro _ w3 ⟨g, f, rfl, hrw, hcu, hg, hb3⟩
        obtain ⟨l, hxl, hll, hkids⟩ := cu2_tree (s := (2, (a : Int))) hcu nt.one (kd_at HRC.out.kd hq) hj h4 hq hqh HU.out
        injection hxl with hx1 hx2 hx3
        have hx4 : q0 = q := by omega
        subst hx4 hx3
        have HK : Hid (∀ c, c < (ps.getD q0 (0, [])).2.length → ∃ y, l0[c]? = some y ∧ Sp ps ws y ((ps.getD q0 (0, [])).2.getD c (0, 0)) (f c) (f (c + 1)) ∧ ∀ t, Sp ps ws t ((ps.getD q0 (0, [])).2.getD c (0, 0)) (f c) (f (c + 1)) → t = y) := hkids
        have HLL : Hid (l0.length = bl) := by show _ = _; rw [hll]; exact HBLN.out
        have HC3 := HC2.out.next hb3
        have HRW : Hid (w3.rowIs g 3 (bl + 1) (fun x => .int .i64 ((f x : Nat) : Int))) := hrw
        have HB3 : Hid (Below w2.heap.size w2 w3) := hb3
        have HCU : Hid (Cu2 ps (ws.length + 1) (on1 (lf op ws) N) q0 i j 0 f) := hcu
        have HCH : Hid (Ch w0 y t n _ wv ps ws op N B w3) := HC3
        clear hkids hll hx1 hcut hrw hcu hb3 HC3 z2 hc1
        have hmk : (Instr.makeSlice 30 (.int .i64 (bl : Int)) (.int .i64 (bl : Int))).run Try.prog w3 = .ok (.slice (some ⟨w3.heap.size, 0, none⟩) bl bl) (w3.alloc (.cells (madeCells #[.int .i64 0, .int .i64 0, .slice none 0 0] (bl * 3)) 32)) := make32 bl hbl8 w3
        have hbl80 : (bl : Int) ≤ 8 := by omega
        have B4 := two_allocs w3 (.cells (madeCells #[.int .i64 0, .int .i64 0, .slice none 0 0] (bl * 3)) 32) (.cells #[.int .i64 (q0 : Int), .int .i64 0, .slice (some ⟨w3.heap.size, 0, none⟩) bl bl] 32)
        have HLT : Hid (lb < w.heap.size) := heap_lt3 HLB.out
        have HN0 : Hid (Nc w w0 y t n (.slice (some ⟨pb, po, none⟩) ps.length pc) wv ps ws op N B lb w3.heap.size g bl f (q0 : Int) k l0 0 ((w3.alloc (Obj.cells (madeCells #[.int .i64 0, .int .i64 0, .slice none 0 0] (bl * 3)) 32)).alloc (Obj.cells #[.int .i64 (q0 : Int), .int .i64 0, .slice (some ⟨w3.heap.size, 0, none⟩) bl bl] 32))) := by
          refine ⟨HCH.out.next B4, (HF2.out.trans (Fm.of HB3.out) fun _ _ h => h).trans (Fm.of B4) fun _ _ h => h, ?_, (B4.block _ (by have := HS2.out; have := HB3.out.size; omega)).trans ((HB3.out.block _ (by have := HS2.out; omega)).trans HT2.out), HRW.out.of_block (B4.block _ HRW.out.lt), ?_, HLT.out, hl0, hl1, by have := HS2.out; omega, HRW.out.lt, HYK.out⟩
          · have := heap_alloc2_new w3 (.cells (madeCells #[.int .i64 0, .int .i64 0, .slice none 0 0] (bl * 3)) 32) (.cells #[.int .i64 (q0 : Int), .int .i64 0, .slice (some ⟨w3.heap.size, 0, none⟩) bl bl] 32)
            simpa using this
          · have hsz : (madeCells #[Value.int .i64 0, Value.int .i64 0, Value.slice none 0 0] (bl * 3)).size = bl * 3 := by simp [madeCells]
            have h1 := World.rowIs_alloc w3 (madeCells #[Value.int .i64 0, Value.int .i64 0, Value.slice none 0 0] (bl * 3)) 32 (fun x => ((madeCells #[Value.int .i64 0, Value.int .i64 0, Value.slice none 0 0] (bl * 3))[x]?).getD undef) (fun i hi => by rw [Array.getElem?_eq_getElem hi]; rfl)
            rw [hsz] at h1
            exact ⟨_, fun _ => undef, h1.alloc _, fun i hi => absurd hi (Nat.not_lt_zero _)⟩
        have HL0 : Hid (((w3.alloc (Obj.cells (madeCells #[.int .i64 0, .int .i64 0, .slice none 0 0] (bl * 3)) 32)).alloc (Obj.cells #[.int .i64 (q0 : Int), .int .i64 0, .slice (some ⟨w3.heap.size, 0, none⟩) bl bl] 32)).heap[lb]? = some (.cells #[.int .i64 ((k - szL (l0.take 0) : Nat) : Int)] 3)) := by
          show _ = _
          rw [List.take_zero, szL, Nat.sub_zero]
          exact (B4.block _ (by have := HLT.out; have := HS2.out; have := HB3.out.size; omega)).trans ((HB3.out.block _ (by have := HLT.out; have := HS2.out; omega)).trans HL2.out)
        have HTK8 : Hid (k ≤ m) := by show k ≤ m; omega
        clear B4 HT2 HB3 HL2 HF2 HCH HC2 HRW hx2
        go_wp2_with fail
        obtain ⟨W4, HW4⟩ : ∃ W4, Hid (((w3.alloc (Obj.cells (madeCells #[.int .i64 0, .int .i64 0, .slice none 0 0] (bl * 3)) 32)).alloc (Obj.cells #[.int .i64 (q0 : Int), .int .i64 0, .slice (some ⟨w3.heap.size, 0, none⟩) bl bl] 32)) = W4) := ⟨_, (rfl : ((w3.alloc (Obj.cells (madeCells #[.int .i64 0, .int .i64 0, .slice none 0 0] (bl * 3)) 32)).alloc (Obj.cells #[.int .i64 (q0 : Int), .int .i64 0, .slice (some ⟨w3.heap.size, 0, none⟩) bl bl] 32)) = _)⟩
        rw [HW4.out] at HN0 HL0 ⊢
        obtain ⟨kb, HKB⟩ : ∃ kb, Hid (w3.heap.size = kb) := ⟨_, (rfl : w3.heap.size = _)⟩
        rw [HKB.out] at HN0 ⊢
        clear HW4 HKB hmk
        go_loopw [59] (fun q wr => ∃ c : Nat, c ≤ bl ∧ q = .int .i64 (c : Int) ∧ Nc w w0 y t n (.slice (some ⟨pb, po, none⟩) ps.length pc) wv ps ws op N B lb kb g bl f (q0 : Int) k l0 c wr ∧ wr.heap[lb]? = some (.cells #[.int .i64 ((k - szL (l0.take c) : Nat) : Int)] 3)) (fun q _ => bl - (intOf q).toNat)
        case atStart => exact ⟨0, Nat.zero_le _, rfl, HN0.out, HL0.out⟩
        case round =>
          obtain ⟨c, hcl, rfl, hnc, hlv⟩ := hrel
          clear HN0 HL0
          by_cases hlt : c < bl
          · have hlt2 : c < (ps.getD q0 (0, [])).2.length := by rw [HBLN.out]; exact hlt
            obtain ⟨b2, o2, rfl, hb2, d0, d1⟩ := HSY.out.cell hlt2
            obtain ⟨x, hx1, hx2, hx3⟩ := HK.out c hlt2
            have HGE : Hid ((ps.getD q0 (0, [])).2.getD c (0, 0) = (ps.getD q0 (0, [])).2[c]) := by show _ = _; rw [List.getD_eq_getElem?_getD, List.getElem?_eq_getElem hlt2]; rfl
            have hso := (HRC.out.at hq).1 _ (List.getElem_mem hlt2)
            rw [HGE.out] at hx2 hx3
            clear HGE
            generalize (ps.getD q0 (0, [])).2[c] = sy at d0 d1 hx2 hx3 hso
            obtain ⟨s0, s1⟩ := sy
            replace d0 : wr.cell? ⟨b2, o2 + c * 2, none⟩ = some (.int .i64 s0) := (hnc.ch.bel.cell (p := ⟨b2, o2 + c * 2, none⟩) hb2).trans d0
            replace d1 : wr.cell? ⟨b2, o2 + c * 2 + 1, none⟩ = some (.int .i64 s1) := (hnc.ch.bel.cell (p := ⟨b2, o2 + c * 2 + 1, none⟩) hb2).trans d1
            obtain ⟨K1, HK1⟩ : ∃ K1, Hid (k - szL (l0.take c) = K1) := ⟨_, (rfl : k - szL (l0.take c) = _)⟩
            obtain ⟨K2, HK2⟩ : ∃ K2, Hid (k - szL (l0.take (c + 1)) = K2) := ⟨_, (rfl : k - szL (l0.take (c + 1)) = _)⟩
            obtain ⟨xk, HXK⟩ : ∃ xk, Hid ((cutT K1 x).2 = xk) := ⟨_, (rfl : (cutT K1 x).2 = _)⟩
            have HXL : Hid ((cutL k l0).2[c]? = some xk) := by show _ = _; rw [cutL_at l0 k c x hx1, HK1.out, HXK.out]
            have HKK : Hid ((cutT K1 x).1 = K2) := by show _ = _; rw [cutT_left, ← HK1.out, ← HK2.out, szL_take l0 c x hx1, Nat.sub_sub]
            rw [HK1.out] at hlv
            have HCL : Hid (∀ X, Nc w w0 y t n (.slice (some ⟨pb, po, none⟩) ps.length pc) wv ps ws op N B lb kb g bl f (q0 : Int) k l0 c X → X.heap[lb]? = some (.cells #[.int .i64 (K1 : Int)] 3) → Calls Try.prog 67 #[.pointer (some ⟨y.q, 0, none⟩), .agg #[.int .i64 s0, .int .i64 s1], .int .i64 (f c : Int), .int .i64 (f (c + 1) : Int), .pointer (some ⟨lb, 0, none⟩)] X fun e w' => ∃ p9 k9 a9 m9 c9, e = .returned (.agg #[.int .i64 p9, .int .i64 k9, .slice a9 m9 c9]) ∧ Tx w' (fun b => kb + 1 < b) (.agg #[.int .i64 p9, .int .i64 k9, .slice a9 m9 c9]) xk ∧ w'.heap[lb]? = some (.cells #[.int .i64 (K2 : Int)] 3) ∧ Fm (fun b => b = lb) X w') := fun X hX hXl => by
              refine (HIH.out K1 s0 s1 (f c) (f (c + 1)) lb x X (by have := HK1.out; have := HTK8.out; omega) (by have := HK1.out; omega) hX.ch hso hx2 hx3 hXl hl0 hl1).mono ?_
              rintro e w' ⟨v, rfl, h1, h2, h3⟩
              obtain ⟨p9, k9, a9, c9, kids, vals, rfl, -⟩ := h1.shape
              rw [HXK.out] at h1
              rw [HKK.out] at h2
              exact ⟨p9, k9, a9, _, c9, rfl, h1.mono fun b _ hp => (by have hp2 : X.heap.size ≤ b := hp; have := heap_lt3 hX.tv; show kb + 1 < b; omega), h2, h3⟩
            have HSB : Hid ((wr.alloc (Obj.cells #[.int .i64 s0, .int .i64 s1] 47)).heap[wr.heap.size]? = some (.cells #[.int .i64 s0, .int .i64 s1] 47)) := heap_alloc_new _ _
            have HN1 : Hid (Nc w w0 y t n (.slice (some ⟨pb, po, none⟩) ps.length pc) wv ps ws op N B lb kb g bl f (q0 : Int) k l0 c (wr.alloc (Obj.cells #[.int .i64 s0, .int .i64 s1] 47))) := hnc.next (below_alloc _ _)
            have HL1 : Hid ((wr.alloc (Obj.cells #[.int .i64 s0, .int .i64 s1] 47)).heap[lb]? = some (.cells #[.int .i64 (K1 : Int)] 3)) := ((below_alloc _ _).block _ (heap_lt3 hlv)).trans hlv
            have hk1 : (c : Int) < (bl : Int) := by omega
            clear hx1 hx2 hx3 hso hlv
            go_upto_region 13 with fail
            obtain ⟨wx, HWX⟩ : ∃ wx, Hid (wr.alloc (Obj.cells #[.int .i64 s0, .int .i64 s1] 47) = wx) := ⟨_, (rfl : wr.alloc (Obj.cells #[.int .i64 s0, .int .i64 s1] 47) = _)⟩
            obtain ⟨sb, HSBN⟩ : ∃ sb, Hid (wr.heap.size = sb) := ⟨_, (rfl : wr.heap.size = _)⟩
            rw [HWX.out] at HSB HN1 HL1 ⊢
            rw [HSBN.out] at HSB ⊢
            clear HWX HSBN d0 d1 hnc
            have HTB : Hid (∀ X, Nc w w0 y t n (.slice (some ⟨pb, po, none⟩) ps.length pc) wv ps ws op N B lb kb g bl f (q0 : Int) k l0 c X → X.cell? ⟨kb + 1, 2, none⟩ = some (.slice (some ⟨kb, 0, none⟩) bl bl)) := fun X hX => by have := tcell_blk hX.tv 2; simpa using this
            have HGC : Hid (∀ X, Nc w w0 y t n (.slice (some ⟨pb, po, none⟩) ps.length pc) wv ps ws op N B lb kb g bl f (q0 : Int) k l0 c X → X.cell? ⟨g, c, none⟩ = some (.int .i64 (f c : Int)) ∧ X.cell? ⟨g, c + 1, none⟩ = some (.int .i64 (f (c + 1) : Int))) := fun X hX => ⟨hX.cu.cell (i := c) (by omega), hX.cu.cell (i := c + 1) (by omega)⟩
            have HNF : Hid (∀ X X', Nc w w0 y t n (.slice (some ⟨pb, po, none⟩) ps.length pc) wv ps ws op N B lb kb g bl f (q0 : Int) k l0 c X → Fm (fun b => b = lb) X X' → Nc w w0 y t n (.slice (some ⟨pb, po, none⟩) ps.length pc) wv ps ws op N B lb kb g bl f (q0 : Int) k l0 c X') := fun X X' hX hf => hX.fmv hf
            have HNP : Hid (∀ X p9 k9 a9 m9 c9, Nc w w0 y t n (.slice (some ⟨pb, po, none⟩) ps.length pc) wv ps ws op N B lb kb g bl f (q0 : Int) k l0 c X → Tx X (fun b => kb + 1 < b) (.agg #[.int .i64 p9, .int .i64 k9, .slice a9 m9 c9]) xk → (∃ F, X.rowIs kb 32 (bl * 3) F) ∧ Nc w w0 y t n (.slice (some ⟨pb, po, none⟩) ps.length pc) wv ps ws op N B lb kb g bl f (q0 : Int) k l0 (c + 1) (st3 X kb (c * 3) (.int .i64 p9) (.int .i64 k9) (.slice a9 m9 c9))) := fun X p9 k9 a9 m9 c9 hX hx => ⟨by obtain ⟨F, vals, h1, -⟩ := hX.rw; exact ⟨F, h1⟩, hX.put hx HXL.out⟩
            have HLK : Hid (lb ≠ kb) := by have := HN1.out.gl; have := HN1.out.gk; have := HN1.out.lt; show lb ≠ kb; omega
            obtain ⟨NC, HNC⟩ : ∃ NC, Hid (Nc w w0 y t n (.slice (some ⟨pb, po, none⟩) ps.length pc) wv ps ws op N B lb kb g bl f (q0 : Int) k l0 c = NC) := ⟨_, (rfl : Nc w w0 y t n (.slice (some ⟨pb, po, none⟩) ps.length pc) wv ps ws op N B lb kb g bl f (q0 : Int) k l0 c = _)⟩
            obtain ⟨NC2, HNC2⟩ : ∃ NC2, Hid (Nc w w0 y t n (.slice (some ⟨pb, po, none⟩) ps.length pc) wv ps ws op N B lb kb g bl f (q0 : Int) k l0 (c + 1) = NC2) := ⟨_, (rfl : Nc w w0 y t n (.slice (some ⟨pb, po, none⟩) ps.length pc) wv ps ws op N B lb kb g bl f (q0 : Int) k l0 (c + 1) = _)⟩
            rw [HNC.out] at HTB HGC HNF HNP HN1 HCL
            rw [HNC2.out] at HNP
            have hk2 : (c : Int) < (bl : Int) + 1 := by omega
            have hk3 : (c : Int) + 1 < (bl : Int) + 1 := by omega
            have hcb : (c : Int) ≤ 8 := by omega
            generalize f c = u0 at HGC HCL ⊢
            generalize f (c + 1) = u1 at HGC HCL ⊢
            refine wp_region_free mixed (fun a0 d a W => ∃ (p2 : Int) (k2 : Int) (a2 : Option Addr) (m2 : Nat) (c2 : Nat) (x64 x65 x66 x67 x68 x69 x70 x71 x72 x73 x74 x75 x76 x77 x78 x79 x80 : Value), a = (((((((((((((((((a0.put (some 64) x64).put (some 65) x65).put (some 66) x66).put (some 67) x67).put (some 68) x68).put (some 69) x69).put (some 70) x70).put (some 71) x71).put (some 72) x72).put (some 73) x73).put (some 74) x74).put (some 75) x75).put (some 76) x76).put (some 77) x77).put (some 78) x78).put (some 79) x79).put (some 80) x80) ∧ Hid (RNd NC NC2 y.q lb kb g bl sb c u0 u1 s0 s1 K1 K2 xk p2 k2 a2 m2 c2 d x64 x65 x66 x67 x68 x69 x70 x71 x72 x73 x74 x75 x76 x77 x78 x79 x80 W)) (by kernel_rfl) ⟨0, 0, none, 0, 0, u64, u65, u66, u67, u68, u69, u70, u71, u72, u73, u74, u75, u76, u77, u78, u79, u80, by first | (simp only [Act.put, List.setIfInBounds_toArray, List.set_cons_zero, List.set_cons_succ]; done) | (simp only [Act.put, List.setIfInBounds_toArray, List.set_cons_zero, List.set_cons_succ]; rfl), ?_⟩ ?_ ?_
            · exact ⟨fun h => no_way h, fun h => no_way h, fun h => no_way h, fun h => no_way h, fun h => no_way h, fun h => no_way h, fun h => no_way h, fun h => no_way h, fun h => no_way h, fun h => no_way h, fun h => no_way h, fun h => no_way h, fun h => no_way h, fun h => no_way h, fun h => no_way h, fun h => no_way h, fun h => no_way h, fun _ => trivial, fun h => no_way h, fun h => no_way h, fun h => no_way h, fun h => no_way h, fun h => no_way h, fun h => no_way h, fun _ => HNF.out _ _ HN1.out (Fm.of ((Below.refl _ _).drew)), fun _ => HSB.out, fun _ => HL1.out, fun h => no_way h, fun h => no_way h, fun h => no_way h⟩
            · simp only [StepAll, and_true]
              refine ⟨?_, ?_, ?_, ?_, ?_, ?_, ?_, ?_, ?_, ?_, ?_, ?_, ?_, ?_, ?_, ?_, ?_, ?_⟩
              · intro d a W hI hd hdep
                obtain ⟨p2, k2, a2, m2, c2, x64, x65, x66, x67, x68, x69, x70, x71, x72, x73, x74, x75, x76, x77, x78, x79, x80, rfl, hF⟩ := hI
                clear hdep hd
                intro K hK
                simp only [Act.put, List.setIfInBounds_toArray, List.set_cons_zero, List.set_cons_succ]
                go_simp
                refine hK.out _ _ ⟨p2, k2, a2, m2, c2, (.pointer (some ⟨kb + 1, 2, none⟩)), x65, x66, x67, x68, x69, x70, x71, x72, x73, x74, x75, x76, x77, x78, x79, x80, by first | (simp only [Act.put, List.setIfInBounds_toArray, List.set_cons_zero, List.set_cons_succ]; done) | (simp only [Act.put, List.setIfInBounds_toArray, List.set_cons_zero, List.set_cons_succ]; rfl), ?_⟩
                exact ⟨fun _ => rfl, fun h => hF.out.f1 (by simpa using h), fun h => hF.out.f2 (by simpa using h), fun h => hF.out.f3 (by simpa using h), fun h => hF.out.f4 (by simpa using h), fun h => hF.out.f5 (by simpa using h), fun h => hF.out.f6 (by simpa using h), fun h => hF.out.f7 (by simpa using h), fun h => hF.out.f8 (by simpa using h), fun h => hF.out.f9 (by simpa using h), fun h => hF.out.f10 (by simpa using h), fun h => hF.out.f11 (by simpa using h), fun h => hF.out.f12 (by simpa using h), fun h => hF.out.f13 (by simpa using h), fun h => hF.out.f14 (by simpa using h), fun h => hF.out.f15 (by simpa using h), fun h => hF.out.f16 (by simpa using h), fun h => hF.out.f17 (by simpa using h), fun h => by have := hF.out.o16_1 (by simpa using h); simpa using this, fun h => by have := hF.out.o17_15 (by simpa using h); simpa using this, fun h => by have := hF.out.o17_16 (by simpa using h); simpa using this, fun h => by have := hF.out.o15_4 (by simpa using h); simpa using this, fun h => by have := hF.out.o15_8 (by simpa using h); simpa using this, fun h => by have := hF.out.o15_13 (by simpa using h); simpa using this, fun h => hF.out.nc (by simpa using h), fun h => hF.out.bs (by simpa using h), fun h => hF.out.lv0 (by simpa using h), fun h => hF.out.lv1 (by simpa using h), fun h h2 => hF.out.tx (by simpa using h) (by simpa using h2), fun h => hF.out.fin (by simpa using h)⟩
              · intro d a W hI hd hdep
                obtain ⟨p2, k2, a2, m2, c2, x64, x65, x66, x67, x68, x69, x70, x71, x72, x73, x74, x75, x76, x77, x78, x79, x80, rfl, hF⟩ := hI
                have hd0 : d 0 = true := dep_of hdep 0 (by kernel_rfl)
                obtain rfl := hF.out.f0 hd0
                have HD17 : Hid (d 17 = false) := no_later (fun h => hF.out.o16_1 (hF.out.o17_16 h)) hd
                have q0 := HTB.out W (hF.out.nc HD17.out)
                clear HD17
                clear hdep hd hd0
                intro K hK
                simp only [Act.put, List.setIfInBounds_toArray, List.set_cons_zero, List.set_cons_succ]
                go_simp
                refine hK.out _ _ ⟨p2, k2, a2, m2, c2, (.pointer (some ⟨kb + 1, 2, none⟩)), (.slice (some ⟨kb, 0, none⟩) bl bl), x66, x67, x68, x69, x70, x71, x72, x73, x74, x75, x76, x77, x78, x79, x80, by first | (simp only [Act.put, List.setIfInBounds_toArray, List.set_cons_zero, List.set_cons_succ]; done) | (simp only [Act.put, List.setIfInBounds_toArray, List.set_cons_zero, List.set_cons_succ]; rfl), ?_⟩
                exact ⟨fun h => hF.out.f0 (by simpa using h), fun _ => rfl, fun h => hF.out.f2 (by simpa using h), fun h => hF.out.f3 (by simpa using h), fun h => hF.out.f4 (by simpa using h), fun h => hF.out.f5 (by simpa using h), fun h => hF.out.f6 (by simpa using h), fun h => hF.out.f7 (by simpa using h), fun h => hF.out.f8 (by simpa using h), fun h => hF.out.f9 (by simpa using h), fun h => hF.out.f10 (by simpa using h), fun h => hF.out.f11 (by simpa using h), fun h => hF.out.f12 (by simpa using h), fun h => hF.out.f13 (by simpa using h), fun h => hF.out.f14 (by simpa using h), fun h => hF.out.f15 (by simpa using h), fun h => hF.out.f16 (by simpa using h), fun h => hF.out.f17 (by simpa using h), fun _ => by simp, fun h => by have := hF.out.o17_15 (by simpa using h); simpa using this, fun h => by have := hF.out.o17_16 (by simpa using h); simpa using this, fun h => by have := hF.out.o15_4 (by simpa using h); simpa using this, fun h => by have := hF.out.o15_8 (by simpa using h); simpa using this, fun h => by have := hF.out.o15_13 (by simpa using h); simpa using this, fun h => hF.out.nc (by simpa using h), fun h => hF.out.bs (by simpa using h), fun h => hF.out.lv0 (by simpa using h), fun h => hF.out.lv1 (by simpa using h), fun h h2 => hF.out.tx (by simpa using h) (by simpa using h2), fun h => hF.out.fin (by simpa using h)⟩
              · intro d a W hI hd hdep
                obtain ⟨p2, k2, a2, m2, c2, x64, x65, x66, x67, x68, x69, x70, x71, x72, x73, x74, x75, x76, x77, x78, x79, x80, rfl, hF⟩ := hI
                clear hdep hd
                intro K hK
                simp only [Act.put, List.setIfInBounds_toArray, List.set_cons_zero, List.set_cons_succ]
                go_simp
                refine hK.out _ _ ⟨p2, k2, a2, m2, c2, x64, x65, (.int .i64 (c : Int)), x67, x68, x69, x70, x71, x72, x73, x74, x75, x76, x77, x78, x79, x80, by first | (simp only [Act.put, List.setIfInBounds_toArray, List.set_cons_zero, List.set_cons_succ]; done) | (simp only [Act.put, List.setIfInBounds_toArray, List.set_cons_zero, List.set_cons_succ]; rfl), ?_⟩
                exact ⟨fun h => hF.out.f0 (by simpa using h), fun h => hF.out.f1 (by simpa using h), fun _ => rfl, fun h => hF.out.f3 (by simpa using h), fun h => hF.out.f4 (by simpa using h), fun h => hF.out.f5 (by simpa using h), fun h => hF.out.f6 (by simpa using h), fun h => hF.out.f7 (by simpa using h), fun h => hF.out.f8 (by simpa using h), fun h => hF.out.f9 (by simpa using h), fun h => hF.out.f10 (by simpa using h), fun h => hF.out.f11 (by simpa using h), fun h => hF.out.f12 (by simpa using h), fun h => hF.out.f13 (by simpa using h), fun h => hF.out.f14 (by simpa using h), fun h => hF.out.f15 (by simpa using h), fun h => hF.out.f16 (by simpa using h), fun h => hF.out.f17 (by simpa using h), fun h => by have := hF.out.o16_1 (by simpa using h); simpa using this, fun h => by have := hF.out.o17_15 (by simpa using h); simpa using this, fun h => by have := hF.out.o17_16 (by simpa using h); simpa using this, fun h => by have := hF.out.o15_4 (by simpa using h); simpa using this, fun h => by have := hF.out.o15_8 (by simpa using h); simpa using this, fun h => by have := hF.out.o15_13 (by simpa using h); simpa using this, fun h => hF.out.nc (by simpa using h), fun h => hF.out.bs (by simpa using h), fun h => hF.out.lv0 (by simpa using h), fun h => hF.out.lv1 (by simpa using h), fun h h2 => hF.out.tx (by simpa using h) (by simpa using h2), fun h => hF.out.fin (by simpa using h)⟩
              · intro d a W hI hd hdep
                obtain ⟨p2, k2, a2, m2, c2, x64, x65, x66, x67, x68, x69, x70, x71, x72, x73, x74, x75, x76, x77, x78, x79, x80, rfl, hF⟩ := hI
                clear hdep hd
                intro K hK
                simp only [Act.put, List.setIfInBounds_toArray, List.set_cons_zero, List.set_cons_succ]
                go_simp
                refine hK.out _ _ ⟨p2, k2, a2, m2, c2, x64, x65, x66, (.pointer (some ⟨y.q, 0, none⟩)), x68, x69, x70, x71, x72, x73, x74, x75, x76, x77, x78, x79, x80, by first | (simp only [Act.put, List.setIfInBounds_toArray, List.set_cons_zero, List.set_cons_succ]; done) | (simp only [Act.put, List.setIfInBounds_toArray, List.set_cons_zero, List.set_cons_succ]; rfl), ?_⟩
                exact ⟨fun h => hF.out.f0 (by simpa using h), fun h => hF.out.f1 (by simpa using h), fun h => hF.out.f2 (by simpa using h), fun _ => rfl, fun h => hF.out.f4 (by simpa using h), fun h => hF.out.f5 (by simpa using h), fun h => hF.out.f6 (by simpa using h), fun h => hF.out.f7 (by simpa using h), fun h => hF.out.f8 (by simpa using h), fun h => hF.out.f9 (by simpa using h), fun h => hF.out.f10 (by simpa using h), fun h => hF.out.f11 (by simpa using h), fun h => hF.out.f12 (by simpa using h), fun h => hF.out.f13 (by simpa using h), fun h => hF.out.f14 (by simpa using h), fun h => hF.out.f15 (by simpa using h), fun h => hF.out.f16 (by simpa using h), fun h => hF.out.f17 (by simpa using h), fun h => by have := hF.out.o16_1 (by simpa using h); simpa using this, fun h => by have := hF.out.o17_15 (by simpa using h); simpa using this, fun h => by have := hF.out.o17_16 (by simpa using h); simpa using this, fun h => by have := hF.out.o15_4 (by simpa using h); simpa using this, fun h => by have := hF.out.o15_8 (by simpa using h); simpa using this, fun h => by have := hF.out.o15_13 (by simpa using h); simpa using this, fun h => hF.out.nc (by simpa using h), fun h => hF.out.bs (by simpa using h), fun h => hF.out.lv0 (by simpa using h), fun h => hF.out.lv1 (by simpa using h), fun h h2 => hF.out.tx (by simpa using h) (by simpa using h2), fun h => hF.out.fin (by simpa using h)⟩
              · intro d a W hI hd hdep
                obtain ⟨p2, k2, a2, m2, c2, x64, x65, x66, x67, x68, x69, x70, x71, x72, x73, x74, x75, x76, x77, x78, x79, x80, rfl, hF⟩ := hI
                have HD15 : Hid (d 15 = false) := no_later (fun h => hF.out.o15_4 h) hd
                have hsb := hF.out.bs HD15.out
                have q0 := tcell_blk hsb 0
                have q1 := tcell_blk hsb 1
                simp only [List.getElem?_toArray, List.getElem?_cons_zero, List.getElem?_cons_succ] at q0 q1
                clear HD15 hsb
                clear hdep hd
                intro K hK
                simp only [Act.put, List.setIfInBounds_toArray, List.set_cons_zero, List.set_cons_succ]
                go_simp
                refine hK.out _ _ ⟨p2, k2, a2, m2, c2, x64, x65, x66, x67, (.agg #[.int .i64 s0, .int .i64 s1]), x69, x70, x71, x72, x73, x74, x75, x76, x77, x78, x79, x80, by first | (simp only [Act.put, List.setIfInBounds_toArray, List.set_cons_zero, List.set_cons_succ]; done) | (simp only [Act.put, List.setIfInBounds_toArray, List.set_cons_zero, List.set_cons_succ]; rfl), ?_⟩
                exact ⟨fun h => hF.out.f0 (by simpa using h), fun h => hF.out.f1 (by simpa using h), fun h => hF.out.f2 (by simpa using h), fun h => hF.out.f3 (by simpa using h), fun _ => rfl, fun h => hF.out.f5 (by simpa using h), fun h => hF.out.f6 (by simpa using h), fun h => hF.out.f7 (by simpa using h), fun h => hF.out.f8 (by simpa using h), fun h => hF.out.f9 (by simpa using h), fun h => hF.out.f10 (by simpa using h), fun h => hF.out.f11 (by simpa using h), fun h => hF.out.f12 (by simpa using h), fun h => hF.out.f13 (by simpa using h), fun h => hF.out.f14 (by simpa using h), fun h => hF.out.f15 (by simpa using h), fun h => hF.out.f16 (by simpa using h), fun h => hF.out.f17 (by simpa using h), fun h => by have := hF.out.o16_1 (by simpa using h); simpa using this, fun h => by have := hF.out.o17_15 (by simpa using h); simpa using this, fun h => by have := hF.out.o17_16 (by simpa using h); simpa using this, fun _ => by simp, fun h => by have := hF.out.o15_8 (by simpa using h); simpa using this, fun h => by have := hF.out.o15_13 (by simpa using h); simpa using this, fun h => hF.out.nc (by simpa using h), fun h => hF.out.bs (by simpa using h), fun h => hF.out.lv0 (by simpa using h), fun h => hF.out.lv1 (by simpa using h), fun h h2 => hF.out.tx (by simpa using h) (by simpa using h2), fun h => hF.out.fin (by simpa using h)⟩
              · intro d a W hI hd hdep
                obtain ⟨p2, k2, a2, m2, c2, x64, x65, x66, x67, x68, x69, x70, x71, x72, x73, x74, x75, x76, x77, x78, x79, x80, rfl, hF⟩ := hI
                clear hdep hd
                intro K hK
                simp only [Act.put, List.setIfInBounds_toArray, List.set_cons_zero, List.set_cons_succ]
                go_simp
                refine hK.out _ _ ⟨p2, k2, a2, m2, c2, x64, x65, x66, x67, x68, (.slice (some ⟨g, 0, none⟩) (bl + 1) (bl + 1)), x70, x71, x72, x73, x74, x75, x76, x77, x78, x79, x80, by first | (simp only [Act.put, List.setIfInBounds_toArray, List.set_cons_zero, List.set_cons_succ]; done) | (simp only [Act.put, List.setIfInBounds_toArray, List.set_cons_zero, List.set_cons_succ]; rfl), ?_⟩
                exact ⟨fun h => hF.out.f0 (by simpa using h), fun h => hF.out.f1 (by simpa using h), fun h => hF.out.f2 (by simpa using h), fun h => hF.out.f3 (by simpa using h), fun h => hF.out.f4 (by simpa using h), fun _ => rfl, fun h => hF.out.f6 (by simpa using h), fun h => hF.out.f7 (by simpa using h), fun h => hF.out.f8 (by simpa using h), fun h => hF.out.f9 (by simpa using h), fun h => hF.out.f10 (by simpa using h), fun h => hF.out.f11 (by simpa using h), fun h => hF.out.f12 (by simpa using h), fun h => hF.out.f13 (by simpa using h), fun h => hF.out.f14 (by simpa using h), fun h => hF.out.f15 (by simpa using h), fun h => hF.out.f16 (by simpa using h), fun h => hF.out.f17 (by simpa using h), fun h => by have := hF.out.o16_1 (by simpa using h); simpa using this, fun h => by have := hF.out.o17_15 (by simpa using h); simpa using this, fun h => by have := hF.out.o17_16 (by simpa using h); simpa using this, fun h => by have := hF.out.o15_4 (by simpa using h); simpa using this, fun h => by have := hF.out.o15_8 (by simpa using h); simpa using this, fun h => by have := hF.out.o15_13 (by simpa using h); simpa using this, fun h => hF.out.nc (by simpa using h), fun h => hF.out.bs (by simpa using h), fun h => hF.out.lv0 (by simpa using h), fun h => hF.out.lv1 (by simpa using h), fun h h2 => hF.out.tx (by simpa using h) (by simpa using h2), fun h => hF.out.fin (by simpa using h)⟩
              · intro d a W hI hd hdep
                obtain ⟨p2, k2, a2, m2, c2, x64, x65, x66, x67, x68, x69, x70, x71, x72, x73, x74, x75, x76, x77, x78, x79, x80, rfl, hF⟩ := hI
                clear hdep hd
                intro K hK
                simp only [Act.put, List.setIfInBounds_toArray, List.set_cons_zero, List.set_cons_succ]
                go_simp
                refine hK.out _ _ ⟨p2, k2, a2, m2, c2, x64, x65, x66, x67, x68, x69, (.int .i64 (c : Int)), x71, x72, x73, x74, x75, x76, x77, x78, x79, x80, by first | (simp only [Act.put, List.setIfInBounds_toArray, List.set_cons_zero, List.set_cons_succ]; done) | (simp only [Act.put, List.setIfInBounds_toArray, List.set_cons_zero, List.set_cons_succ]; rfl), ?_⟩
                exact ⟨fun h => hF.out.f0 (by simpa using h), fun h => hF.out.f1 (by simpa using h), fun h => hF.out.f2 (by simpa using h), fun h => hF.out.f3 (by simpa using h), fun h => hF.out.f4 (by simpa using h), fun h => hF.out.f5 (by simpa using h), fun _ => rfl, fun h => hF.out.f7 (by simpa using h), fun h => hF.out.f8 (by simpa using h), fun h => hF.out.f9 (by simpa using h), fun h => hF.out.f10 (by simpa using h), fun h => hF.out.f11 (by simpa using h), fun h => hF.out.f12 (by simpa using h), fun h => hF.out.f13 (by simpa using h), fun h => hF.out.f14 (by simpa using h), fun h => hF.out.f15 (by simpa using h), fun h => hF.out.f16 (by simpa using h), fun h => hF.out.f17 (by simpa using h), fun h => by have := hF.out.o16_1 (by simpa using h); simpa using this, fun h => by have := hF.out.o17_15 (by simpa using h); simpa using this, fun h => by have := hF.out.o17_16 (by simpa using h); simpa using this, fun h => by have := hF.out.o15_4 (by simpa using h); simpa using this, fun h => by have := hF.out.o15_8 (by simpa using h); simpa using this, fun h => by have := hF.out.o15_13 (by simpa using h); simpa using this, fun h => hF.out.nc (by simpa using h), fun h => hF.out.bs (by simpa using h), fun h => hF.out.lv0 (by simpa using h), fun h => hF.out.lv1 (by simpa using h), fun h h2 => hF.out.tx (by simpa using h) (by simpa using h2), fun h => hF.out.fin (by simpa using h)⟩
              · intro d a W hI hd hdep
                obtain ⟨p2, k2, a2, m2, c2, x64, x65, x66, x67, x68, x69, x70, x71, x72, x73, x74, x75, x76, x77, x78, x79, x80, rfl, hF⟩ := hI
                have hd5 : d 5 = true := dep_of hdep 5 (by kernel_rfl)
                have hd6 : d 6 = true := dep_of hdep 6 (by kernel_rfl)
                obtain rfl := hF.out.f5 hd5
                obtain rfl := hF.out.f6 hd6
                clear hdep hd hd5 hd6
                intro K hK
                simp only [Act.put, List.setIfInBounds_toArray, List.set_cons_zero, List.set_cons_succ]
                go_simp
                refine hK.out _ _ ⟨p2, k2, a2, m2, c2, x64, x65, x66, x67, x68, (.slice (some ⟨g, 0, none⟩) (bl + 1) (bl + 1)), (.int .i64 (c : Int)), (.pointer (some ⟨g, c, none⟩)), x72, x73, x74, x75, x76, x77, x78, x79, x80, by first | (simp only [Act.put, List.setIfInBounds_toArray, List.set_cons_zero, List.set_cons_succ]; done) | (simp only [Act.put, List.setIfInBounds_toArray, List.set_cons_zero, List.set_cons_succ]; rfl), ?_⟩
                exact ⟨fun h => hF.out.f0 (by simpa using h), fun h => hF.out.f1 (by simpa using h), fun h => hF.out.f2 (by simpa using h), fun h => hF.out.f3 (by simpa using h), fun h => hF.out.f4 (by simpa using h), fun h => hF.out.f5 (by simpa using h), fun h => hF.out.f6 (by simpa using h), fun _ => rfl, fun h => hF.out.f8 (by simpa using h), fun h => hF.out.f9 (by simpa using h), fun h => hF.out.f10 (by simpa using h), fun h => hF.out.f11 (by simpa using h), fun h => hF.out.f12 (by simpa using h), fun h => hF.out.f13 (by simpa using h), fun h => hF.out.f14 (by simpa using h), fun h => hF.out.f15 (by simpa using h), fun h => hF.out.f16 (by simpa using h), fun h => hF.out.f17 (by simpa using h), fun h => by have := hF.out.o16_1 (by simpa using h); simpa using this, fun h => by have := hF.out.o17_15 (by simpa using h); simpa using this, fun h => by have := hF.out.o17_16 (by simpa using h); simpa using this, fun h => by have := hF.out.o15_4 (by simpa using h); simpa using this, fun h => by have := hF.out.o15_8 (by simpa using h); simpa using this, fun h => by have := hF.out.o15_13 (by simpa using h); simpa using this, fun h => hF.out.nc (by simpa using h), fun h => hF.out.bs (by simpa using h), fun h => hF.out.lv0 (by simpa using h), fun h => hF.out.lv1 (by simpa using h), fun h h2 => hF.out.tx (by simpa using h) (by simpa using h2), fun h => hF.out.fin (by simpa using h)⟩
              · intro d a W hI hd hdep
                obtain ⟨p2, k2, a2, m2, c2, x64, x65, x66, x67, x68, x69, x70, x71, x72, x73, x74, x75, x76, x77, x78, x79, x80, rfl, hF⟩ := hI
                have hd7 : d 7 = true := dep_of hdep 7 (by kernel_rfl)
                obtain rfl := hF.out.f7 hd7
                have HD17 : Hid (d 17 = false) := no_later (fun h => hF.out.o15_8 (hF.out.o17_15 h)) hd
                have q0 := (HGC.out W (hF.out.nc HD17.out)).1
                clear HD17
                clear hdep hd hd7
                intro K hK
                simp only [Act.put, List.setIfInBounds_toArray, List.set_cons_zero, List.set_cons_succ]
                go_simp
                refine hK.out _ _ ⟨p2, k2, a2, m2, c2, x64, x65, x66, x67, x68, x69, x70, (.pointer (some ⟨g, c, none⟩)), (.int .i64 (u0 : Int)), x73, x74, x75, x76, x77, x78, x79, x80, by first | (simp only [Act.put, List.setIfInBounds_toArray, List.set_cons_zero, List.set_cons_succ]; done) | (simp only [Act.put, List.setIfInBounds_toArray, List.set_cons_zero, List.set_cons_succ]; rfl), ?_⟩
                exact ⟨fun h => hF.out.f0 (by simpa using h), fun h => hF.out.f1 (by simpa using h), fun h => hF.out.f2 (by simpa using h), fun h => hF.out.f3 (by simpa using h), fun h => hF.out.f4 (by simpa using h), fun h => hF.out.f5 (by simpa using h), fun h => hF.out.f6 (by simpa using h), fun h => hF.out.f7 (by simpa using h), fun _ => rfl, fun h => hF.out.f9 (by simpa using h), fun h => hF.out.f10 (by simpa using h), fun h => hF.out.f11 (by simpa using h), fun h => hF.out.f12 (by simpa using h), fun h => hF.out.f13 (by simpa using h), fun h => hF.out.f14 (by simpa using h), fun h => hF.out.f15 (by simpa using h), fun h => hF.out.f16 (by simpa using h), fun h => hF.out.f17 (by simpa using h), fun h => by have := hF.out.o16_1 (by simpa using h); simpa using this, fun h => by have := hF.out.o17_15 (by simpa using h); simpa using this, fun h => by have := hF.out.o17_16 (by simpa using h); simpa using this, fun h => by have := hF.out.o15_4 (by simpa using h); simpa using this, fun _ => by simp, fun h => by have := hF.out.o15_13 (by simpa using h); simpa using this, fun h => hF.out.nc (by simpa using h), fun h => hF.out.bs (by simpa using h), fun h => hF.out.lv0 (by simpa using h), fun h => hF.out.lv1 (by simpa using h), fun h h2 => hF.out.tx (by simpa using h) (by simpa using h2), fun h => hF.out.fin (by simpa using h)⟩
              · intro d a W hI hd hdep
                obtain ⟨p2, k2, a2, m2, c2, x64, x65, x66, x67, x68, x69, x70, x71, x72, x73, x74, x75, x76, x77, x78, x79, x80, rfl, hF⟩ := hI
                clear hdep hd
                intro K hK
                simp only [Act.put, List.setIfInBounds_toArray, List.set_cons_zero, List.set_cons_succ]
                go_simp
                refine hK.out _ _ ⟨p2, k2, a2, m2, c2, x64, x65, x66, x67, x68, x69, x70, x71, x72, (.slice (some ⟨g, 0, none⟩) (bl + 1) (bl + 1)), x74, x75, x76, x77, x78, x79, x80, by first | (simp only [Act.put, List.setIfInBounds_toArray, List.set_cons_zero, List.set_cons_succ]; done) | (simp only [Act.put, List.setIfInBounds_toArray, List.set_cons_zero, List.set_cons_succ]; rfl), ?_⟩
                exact ⟨fun h => hF.out.f0 (by simpa using h), fun h => hF.out.f1 (by simpa using h), fun h => hF.out.f2 (by simpa using h), fun h => hF.out.f3 (by simpa using h), fun h => hF.out.f4 (by simpa using h), fun h => hF.out.f5 (by simpa using h), fun h => hF.out.f6 (by simpa using h), fun h => hF.out.f7 (by simpa using h), fun h => hF.out.f8 (by simpa using h), fun _ => rfl, fun h => hF.out.f10 (by simpa using h), fun h => hF.out.f11 (by simpa using h), fun h => hF.out.f12 (by simpa using h), fun h => hF.out.f13 (by simpa using h), fun h => hF.out.f14 (by simpa using h), fun h => hF.out.f15 (by simpa using h), fun h => hF.out.f16 (by simpa using h), fun h => hF.out.f17 (by simpa using h), fun h => by have := hF.out.o16_1 (by simpa using h); simpa using this, fun h => by have := hF.out.o17_15 (by simpa using h); simpa using this, fun h => by have := hF.out.o17_16 (by simpa using h); simpa using this, fun h => by have := hF.out.o15_4 (by simpa using h); simpa using this, fun h => by have := hF.out.o15_8 (by simpa using h); simpa using this, fun h => by have := hF.out.o15_13 (by simpa using h); simpa using this, fun h => hF.out.nc (by simpa using h), fun h => hF.out.bs (by simpa using h), fun h => hF.out.lv0 (by simpa using h), fun h => hF.out.lv1 (by simpa using h), fun h h2 => hF.out.tx (by simpa using h) (by simpa using h2), fun h => hF.out.fin (by simpa using h)⟩
              · intro d a W hI hd hdep
                obtain ⟨p2, k2, a2, m2, c2, x64, x65, x66, x67, x68, x69, x70, x71, x72, x73, x74, x75, x76, x77, x78, x79, x80, rfl, hF⟩ := hI
                clear hdep hd
                intro K hK
                simp only [Act.put, List.setIfInBounds_toArray, List.set_cons_zero, List.set_cons_succ]
                go_simp
                refine hK.out _ _ ⟨p2, k2, a2, m2, c2, x64, x65, x66, x67, x68, x69, x70, x71, x72, x73, (.int .i64 (c : Int)), x75, x76, x77, x78, x79, x80, by first | (simp only [Act.put, List.setIfInBounds_toArray, List.set_cons_zero, List.set_cons_succ]; done) | (simp only [Act.put, List.setIfInBounds_toArray, List.set_cons_zero, List.set_cons_succ]; rfl), ?_⟩
                exact ⟨fun h => hF.out.f0 (by simpa using h), fun h => hF.out.f1 (by simpa using h), fun h => hF.out.f2 (by simpa using h), fun h => hF.out.f3 (by simpa using h), fun h => hF.out.f4 (by simpa using h), fun h => hF.out.f5 (by simpa using h), fun h => hF.out.f6 (by simpa using h), fun h => hF.out.f7 (by simpa using h), fun h => hF.out.f8 (by simpa using h), fun h => hF.out.f9 (by simpa using h), fun _ => rfl, fun h => hF.out.f11 (by simpa using h), fun h => hF.out.f12 (by simpa using h), fun h => hF.out.f13 (by simpa using h), fun h => hF.out.f14 (by simpa using h), fun h => hF.out.f15 (by simpa using h), fun h => hF.out.f16 (by simpa using h), fun h => hF.out.f17 (by simpa using h), fun h => by have := hF.out.o16_1 (by simpa using h); simpa using this, fun h => by have := hF.out.o17_15 (by simpa using h); simpa using this, fun h => by have := hF.out.o17_16 (by simpa using h); simpa using this, fun h => by have := hF.out.o15_4 (by simpa using h); simpa using this, fun h => by have := hF.out.o15_8 (by simpa using h); simpa using this, fun h => by have := hF.out.o15_13 (by simpa using h); simpa using this, fun h => hF.out.nc (by simpa using h), fun h => hF.out.bs (by simpa using h), fun h => hF.out.lv0 (by simpa using h), fun h => hF.out.lv1 (by simpa using h), fun h h2 => hF.out.tx (by simpa using h) (by simpa using h2), fun h => hF.out.fin (by simpa using h)⟩
              · intro d a W hI hd hdep
                obtain ⟨p2, k2, a2, m2, c2, x64, x65, x66, x67, x68, x69, x70, x71, x72, x73, x74, x75, x76, x77, x78, x79, x80, rfl, hF⟩ := hI
                have hd10 : d 10 = true := dep_of hdep 10 (by kernel_rfl)
                obtain rfl := hF.out.f10 hd10
                have hwr : IntKind.i64.wrap ((c : Int) + 1) = (c : Int) + 1 := by simp [IntKind.wrap, IntKind.bits, IntKind.signed]; omega
                clear hdep hd hd10
                intro K hK
                simp only [Act.put, List.setIfInBounds_toArray, List.set_cons_zero, List.set_cons_succ]
                go_simp
                first | rw [hwr] | skip
                refine hK.out _ _ ⟨p2, k2, a2, m2, c2, x64, x65, x66, x67, x68, x69, x70, x71, x72, x73, (.int .i64 (c : Int)), (.int .i64 ((c : Int) + 1)), x76, x77, x78, x79, x80, by first | (simp only [Act.put, List.setIfInBounds_toArray, List.set_cons_zero, List.set_cons_succ]; done) | (simp only [Act.put, List.setIfInBounds_toArray, List.set_cons_zero, List.set_cons_succ]; rfl), ?_⟩
                exact ⟨fun h => hF.out.f0 (by simpa using h), fun h => hF.out.f1 (by simpa using h), fun h => hF.out.f2 (by simpa using h), fun h => hF.out.f3 (by simpa using h), fun h => hF.out.f4 (by simpa using h), fun h => hF.out.f5 (by simpa using h), fun h => hF.out.f6 (by simpa using h), fun h => hF.out.f7 (by simpa using h), fun h => hF.out.f8 (by simpa using h), fun h => hF.out.f9 (by simpa using h), fun h => hF.out.f10 (by simpa using h), fun _ => rfl, fun h => hF.out.f12 (by simpa using h), fun h => hF.out.f13 (by simpa using h), fun h => hF.out.f14 (by simpa using h), fun h => hF.out.f15 (by simpa using h), fun h => hF.out.f16 (by simpa using h), fun h => hF.out.f17 (by simpa using h), fun h => by have := hF.out.o16_1 (by simpa using h); simpa using this, fun h => by have := hF.out.o17_15 (by simpa using h); simpa using this, fun h => by have := hF.out.o17_16 (by simpa using h); simpa using this, fun h => by have := hF.out.o15_4 (by simpa using h); simpa using this, fun h => by have := hF.out.o15_8 (by simpa using h); simpa using this, fun h => by have := hF.out.o15_13 (by simpa using h); simpa using this, fun h => hF.out.nc (by simpa using h), fun h => hF.out.bs (by simpa using h), fun h => hF.out.lv0 (by simpa using h), fun h => hF.out.lv1 (by simpa using h), fun h h2 => hF.out.tx (by simpa using h) (by simpa using h2), fun h => hF.out.fin (by simpa using h)⟩
              · intro d a W hI hd hdep
                obtain ⟨p2, k2, a2, m2, c2, x64, x65, x66, x67, x68, x69, x70, x71, x72, x73, x74, x75, x76, x77, x78, x79, x80, rfl, hF⟩ := hI
                have hd9 : d 9 = true := dep_of hdep 9 (by kernel_rfl)
                have hd11 : d 11 = true := dep_of hdep 11 (by kernel_rfl)
                obtain rfl := hF.out.f9 hd9
                obtain rfl := hF.out.f11 hd11
                clear hdep hd hd9 hd11
                intro K hK
                simp only [Act.put, List.setIfInBounds_toArray, List.set_cons_zero, List.set_cons_succ]
                go_simp
                refine hK.out _ _ ⟨p2, k2, a2, m2, c2, x64, x65, x66, x67, x68, x69, x70, x71, x72, (.slice (some ⟨g, 0, none⟩) (bl + 1) (bl + 1)), x74, (.int .i64 ((c : Int) + 1)), (.pointer (some ⟨g, c + 1, none⟩)), x77, x78, x79, x80, by first | (simp only [Act.put, List.setIfInBounds_toArray, List.set_cons_zero, List.set_cons_succ]; done) | (simp only [Act.put, List.setIfInBounds_toArray, List.set_cons_zero, List.set_cons_succ]; rfl), ?_⟩
                exact ⟨fun h => hF.out.f0 (by simpa using h), fun h => hF.out.f1 (by simpa using h), fun h => hF.out.f2 (by simpa using h), fun h => hF.out.f3 (by simpa using h), fun h => hF.out.f4 (by simpa using h), fun h => hF.out.f5 (by simpa using h), fun h => hF.out.f6 (by simpa using h), fun h => hF.out.f7 (by simpa using h), fun h => hF.out.f8 (by simpa using h), fun h => hF.out.f9 (by simpa using h), fun h => hF.out.f10 (by simpa using h), fun h => hF.out.f11 (by simpa using h), fun _ => rfl, fun h => hF.out.f13 (by simpa using h), fun h => hF.out.f14 (by simpa using h), fun h => hF.out.f15 (by simpa using h), fun h => hF.out.f16 (by simpa using h), fun h => hF.out.f17 (by simpa using h), fun h => by have := hF.out.o16_1 (by simpa using h); simpa using this, fun h => by have := hF.out.o17_15 (by simpa using h); simpa using this, fun h => by have := hF.out.o17_16 (by simpa using h); simpa using this, fun h => by have := hF.out.o15_4 (by simpa using h); simpa using this, fun h => by have := hF.out.o15_8 (by simpa using h); simpa using this, fun h => by have := hF.out.o15_13 (by simpa using h); simpa using this, fun h => hF.out.nc (by simpa using h), fun h => hF.out.bs (by simpa using h), fun h => hF.out.lv0 (by simpa using h), fun h => hF.out.lv1 (by simpa using h), fun h h2 => hF.out.tx (by simpa using h) (by simpa using h2), fun h => hF.out.fin (by simpa using h)⟩
              · intro d a W hI hd hdep
                obtain ⟨p2, k2, a2, m2, c2, x64, x65, x66, x67, x68, x69, x70, x71, x72, x73, x74, x75, x76, x77, x78, x79, x80, rfl, hF⟩ := hI
                have hd12 : d 12 = true := dep_of hdep 12 (by kernel_rfl)
                obtain rfl := hF.out.f12 hd12
                have HD17 : Hid (d 17 = false) := no_later (fun h => hF.out.o15_13 (hF.out.o17_15 h)) hd
                have q0 := (HGC.out W (hF.out.nc HD17.out)).2
                clear HD17
                clear hdep hd hd12
                intro K hK
                simp only [Act.put, List.setIfInBounds_toArray, List.set_cons_zero, List.set_cons_succ]
                go_simp
                refine hK.out _ _ ⟨p2, k2, a2, m2, c2, x64, x65, x66, x67, x68, x69, x70, x71, x72, x73, x74, x75, (.pointer (some ⟨g, c + 1, none⟩)), (.int .i64 (u1 : Int)), x78, x79, x80, by first | (simp only [Act.put, List.setIfInBounds_toArray, List.set_cons_zero, List.set_cons_succ]; done) | (simp only [Act.put, List.setIfInBounds_toArray, List.set_cons_zero, List.set_cons_succ]; rfl), ?_⟩
                exact ⟨fun h => hF.out.f0 (by simpa using h), fun h => hF.out.f1 (by simpa using h), fun h => hF.out.f2 (by simpa using h), fun h => hF.out.f3 (by simpa using h), fun h => hF.out.f4 (by simpa using h), fun h => hF.out.f5 (by simpa using h), fun h => hF.out.f6 (by simpa using h), fun h => hF.out.f7 (by simpa using h), fun h => hF.out.f8 (by simpa using h), fun h => hF.out.f9 (by simpa using h), fun h => hF.out.f10 (by simpa using h), fun h => hF.out.f11 (by simpa using h), fun h => hF.out.f12 (by simpa using h), fun _ => rfl, fun h => hF.out.f14 (by simpa using h), fun h => hF.out.f15 (by simpa using h), fun h => hF.out.f16 (by simpa using h), fun h => hF.out.f17 (by simpa using h), fun h => by have := hF.out.o16_1 (by simpa using h); simpa using this, fun h => by have := hF.out.o17_15 (by simpa using h); simpa using this, fun h => by have := hF.out.o17_16 (by simpa using h); simpa using this, fun h => by have := hF.out.o15_4 (by simpa using h); simpa using this, fun h => by have := hF.out.o15_8 (by simpa using h); simpa using this, fun _ => by simp, fun h => hF.out.nc (by simpa using h), fun h => hF.out.bs (by simpa using h), fun h => hF.out.lv0 (by simpa using h), fun h => hF.out.lv1 (by simpa using h), fun h h2 => hF.out.tx (by simpa using h) (by simpa using h2), fun h => hF.out.fin (by simpa using h)⟩
              · intro d a W hI hd hdep
                obtain ⟨p2, k2, a2, m2, c2, x64, x65, x66, x67, x68, x69, x70, x71, x72, x73, x74, x75, x76, x77, x78, x79, x80, rfl, hF⟩ := hI
                clear hdep hd
                intro K hK
                simp only [Act.put, List.setIfInBounds_toArray, List.set_cons_zero, List.set_cons_succ]
                go_simp
                refine hK.out _ _ ⟨p2, k2, a2, m2, c2, x64, x65, x66, x67, x68, x69, x70, x71, x72, x73, x74, x75, x76, x77, (.pointer (some ⟨lb, 0, none⟩)), x79, x80, by first | (simp only [Act.put, List.setIfInBounds_toArray, List.set_cons_zero, List.set_cons_succ]; done) | (simp only [Act.put, List.setIfInBounds_toArray, List.set_cons_zero, List.set_cons_succ]; rfl), ?_⟩
                exact ⟨fun h => hF.out.f0 (by simpa using h), fun h => hF.out.f1 (by simpa using h), fun h => hF.out.f2 (by simpa using h), fun h => hF.out.f3 (by simpa using h), fun h => hF.out.f4 (by simpa using h), fun h => hF.out.f5 (by simpa using h), fun h => hF.out.f6 (by simpa using h), fun h => hF.out.f7 (by simpa using h), fun h => hF.out.f8 (by simpa using h), fun h => hF.out.f9 (by simpa using h), fun h => hF.out.f10 (by simpa using h), fun h => hF.out.f11 (by simpa using h), fun h => hF.out.f12 (by simpa using h), fun h => hF.out.f13 (by simpa using h), fun _ => rfl, fun h => hF.out.f15 (by simpa using h), fun h => hF.out.f16 (by simpa using h), fun h => hF.out.f17 (by simpa using h), fun h => by have := hF.out.o16_1 (by simpa using h); simpa using this, fun h => by have := hF.out.o17_15 (by simpa using h); simpa using this, fun h => by have := hF.out.o17_16 (by simpa using h); simpa using this, fun h => by have := hF.out.o15_4 (by simpa using h); simpa using this, fun h => by have := hF.out.o15_8 (by simpa using h); simpa using this, fun h => by have := hF.out.o15_13 (by simpa using h); simpa using this, fun h => hF.out.nc (by simpa using h), fun h => hF.out.bs (by simpa using h), fun h => hF.out.lv0 (by simpa using h), fun h => hF.out.lv1 (by simpa using h), fun h h2 => hF.out.tx (by simpa using h) (by simpa using h2), fun h => hF.out.fin (by simpa using h)⟩
              · intro d a W hI hd hdep
                obtain ⟨p2, k2, a2, m2, c2, x64, x65, x66, x67, x68, x69, x70, x71, x72, x73, x74, x75, x76, x77, x78, x79, x80, rfl, hF⟩ := hI
                have hd3 : d 3 = true := dep_of hdep 3 (by kernel_rfl)
                have hd4 : d 4 = true := dep_of hdep 4 (by kernel_rfl)
                have hd8 : d 8 = true := dep_of hdep 8 (by kernel_rfl)
                have hd13 : d 13 = true := dep_of hdep 13 (by kernel_rfl)
                have hd14 : d 14 = true := dep_of hdep 14 (by kernel_rfl)
                obtain rfl := hF.out.f3 hd3
                obtain rfl := hF.out.f4 hd4
                obtain rfl := hF.out.f8 hd8
                obtain rfl := hF.out.f13 hd13
                obtain rfl := hF.out.f14 hd14
                have e15_4 := hd4
                have e15_8 := hd8
                have e15_13 := hd13
                have HD17 : Hid (d 17 = false) := no_later hF.out.o17_15 hd
                have hnc := hF.out.nc HD17.out
                have hlv := hF.out.lv0 hd
                clear hdep hd hd3 hd4 hd8 hd13 hd14
                intro K hK
                simp only [Act.put, List.setIfInBounds_toArray, List.set_cons_zero, List.set_cons_succ]
                go_simp
                refine (HCL.out W hnc hlv).mono ?_
                rintro _ W2 ⟨p9, k9, a9, m9, c9, rfl, hbx, hlv2, hfm⟩
                have hnc2 := HNF.out _ _ hnc hfm
                clear hnc hlv
                go_simp
                refine hK.out _ _ ⟨p9, k9, a9, m9, c9, x64, x65, x66, (.pointer (some ⟨y.q, 0, none⟩)), (.agg #[.int .i64 s0, .int .i64 s1]), x69, x70, x71, (.int .i64 (u0 : Int)), x73, x74, x75, x76, (.int .i64 (u1 : Int)), (.pointer (some ⟨lb, 0, none⟩)), (.agg #[.int .i64 p9, .int .i64 k9, .slice a9 m9 c9]), x80, by first | (simp only [Act.put, List.setIfInBounds_toArray, List.set_cons_zero, List.set_cons_succ]; done) | (simp only [Act.put, List.setIfInBounds_toArray, List.set_cons_zero, List.set_cons_succ]; rfl), ?_⟩
                exact ⟨fun h => hF.out.f0 (by simpa using h), fun h => hF.out.f1 (by simpa using h), fun h => hF.out.f2 (by simpa using h), fun h => hF.out.f3 (by simpa using h), fun h => hF.out.f4 (by simpa using h), fun h => hF.out.f5 (by simpa using h), fun h => hF.out.f6 (by simpa using h), fun h => hF.out.f7 (by simpa using h), fun h => hF.out.f8 (by simpa using h), fun h => hF.out.f9 (by simpa using h), fun h => hF.out.f10 (by simpa using h), fun h => hF.out.f11 (by simpa using h), fun h => hF.out.f12 (by simpa using h), fun h => hF.out.f13 (by simpa using h), fun h => hF.out.f14 (by simpa using h), fun _ => rfl, fun h => hF.out.f16 (by simpa using h), fun _ => trivial, fun h => by have := hF.out.o16_1 (by simpa using h); simpa using this, fun _ => by simp, fun h => by have := hF.out.o17_16 (by simpa using h); simpa using this, fun _ => by simpa using e15_4, fun _ => by simpa using e15_8, fun _ => by simpa using e15_13, fun _ => hnc2, fun h => by simp at h, fun h => by simp at h, fun _ => hlv2, fun _ _ => hbx, fun h => by have := HD17.out; simp [this] at h⟩
              · intro d a W hI hd hdep
                obtain ⟨p2, k2, a2, m2, c2, x64, x65, x66, x67, x68, x69, x70, x71, x72, x73, x74, x75, x76, x77, x78, x79, x80, rfl, hF⟩ := hI
                have hd1 : d 1 = true := dep_of hdep 1 (by kernel_rfl)
                have hd2 : d 2 = true := dep_of hdep 2 (by kernel_rfl)
                obtain rfl := hF.out.f1 hd1
                obtain rfl := hF.out.f2 hd2
                have e16_1 := hd1
                clear hdep hd hd1 hd2
                intro K hK
                simp only [Act.put, List.setIfInBounds_toArray, List.set_cons_zero, List.set_cons_succ]
                go_simp
                refine hK.out _ _ ⟨p2, k2, a2, m2, c2, x64, (.slice (some ⟨kb, 0, none⟩) bl bl), (.int .i64 (c : Int)), x67, x68, x69, x70, x71, x72, x73, x74, x75, x76, x77, x78, x79, (.pointer (some ⟨kb, c * 3, none⟩)), by first | (simp only [Act.put, List.setIfInBounds_toArray, List.set_cons_zero, List.set_cons_succ]; done) | (simp only [Act.put, List.setIfInBounds_toArray, List.set_cons_zero, List.set_cons_succ]; rfl), ?_⟩
                exact ⟨fun h => hF.out.f0 (by simpa using h), fun h => hF.out.f1 (by simpa using h), fun h => hF.out.f2 (by simpa using h), fun h => hF.out.f3 (by simpa using h), fun h => hF.out.f4 (by simpa using h), fun h => hF.out.f5 (by simpa using h), fun h => hF.out.f6 (by simpa using h), fun h => hF.out.f7 (by simpa using h), fun h => hF.out.f8 (by simpa using h), fun h => hF.out.f9 (by simpa using h), fun h => hF.out.f10 (by simpa using h), fun h => hF.out.f11 (by simpa using h), fun h => hF.out.f12 (by simpa using h), fun h => hF.out.f13 (by simpa using h), fun h => hF.out.f14 (by simpa using h), fun h => hF.out.f15 (by simpa using h), fun _ => rfl, fun h => hF.out.f17 (by simpa using h), fun _ => by simpa using e16_1, fun h => by have := hF.out.o17_15 (by simpa using h); simpa using this, fun _ => by simp, fun h => by have := hF.out.o15_4 (by simpa using h); simpa using this, fun h => by have := hF.out.o15_8 (by simpa using h); simpa using this, fun h => by have := hF.out.o15_13 (by simpa using h); simpa using this, fun h => hF.out.nc (by simpa using h), fun h => hF.out.bs (by simpa using h), fun h => hF.out.lv0 (by simpa using h), fun h => hF.out.lv1 (by simpa using h), fun h h2 => hF.out.tx (by simpa using h) (by simpa using h2), fun h => hF.out.fin (by simpa using h)⟩
              · intro d a W hI hd hdep
                obtain ⟨p2, k2, a2, m2, c2, x64, x65, x66, x67, x68, x69, x70, x71, x72, x73, x74, x75, x76, x77, x78, x79, x80, rfl, hF⟩ := hI
                have hd15 : d 15 = true := dep_of hdep 15 (by kernel_rfl)
                have hd16 : d 16 = true := dep_of hdep 16 (by kernel_rfl)
                obtain rfl := hF.out.f15 hd15
                obtain rfl := hF.out.f16 hd16
                have e17_15 := hd15
                have e17_16 := hd16
                have HD17 : Hid (d 17 = false) := hd
                have hnc := hF.out.nc hd
                have htx := hF.out.tx hd15 hd
                have hlv := hF.out.lv1 hd15
                obtain ⟨⟨FF, hrow⟩, hput⟩ := HNP.out W _ _ _ _ _ hnc htx
                have f0 := World.rowIs.frozen hrow (c * 3)
                have f1 := World.rowIs.frozen hrow (c * 3 + 1)
                have f2 := World.rowIs.frozen hrow (c * 3 + 2)
                have r0 := World.rowIs.cell hrow (i := c * 3) (by omega)
                have r1 := World.rowIs.cell hrow (i := c * 3 + 1) (by omega)
                have r2 := World.rowIs.cell hrow (i := c * 3 + 2) (by omega)
                clear hdep hd hd15 hd16
                intro K hK
                simp only [Act.put, List.setIfInBounds_toArray, List.set_cons_zero, List.set_cons_succ]
                go_simp
                rw [← st3_eq]
                refine hK.out _ _ ⟨p2, k2, a2, m2, c2, x64, x65, x66, x67, x68, x69, x70, x71, x72, x73, x74, x75, x76, x77, x78, (.agg #[.int .i64 p2, .int .i64 k2, .slice a2 m2 c2]), (.pointer (some ⟨kb, c * 3, none⟩)), by first | (simp only [Act.put, List.setIfInBounds_toArray, List.set_cons_zero, List.set_cons_succ]; done) | (simp only [Act.put, List.setIfInBounds_toArray, List.set_cons_zero, List.set_cons_succ]; rfl), ?_⟩
                exact ⟨fun h => hF.out.f0 (by simpa using h), fun h => hF.out.f1 (by simpa using h), fun h => hF.out.f2 (by simpa using h), fun h => hF.out.f3 (by simpa using h), fun h => hF.out.f4 (by simpa using h), fun h => hF.out.f5 (by simpa using h), fun h => hF.out.f6 (by simpa using h), fun h => hF.out.f7 (by simpa using h), fun h => hF.out.f8 (by simpa using h), fun h => hF.out.f9 (by simpa using h), fun h => hF.out.f10 (by simpa using h), fun h => hF.out.f11 (by simpa using h), fun h => hF.out.f12 (by simpa using h), fun h => hF.out.f13 (by simpa using h), fun h => hF.out.f14 (by simpa using h), fun h => hF.out.f15 (by simpa using h), fun h => hF.out.f16 (by simpa using h), fun _ => trivial, fun h => by have := hF.out.o16_1 (by simpa using h); simpa using this, fun _ => by simpa using e17_15, fun _ => by simpa using e17_16, fun h => by have := hF.out.o15_4 (by simpa using h); simpa using this, fun h => by have := hF.out.o15_8 (by simpa using h); simpa using this, fun h => by have := hF.out.o15_13 (by simpa using h); simpa using this, fun h => by simp at h, fun h => by have := e17_15; simp [this] at h, fun h => by have := e17_15; simp [this] at h, fun _ => (st3_apart HLK.out).trans hlv, fun _ h => by simp at h, fun _ => hput⟩
            · intro d a W hI hall
              obtain ⟨p2, k2, a2, m2, c2, x64, x65, x66, x67, x68, x69, x70, x71, x72, x73, x74, x75, x76, x77, x78, x79, x80, rfl, hF⟩ := hI
              simp only [List.length_cons, List.length_nil] at hall
              obtain rfl := hF.out.f0 (hall 0 (by omega))
              obtain rfl := hF.out.f1 (hall 1 (by omega))
              obtain rfl := hF.out.f2 (hall 2 (by omega))
              obtain rfl := hF.out.f3 (hall 3 (by omega))
              obtain rfl := hF.out.f4 (hall 4 (by omega))
              obtain rfl := hF.out.f5 (hall 5 (by omega))
              obtain rfl := hF.out.f6 (hall 6 (by omega))
              obtain rfl := hF.out.f7 (hall 7 (by omega))
              obtain rfl := hF.out.f8 (hall 8 (by omega))
              obtain rfl := hF.out.f9 (hall 9 (by omega))
              obtain rfl := hF.out.f10 (hall 10 (by omega))
              obtain rfl := hF.out.f11 (hall 11 (by omega))
              obtain rfl := hF.out.f12 (hall 12 (by omega))
              obtain rfl := hF.out.f13 (hall 13 (by omega))
              obtain rfl := hF.out.f14 (hall 14 (by omega))
              obtain rfl := hF.out.f15 (hall 15 (by omega))
              obtain rfl := hF.out.f16 (hall 16 (by omega))
              have HNN : Hid (NC2 W ∧ W.heap[lb]? = some (.cells #[.int .i64 (K2 : Int)] 3)) := ⟨hF.out.fin (hall 17 (by omega)), hF.out.lv1 (hall 15 (by omega))⟩
              clear hF hall
              simp only [Act.put, List.setIfInBounds_toArray, List.set_cons_zero, List.set_cons_succ]
              rw [← HNC2.out] at HNN
              go_wp2_with fail
              go_roundw
              case rel => exact ⟨c + 1, by omega, by go_num, HNN.out.1, by rw [HK2.out]; exact HNN.out.2⟩
              case measure => simp [intOf]; omega
          · obtain rfl : c = bl := by omega
            have hk1 : ¬ ((c : Int) < (c : Int)) := by omega
            have HTX := hnc.tree HLL.out hbl8
            have HTW : Hid (Tx (rs3 wr (w.heap.size + 1) (.int .i64 (q0 : Int)) (.int .i64 0) (.slice (some ⟨kb, 0, none⟩) c c)) (fun b => w.heap.size ≤ b) (.agg #[.int .i64 (q0 : Int), .int .i64 0, .slice (some ⟨kb, 0, none⟩) c c]) (.mk (q0 : Int) 0 (cutL k l0).2)) := by
              have hgl := hnc.gl
              have hgk := hnc.gk
              refine (HTX.next (fun b _ hp => ?_) (by simp [rs3, World.setCell])).mono fun b _ hp => (by have hp2 : kb ≤ b := hp; show w.heap.size ≤ b; omega)
              have hp2 : kb ≤ b := hp
              unfold rs3
              rw [Below.heap_setCell _ _ _ _ (by simp; omega), Below.heap_setCell _ _ _ _ (by simp; omega), Below.heap_setCell _ _ _ _ (by simp; omega)]
            have HV := rs3_blk hnc.rv (.int .i64 (q0 : Int)) (.int .i64 0) (.slice (some ⟨kb, 0, none⟩) c c)
            have HLF : Hid ((rs3 wr (w.heap.size + 1) (.int .i64 (q0 : Int)) (.int .i64 0) (.slice (some ⟨kb, 0, none⟩) c c)).heap[lb]? = some (.cells #[.int .i64 ((k - szL l0 : Nat) : Int)] 3)) := by
              have hltw := hnc.lt
              rw [List.take_of_length_le (by rw [HLL.out]; exact Nat.le_refl _)] at hlv
              show _ = _
              unfold rs3
              rw [Below.heap_setCell _ _ _ _ (by simp; omega), Below.heap_setCell _ _ _ _ (by simp; omega), Below.heap_setCell _ _ _ _ (by simp; omega)]
              exact hlv
            have HFF : Hid (Fm (fun b => b = lb) w (rs3 wr (w.heap.size + 1) (.int .i64 (q0 : Int)) (.int .i64 0) (.slice (some ⟨kb, 0, none⟩) c c))) := ((hnc.fm.more (a := ⟨w.heap.size + 1, 0, none⟩) (by show _ ≤ w.heap.size + 1; omega) _).more (a := ⟨w.heap.size + 1, 1, none⟩) (by show _ ≤ w.heap.size + 1; omega) _).more (a := ⟨w.heap.size + 1, 2, none⟩) (by show _ ≤ w.heap.size + 1; omega) _
            have r0 := tcell_blk hnc.rv 0
            have r1 := tcell_blk hnc.rv 1
            have r2 := tcell_blk hnc.rv 2
            have f0 := tfrozen_blk hnc.rv 0
            have f1 := tfrozen_blk hnc.rv 1
            have f2 := tfrozen_blk hnc.rv 2
            have q0' := tcell_blk hnc.tv 0
            have q1' := tcell_blk hnc.tv 1
            have q2' := tcell_blk hnc.tv 2
            simp only [List.getElem?_toArray, List.getElem?_cons_zero, List.getElem?_cons_succ] at r0 r1 r2 q0' q1' q2'
            clear HTX hnc hlv
            go_wp2_with fail
            rw [← rs3_eq]
            generalize rs3 wr (w.heap.size + 1) (.int .i64 (q0 : Int)) (.int .i64 0) (.slice (some ⟨kb, 0, none⟩) c c) = w9 at *
            have z0 := tcell_blk HV 0
            have z1 := tcell_blk HV 1
            have z2 := tcell_blk HV 2
            simp only [List.getElem?_toArray, List.getElem?_cons_zero, List.getElem?_cons_succ] at z0 z1 z2
            exact bodyPost_ret (v := .agg #[.int .i64 (q0 : Int), .int .i64 0, .slice (some ⟨kb, 0, none⟩) c c]) (by simp [results, Try.results67, go_sem, z0, z1, z2]) rfl ⟨_, rfl, by rw [HFIN.out]; exact HTW.out, by rw [HFIN.out]; exact HLF.out, HFF.out⟩
end Go.Proofs.Ytpfehghicaaghaa
