/-
  The contract of lr.Make.
-/
import Derived.Test.YtpbnnmfjahckmaaLrHold
import Derived.Test.YtpbnnmfjahckmaaGrF
namespace Go.Proofs.Ytpbnnmfjahckmaa
open Go.RowKit
open Cg

theorem run_make_row2 (T : Nat) (h : T ≤ 1000) (w : World) : (Instr.makeSlice 84 (.int .i64 ((T : Int) + 1)) (.int .i64 ((T : Int) + 1))).run Try.prog w = .ok (.slice (some ⟨w.heap.size, 0, none⟩) (T + 1) (T + 1)) (w.alloc (Obj.cells (madeCells #[Value.int .i64 0, .int .i64 0] ((T + 1) * 2)) 104)) := by
  obtain ⟨i1, hi1, hy0, hy1, hy2⟩ := minfo_parts info104
  have hr := run_make (P := Try.prog) w 84 104 i1 _ Try.underlying84 hi1 hy0 .i64 .i64 ((T : Int) + 1) ((T : Int) + 1) (by omega) (by omega) (by rw [hy2]; omega) (by omega)
  rw [show ((T : Int) + 1).toNat = T + 1 by omega, hy1] at hr
  exact hr
theorem acz (W : World) (T : Nat) : (W.alloc (Obj.cells (madeCells #[Value.int .i64 0, .int .i64 0] ((T + 1) * 2)) 104)).rowIs W.heap.size 104 ((T + 1) * 2) (acF (fun _ => (0, 0))) := by
  refine ⟨_, heap_alloc_new _ _, size_madeCells _ _, fun i hi => ?_⟩
  have h2 : i % 2 = 0 ∨ i % 2 = 1 := by omega
  unfold acF madeCells
  rcases h2 with h2 | h2 <;> simp [h2, hi]
/-- The table's rows. -/
def actsT (T S : Nat) (ps : List Pd) (ss : List (List It)) (nx : List (List Int)) : List (List Sy) := (List.range S).map fun k => (List.range (T + 1)).map fun c => cdH T ps ss nx k c
def gotoT (T S : Nat) (nx : List (List Int)) : List (List Int) := (List.range S).map fun k => (nx.getD k []).drop T
/-- The table that is laid. -/
theorem lk_done {w : World} {T n : Nat} {pv : Value} {ps : List Pd} {S ab tb b1 b2 : Nat} {sv nv : Value} {vs ws : List Value} {ss : List (List It)} {nx : List (List Int)} {rb : Nat → Nat} {f2 : Nat → Value} {fv : Value} {FL : List Ft} {W W' : World} (h : Lk w T n pv ps S ab tb b1 b2 sv nv vs ws ss nx S rb (Aq (cdH T ps ss nx) S 0) S f2 fv FL W) (hT : T ≤ 30) (hn : n ≤ 20) (hS : S ≤ 200) (hrw : ∀ (i : Nat) r, nx[i]? = some r → r.length = T + n) (hnx : nx.length = S) (hsame : ∀ q, q ≠ w.heap.size + 1 → W'.heap[q]? = W.heap[q]?) :
    ArsF w.heap.size W' (.slice (some ⟨b1, 0, none⟩) S S) (actsT T S ps ss nx) ∧ RwsF w.heap.size W' (.slice (some ⟨b2, 0, none⟩) S S) (gotoT T S nx) ∧ W'.ownsRow (w.heap.size + 2) 106 6 fv FL.length (fcl FL) := by
  have hge := h.ge
  have k1 := h.r1.of_block (hsame b1 (by omega))
  have k2 := h.r2.of_block (hsame b2 (by omega))
  refine ⟨⟨some ⟨b1, 0, none⟩, S, by simp [actsT], by simp [actsT]; omega, Or.inr ⟨b1, 0, rfl, by omega, k1.lt, fun i hi => ?_⟩⟩, ⟨some ⟨b2, 0, none⟩, S, by simp [gotoT], by simp [gotoT]; omega, Or.inr ⟨b2, 0, rfl, by omega, k2.lt, fun i hi => ?_⟩⟩, row_keep h.fl fun q hq => hsame q (by have := (h.fl.lt q hq).1; omega)⟩
  · have hi2 : i < S := by simpa [actsT] using hi
    have c1 := k1.cell hi2
    rw [if_pos hi2] at c1
    have k3 := (h.ri i hi2).of_block (hsame (rb i) (by have := h.gr i hi2; omega))
    have e : (actsT T S ps ss nx)[i] = (List.range (T + 1)).map fun c => cdH T ps ss nx i c := by simp [actsT]
    refine ⟨_, by rw [Nat.zero_add]; exact c1, ⟨some ⟨rb i, 0, none⟩, T + 1, by rw [e]; simp, by rw [e]; simp; omega, Or.inr ⟨rb i, 0, rfl, k3.lt, fun j hj => ?_⟩⟩, fun q hq => by
      have hq2 : q = rb i := by simpa [Value.ownBlock, eq_comm] using hq
      have := h.gr i hi2
      omega⟩
    have hj2 : j < T + 1 := by rw [e] at hj; simpa using hj
    have a0 := k3.cell (i := j * 2) (by omega)
    have a1 := k3.cell (i := j * 2 + 1) (by omega)
    unfold acF at a0 a1
    rw [if_pos (by omega), show j * 2 / 2 = j by omega] at a0
    rw [if_neg (by omega), show (j * 2 + 1) / 2 = j by omega] at a1
    have eA : Aq (cdH T ps ss nx) S 0 i j = cdH T ps ss nx i j := by unfold Aq; rw [if_pos (Or.inl hi2)]
    rw [eA] at a0 a1
    have e2 : ((actsT T S ps ss nx)[i])[j] = cdH T ps ss nx i j := by simp [actsT]
    rw [Nat.zero_add, e2]
    exact ⟨a0, a1⟩
  · have hi2 : i < S := by simpa [gotoT] using hi
    have c1 := k2.cell hi2
    rw [if_pos hi2] at c1
    have k3 := row_keep (h.gi i hi2) fun q hq => hsame q (fun e => by
      subst e
      exact mown_box (h.gi i hi2) h.rc (by decide) hq)
    have e : (gotoT T S nx)[i] = (nx.getD i []).drop T := by simp [gotoT]
    have hl : ((nx.getD i []).drop T).length = n := by
      have hi3 : i < nx.length := by omega
      have h1 := hrw i _ (List.getElem?_eq_getElem hi3)
      rw [List.length_drop, List.getD_eq_getElem?_getD, List.getElem?_eq_getElem hi3]
      simp only [Option.getD_some]
      omega
    refine ⟨f2 i, by rw [Nat.zero_add]; exact c1, ?_, fun q hq => ((h.gi i hi2).lt q hq).1⟩
    rw [e]
    exact ints_of_own (by rw [hl]; exact k3) (by rw [hl]; omega)
/-- What Make leaves. -/
def LrQ (w : World) (T n : Nat) (ps : List Pd) (e : Ending) (w' : World) : Prop :=
  Below w.heap.size w w' ∧ ∃ E F V R M ks ss nx, Fa ps E F V R M ∧ Auw T n ps E F ks ss nx ∧
    ((200 < ks.length ∧ e = .returned (.tuple #[.agg #[.slice none 0 0, .slice none 0 0], .slice none 0 0, .int .i64 8])) ∨
     (ks.length ≤ 200 ∧ nx.length = ks.length ∧ ∃ av gv fo fc, e = .returned (.tuple #[.agg #[av, gv], .slice fo (ftN T ps ss nx ks.length).length fc, .int .i64 0]) ∧ ArsF w.heap.size w' av (actsT T ks.length ps ss nx) ∧ RwsF w.heap.size w' gv (gotoT T ks.length nx) ∧ w'.ownsRow (w.heap.size + 2) 106 6 (.slice fo (ftN T ps ss nx ks.length).length fc) (ftN T ps ss nx ks.length).length (fcl (ftN T ps ss nx ks.length))))
structure RT4 (wr : World) (ab S : Nat) (sa : Option Addr) (sc : Nat) (c1 : Nat) (c2 : Nat) (c3 : Nat) (d : Nat → Bool) (x7 x24 x25 x26 x27 x28 x29 x30 x31 x32 : Value) (W : World) : Prop where
  f0 : d 0 = true → x24 = (.pointer (some ⟨ab, 0, none⟩))
  f1 : d 1 = true → x25 = (.slice sa S sc)
  f2 : d 2 = true → x26 = (.int .i64 (S : Int))
  f3 : d 3 = true → x27 = (.slice (some ⟨c1, 0, none⟩) S S)
  f4 : d 4 = true → x28 = (.pointer (some ⟨ab, 0, none⟩))
  f5 : d 5 = true → x29 = (.slice sa S sc)
  f6 : d 6 = true → x30 = (.int .i64 (S : Int))
  f7 : d 7 = true → x31 = (.slice (some ⟨c2, 0, none⟩) S S)
  f8 : d 8 = true → x32 = (.agg #[.slice (some ⟨c1, 0, none⟩) S S, .slice (some ⟨c2, 0, none⟩) S S])
  f9 : d 9 = true → x7 = (.pointer (some ⟨c3, 0, none⟩))
  f10 : d 10 = true → True
  ol : ∀ i, i < 10 → d 10 = true → d i = true
  q83 : d 8 = true → d 3 = true
  q87 : d 8 = true → d 7 = true
  bl : d 10 = false → Below wr.heap.size wr W
  q3 : d 3 = true → d 10 = false → W.rowIs c1 84 S (fun _ => .slice none 0 0) ∧ wr.heap.size ≤ c1
  q7 : d 7 = true → d 10 = false → W.rowIs c2 29 S (fun _ => .slice none 0 0) ∧ wr.heap.size ≤ c2
  q9 : d 9 = true → d 10 = false → W.heap[c3]? = some (Obj.cells #[.slice none 0 0, .slice none 0 0] 28) ∧ wr.heap.size ≤ c3
  fin : d 10 = true → ∃ V, Below wr.heap.size wr V ∧ (V.rowIs c1 84 S (fun _ => .slice none 0 0) ∧ wr.heap.size ≤ c1) ∧ (V.rowIs c2 29 S (fun _ => .slice none 0 0) ∧ wr.heap.size ≤ c2) ∧ (V.heap[c3]? = some (Obj.cells #[.slice none 0 0, .slice none 0 0] 28) ∧ wr.heap.size ≤ c3) ∧ W = (V.setCell ⟨c3, 0, none⟩ (.slice (some ⟨c1, 0, none⟩) S S)).setCell ⟨c3, 1, none⟩ (.slice (some ⟨c2, 0, none⟩) S S)
structure RT9 (wr : World) (gb tb b1 S T k : Nat) (rk : Nat) (d : Nat → Bool) (x41 x42 x43 x44 x45 x46 x47 x48 : Value) (W : World) : Prop where
  f0 : d 0 = true → x41 = (.pointer (some ⟨tb, 0, none⟩))
  f1 : d 1 = true → x42 = (.slice (some ⟨b1, 0, none⟩) S S)
  f2 : d 2 = true → x43 = (.int .i64 (k : Int))
  f3 : d 3 = true → x44 = (.pointer (some ⟨gb, 0, none⟩))
  f4 : d 4 = true → x45 = (.int .i64 (T : Int))
  f5 : d 5 = true → x46 = (.int .i64 ((T : Int) + 1))
  f6 : d 6 = true → x47 = (.slice (some ⟨rk, 0, none⟩) (T + 1) (T + 1))
  f7 : d 7 = true → x48 = (.pointer (some ⟨b1, k, none⟩))
  f8 : d 8 = true → True
  ol : ∀ i, i < 8 → d 8 = true → d i = true
  bl : d 8 = false → Below wr.heap.size wr W
  q6 : d 6 = true → d 8 = false → W.rowIs rk 104 ((T + 1) * 2) (acF (fun _ => (0, 0))) ∧ wr.heap.size ≤ rk
  fin : d 8 = true → ∃ V, Below wr.heap.size wr V ∧ (V.rowIs rk 104 ((T + 1) * 2) (acF (fun _ => (0, 0))) ∧ wr.heap.size ≤ rk) ∧ W = V.setCell ⟨b1, k, none⟩ (.slice (some ⟨rk, 0, none⟩) (T + 1) (T + 1))
structure RT10 (wr : World) (gq ab sb S T n k : Nat) (po : Option Addr) (pn pc : Nat) (ps : List Pd) (sc : Nat) (uo : Option Addr) (un uc rn rc : Nat) (nxr : List Int) (s : List It) (ob : Nat) (fo : Nat → Value) (wc : World) (d : Nat → Bool) (x49 x50 x51 x52 x53 x54 x55 x56 x57 x58 : Value) (W : World) : Prop where
  f0 : d 0 = true → x49 = (.agg #[.int .i64 (T : Int), .int .i64 (n : Int), .slice po pn pc])
  f1 : d 1 = true → x50 = (.pointer (some ⟨ab, 0, none⟩))
  f2 : d 2 = true → x51 = (.slice (some ⟨sb, 0, none⟩) S sc)
  f3 : d 3 = true → x52 = (.int .i64 (k : Int))
  f4 : d 4 = true → x53 = (.pointer (some ⟨sb, k, none⟩))
  f5 : d 5 = true → x54 = (.slice uo un uc)
  f6 : d 6 = true → x55 = (.slice (some ⟨rn, 0, none⟩) (T + n) rc)
  f7 : d 7 = true → x56 = (.slice (some ⟨ob, 0, none⟩) (T + 1) (T + 1))
  f8 : d 8 = true → x57 = (.int .i64 ((T : Int) + 1))
  f9 : d 9 = true → x58 = (.int .i64 0)
  q87 : d 8 = true → d 7 = true
  bl : Below wr.heap.size wr W
  q7 : d 7 = true → Mz wc T n (.slice po pn pc) ps ob fo (cnd T ps nxr s) W ∧ wr.heap.size ≤ wc.heap.size
structure RT18 (wr : World) (B k c cb cm cc zb : Nat) (h0 h1 z0 z1 : Int) (va : Option Addr) (vn vc : Nat) (xs : List Value) (gb2 : Nat) (gr : Nat) (cr : Nat) (d : Nat → Bool) (x8 x83 x84 x85 x86 x87 x88 x89 x90 x91 x92 : Value) (W : World) : Prop where
  f0 : d 0 = true → x83 = (.slice va vn vc)
  f1 : d 1 = true → x84 = (.int .i64 (k : Int))
  f2 : d 2 = true → x85 = (.int .i64 (c : Int))
  f3 : d 3 = true → x86 = (.slice (some ⟨cb, 0, none⟩) cm cc)
  f4 : d 4 = true → x87 = (.pointer (some ⟨cb, 0, none⟩))
  f5 : d 5 = true → x88 = (.agg #[.int .i64 h0, .int .i64 h1])
  f6 : d 6 = true → x89 = (.agg #[.int .i64 z0, .int .i64 z1])
  f7 : d 7 = true → x90 = (.agg #[.int .i64 (k : Int), .int .i64 (c : Int), .int .i64 h0, .int .i64 h1, .int .i64 z0, .int .i64 z1])
  f8 : d 8 = true → x91 = (.slice (some ⟨gb2, 0, none⟩) 1 1)
  f9 : d 9 = true → x92 = (.slice (some ⟨gr, 0, none⟩) (vn + 1) cr)
  f10 : d 10 = true → x8 = (.slice (some ⟨gr, 0, none⟩) (vn + 1) cr)
  cA : d 9 = true → d 8 = true
  cX : d 10 = true → d 9 = true
  c09 : d 9 = true → d 0 = true
  s8 : d 10 = false → x8 = (.slice va vn vc)
  kp : wr.grownBy W (Value.ownBlock (.slice va vn vc))
  r0 : d 9 = false → W.ownsRow B 106 6 (.slice va vn vc) vn xs
  b0 : d 8 = true → d 9 = false → W.heap[gb2]? = some (.cells #[.int .i64 (k : Int), .int .i64 (c : Int), .int .i64 h0, .int .i64 h1, .int .i64 z0, .int .i64 z1] 106)
  r1 : d 9 = true → W.ownsRow B 106 6 (.slice (some ⟨gr, 0, none⟩) (vn + 1) cr) (vn + 1) (xs ++ [.int .i64 (k : Int), .int .i64 (c : Int), .int .i64 h0, .int .i64 h1, .int .i64 z0, .int .i64 z1])
structure RT21 (wr : World) (gq tb b2 S T n k rn rc : Nat) (gl : List Int) (ga : Option Addr) (gc : Nat) (d : Nat → Bool) (x95 x96 x97 x98 x99 x100 x101 x102 x103 : Value) (W : World) : Prop where
  f0 : d 0 = true → x95 = (.pointer (some ⟨tb, 1, none⟩))
  f1 : d 1 = true → x96 = (.slice (some ⟨b2, 0, none⟩) S S)
  f2 : d 2 = true → x97 = (.int .i64 (k : Int))
  f3 : d 3 = true → x98 = (.slice (some ⟨rn, 0, none⟩) (T + n) rc)
  f4 : d 4 = true → x99 = (.pointer (some ⟨gq, 0, none⟩))
  f5 : d 5 = true → x100 = (.int .i64 (T : Int))
  f6 : d 6 = true → x101 = (.slice (some ⟨rn, T, none⟩) n (rc - T))
  f7 : d 7 = true → x102 = (.slice ga n gc)
  f8 : d 8 = true → x103 = (.pointer (some ⟨b2, k, none⟩))
  f9 : d 9 = true → True
  ol : ∀ i, i < 9 → d 9 = true → d i = true
  bl : d 9 = false → Below wr.heap.size wr W
  q7 : d 7 = true → d 9 = false → W.ownsRow wr.heap.size 3 1 (.slice ga n gc) n (gl.map (Value.int .i64))
  fin : d 9 = true → ∃ V, Below wr.heap.size wr V ∧ V.ownsRow wr.heap.size 3 1 (.slice ga n gc) n (gl.map (Value.int .i64)) ∧ W = V.setCell ⟨b2, k, none⟩ (.slice ga n gc)
set_option maxHeartbeats 3200000 in
set_option maxRecDepth 20000 in
theorem LrMake_bad (t n : Int) (pv : Value) (ps : List Pd) (w : World) (hp : Pds w pv ps) (hk : chk t n ps ≠ 0) :
    Calls Try.prog 20 #[.agg #[.int .i64 t, .int .i64 n, pv]] w fun e w' => e = .returned (.tuple #[.agg #[.slice none 0 0, .slice none 0 0], .slice none 0 0, .int .i64 (chk t n ps)]) ∧ Below w.heap.size w w' := by
  obtain ⟨po, pc, rfl⟩ := hp.len
  have hab2 := below_alloc2 w (Obj.cells #[.int .i64 t, .int .i64 n, .slice po ps.length pc] 24) (Obj.cells #[.slice none 0 0, .slice none 0 0] 28)
  have hcall := All_bad t n _ ps ((w.alloc (Obj.cells #[.int .i64 t, .int .i64 n, .slice po ps.length pc] 24)).alloc (Obj.cells #[.slice none 0 0, .slice none 0 0] 28)) (hp.below hab2) hk
  obtain ⟨r, HR⟩ : ∃ r, Hid (chk t n ps = r) := ⟨_, (rfl : chk t n ps = chk t n ps)⟩
  rw [HR.out] at hcall hk ⊢
  have hk2 : (r != 0) = true := by simpa using hk
  have HRC : Hid (((w.alloc (Obj.cells #[.int .i64 t, .int .i64 n, .slice po ps.length pc] 24)).alloc (Obj.cells #[.slice none 0 0, .slice none 0 0] 28)).heap[w.heap.size + 1]? = some (.cells #[.slice none 0 0, .slice none 0 0] 28)) := by
    show _ = _
    have := heap_alloc_new (w.alloc (Obj.cells #[.int .i64 t, .int .i64 n, .slice po ps.length pc] 24)) (Obj.cells #[.slice none 0 0, .slice none 0 0] 28)
    simpa using this
  have HB2 : Hid (_) := hab2
  clear hab2 hp hk
  go_enter Try.func20, Try.ntmps20
  go_wp2_with fail
  refine hcall.mono ?_
  rintro _ w1 ⟨rfl, hb1⟩
  have HBW : Hid (Below w.heap.size w w1) := HB2.out.trans (hb1.mono HB2.out.size)
  have hrc := mbox_next HRC.out hb1
  clear hcall hb1 HRC HB2
  have HBX : Hid (_) := mbox_next hrc (below_alloc w1 (Obj.cells #[.slice none 0 0, .slice none 0 0] 99))
  have HBY : Hid (_) := HBW.out.trans ((below_alloc w1 (Obj.cells #[.slice none 0 0, .slice none 0 0] 99)).mono HBW.out.size)
  clear hrc
  go_upto_region 2 with fail
  generalize (w1.alloc (Obj.cells #[.slice none 0 0, .slice none 0 0] 99)) = w2 at HBX HBY ⊢
  have a0 := mcell_blk HBX.out 0
  have z0 := mfrozen_blk HBX.out 0
  have hs1 := mblock_store (i := 0) HBX.out (.slice none 0 0)
  have z2 := mfrozen_blk hs1 1
  have a2 := mcell_blk hs1 1
  simp at a0 a2
  have hs2 := mblock_store (i := 1) hs1 (.slice none 0 0)
  have v0 := mcell_blk hs2 0
  have v1 := mcell_blk hs2 1
  simp at v0 v1
  have HFIN : Hid (Below w.heap.size w ((w2.setCell ⟨w.heap.size + 1, 0, none⟩ (.slice none 0 0)).setCell ⟨w.heap.size + 1, 1, none⟩ (.slice none 0 0))) := (HBY.out.setCell (by simp) _).setCell (by simp) _
  clear hs1 hs2
  go_wp2_with fail
  exact bodyPost_ret (v := .tuple #[.agg #[(.slice none 0 0), (.slice none 0 0)], .slice none 0 0, .int .i64 r]) (by simp [results, Try.results20, go_sem, v0, v1]) rfl ⟨rfl, HFIN.out⟩
set_option maxHeartbeats 32000000 in
set_option maxRecDepth 20000 in
theorem LrMake_ok (T n : Nat) (pv : Value) (ps : List Pd) (w : World) (hp : Pds w pv ps) (hk : chk (T : Int) (n : Int) ps = 0) :
    Calls Try.prog 20 #[.agg #[.int .i64 (T : Int), .int .i64 (n : Int), pv]] w fun e w' => LrQ w T n ps e w' := by
  obtain ⟨i1, hi1, hy0, hy1, hy2⟩ := minfo_parts info106
  have HK : Hid (chk (T : Int) (n : Int) ps = 0) := hk
  have HTN : Hid (T ≤ 30 ∧ n ≤ 20 ∧ 1 ≤ n) := by have := okTN_le (chk_zero hk).1; exact ⟨by omega, by omega, by omega⟩
  have HPD : Hid (Pds w pv ps) := hp
  obtain ⟨po, pc, rfl⟩ := hp.len
  have HGB := Gb.box hp (T : Int) (n : Int)
  have hab2 := below_alloc2 w (Obj.cells #[.int .i64 (T : Int), .int .i64 (n : Int), .slice po ps.length pc] 24) (Obj.cells #[.slice none 0 0, .slice none 0 0] 28)
  have hcall := All_ok T n _ ps ((w.alloc (Obj.cells #[.int .i64 (T : Int), .int .i64 (n : Int), .slice po ps.length pc] 24)).alloc (Obj.cells #[.slice none 0 0, .slice none 0 0] 28)) (hp.below hab2) hk
  have HGA : Hid (_) := HGB.next (below_alloc _ (Obj.cells #[.slice none 0 0, .slice none 0 0] 28))
  have HRC : Hid (((w.alloc (Obj.cells #[.int .i64 (T : Int), .int .i64 (n : Int), .slice po ps.length pc] 24)).alloc (Obj.cells #[.slice none 0 0, .slice none 0 0] 28)).heap[w.heap.size + 1]? = some (.cells #[.slice none 0 0, .slice none 0 0] 28)) := by
    show _ = _
    have := heap_alloc_new (w.alloc (Obj.cells #[.int .i64 (T : Int), .int .i64 (n : Int), .slice po ps.length pc] 24)) (Obj.cells #[.slice none 0 0, .slice none 0 0] 28)
    simpa using this
  have HSA : Hid (((w.alloc (Obj.cells #[.int .i64 (T : Int), .int .i64 (n : Int), .slice po ps.length pc] 24)).alloc (Obj.cells #[.slice none 0 0, .slice none 0 0] 28)).heap.size = w.heap.size + 2) := by show _ = _; simp
  clear hab2 hp hk HGB
  go_enter Try.func20, Try.ntmps20
  go_wp2_with fail
  refine hcall.mono ?_
  rintro e1 w1 ⟨hb1, E, F, V0, R, M, ks, ss, nx, hfa, hau, hcase⟩
  have HFA : Hid (Fa ps E F V0 R M) := hfa
  have HAU : Hid (Auw T n ps E F ks ss nx) := hau
  have HG1 : Hid (_) := HGA.out.next hb1
  have HRC1 : Hid (_) := mbox_next HRC.out hb1
  have HSZ1 : Hid (w.heap.size + 2 ≤ w1.heap.size) := by have := hb1.size; have h2 := HSA.out; show _ ≤ _; omega
  rcases hcase with ⟨h200, rfl⟩ | ⟨hle, hnxl, sa, sc, na, nc, vs, ws, rfl, hsr, hnr, hsi, hni⟩
  · have HKS2 : Hid (200 < ks.length) := h200
    have HBX : Hid (_) := mbox_next HRC1.out (below_alloc w1 (Obj.cells #[.slice none 0 0, .slice none 0 0] 99))
    have HBY : Hid (_) := HG1.out.below.trans ((below_alloc w1 (Obj.cells #[.slice none 0 0, .slice none 0 0] 99)).mono HG1.out.below.size)
    clear hcall hb1 hfa hau h200 HGA HRC HG1 HRC1
    go_upto_region 2 with fail
    generalize (w1.alloc (Obj.cells #[.slice none 0 0, .slice none 0 0] 99)) = w2 at HBX HBY ⊢
    have a0 := mcell_blk HBX.out 0
    have z0 := mfrozen_blk HBX.out 0
    have hs1 := mblock_store (i := 0) HBX.out (.slice none 0 0)
    have z2 := mfrozen_blk hs1 1
    have a2 := mcell_blk hs1 1
    simp at a0 a2
    have hs2 := mblock_store (i := 1) hs1 (.slice none 0 0)
    have v0 := mcell_blk hs2 0
    have v1 := mcell_blk hs2 1
    simp at v0 v1
    have HFIN : Hid (LrQ w T n ps (.returned (.tuple #[.agg #[.slice none 0 0, .slice none 0 0], .slice none 0 0, .int .i64 8])) ((w2.setCell ⟨w.heap.size + 1, 0, none⟩ (.slice none 0 0)).setCell ⟨w.heap.size + 1, 1, none⟩ (.slice none 0 0))) := ⟨(HBY.out.setCell (by simp) _).setCell (by simp) _, E, F, V0, R, M, ks, ss, nx, HFA.out, HAU.out, Or.inl ⟨HKS2.out, rfl⟩⟩
    clear hs1 hs2
    go_wp2_with fail
    exact bodyPost_ret (v := .tuple #[.agg #[(.slice none 0 0), (.slice none 0 0)], .slice none 0 0, .int .i64 8]) (by simp [results, Try.results20, go_sem, v0, v1]) rfl HFIN.out
  · obtain ⟨S, HSE⟩ : ∃ S, Hid (ks.length = S) := ⟨_, (rfl : ks.length = _)⟩
    rw [HSE.out] at hle hnxl hsr hnr ⊢
    have HS2 : Hid (S ≤ 200 ∧ nx.length = S ∧ ss.length = S ∧ 1 ≤ S) := by
      have h1 := hau.st.len
      have h2 := HSE.out
      have h3 := (List.getElem?_eq_some_iff.1 hau.st.k0).1
      exact ⟨hle, hnxl, by omega, by omega⟩
    have HSS : Hid (∀ s ∈ ss, s.length ≤ 11439) := fun s hs => by
      obtain ⟨i, hi, e⟩ := List.getElem_of_mem hs
      have h1 : i < ks.length := by rw [← hau.st.len]; exact hi
      exact count_le HK.out (rise_nodup (hau.st.cl i _ s (List.getElem?_eq_getElem h1) (by rw [List.getElem?_eq_getElem hi, e])).1) (hau.st.sok (i := i) (by rw [List.getElem?_eq_getElem hi, e]))
    have HOKS : Hid (∀ s ∈ ss, ∀ x ∈ s, OkIt T ps x) := fun s hs => by
      obtain ⟨i, hi, e⟩ := List.getElem_of_mem hs
      exact hau.st.sok (i := i) (by rw [List.getElem?_eq_getElem hi, e])
    have HRWL : Hid (∀ (i : Nat) r, nx[i]? = some r → r.length = T + n) := fun i r hi => (hau.rw i r hi).1
    have hbA := HG1.out.below
    have hab := below_alloc w1 (Obj.cells #[.slice sa S sc, .slice na S nc] 99)
    have HG2 : Hid (_) := HG1.out.next hab
    have HRC2 : Hid (_) := mbox_next HRC1.out hab
    have HAB : Hid (_) := heap_alloc_new w1 (Obj.cells #[.slice sa S sc, .slice na S nc] 99)
    have HSR : Hid ((w1.alloc (Obj.cells #[.slice sa S sc, .slice na S nc] 99)).ownsRow w.heap.size 103 1 (.slice sa S sc) S vs) := mv_lower (own_below hsr hab) (by rw [HSA.out]; omega : w.heap.size ≤ _)
    have HNR : Hid ((w1.alloc (Obj.cells #[.slice sa S sc, .slice na S nc] 99)).ownsRow w.heap.size 29 1 (.slice na S nc) S ws) := mv_lower (own_below hnr hab) (by rw [HSA.out]; omega : w.heap.size ≤ _)
    have HSI : Hid (ItR w.heap.size vs ss (w1.alloc (Obj.cells #[.slice sa S sc, .slice na S nc] 99))) := (hsi.keep fun q _ hq => hab.block q (mheap_lt hq)).lower (by rw [HSA.out]; omega : w.heap.size ≤ _)
    have HNI : Hid (InR w.heap.size ws nx (w1.alloc (Obj.cells #[.slice sa S sc, .slice na S nc] 99))) := (hni.keep fun q _ hq => hab.block q (mheap_lt hq)).lower (by rw [HSA.out]; omega : w.heap.size ≤ _)
    have HSZ : Hid (w.heap.size + 2 ≤ (w1.alloc (Obj.cells #[.slice sa S sc, .slice na S nc] 99)).heap.size) := by have := HSZ1.out; show _ ≤ _; simp; omega
    have hmk1 := run_make_row' (P := Try.prog) 25 84 (.slice none 0 0) 24 Try.underlying25 info84 rfl .i64 .i64 S (by have := HS2.out; omega) (by have := HS2.out; omega)
    have hmk2 := run_make_row' (P := Try.prog) 26 29 (.slice none 0 0) 24 Try.underlying26 info29 rfl .i64 .i64 S (by have := HS2.out; omega) (by have := HS2.out; omega)
    have HMK1 : Hid (∀ W : World, (Instr.makeSlice 25 (.int .i64 (S : Int)) (.int .i64 (S : Int))).run Try.prog W = .ok (.slice (some ⟨W.heap.size, 0, none⟩) S S) (W.alloc (Obj.cells (madeCells #[Value.slice none 0 0] S) 84))) := fun W => hmk1 W
    have HMK2 : Hid (∀ W : World, (Instr.makeSlice 26 (.int .i64 (S : Int)) (.int .i64 (S : Int))).run Try.prog W = .ok (.slice (some ⟨W.heap.size, 0, none⟩) S S) (W.alloc (Obj.cells (madeCells #[Value.slice none 0 0] S) 29))) := fun W => hmk2 W
    clear hcall hb1 hfa hau hle hnxl hsr hnr hsi hni HGA HRC HG1 HRC1 hab hbA hmk1 hmk2
    go_upto_region 4 with fail
    obtain ⟨ab, HABE⟩ : ∃ z, Hid (w1.heap.size = z) := ⟨_, (rfl : w1.heap.size = _)⟩
    obtain ⟨w2, HW2⟩ : ∃ z, Hid (w1.alloc (Obj.cells #[.slice sa S sc, .slice na S nc] 99) = z) := ⟨_, (rfl : w1.alloc _ = _)⟩
    rw [HW2.out] at HG2 HRC2 HAB HSR HNR HSI HNI HSZ ⊢
    rw [HABE.out] at HAB ⊢
    clear HW2 HABE
    have ha0 := mcell_blk HAB.out 0
    simp only [List.getElem?_toArray, List.getElem?_cons_zero] at ha0
    have HA0 : Hid (ab < w2.heap.size ∧ w2.cell? ⟨ab, 0, none⟩ = some (.slice sa S sc)) := ⟨mheap_lt HAB.out, ha0⟩
    clear ha0
    refine wp_region_free mixed (fun a0 d a W => ∃ (c1 : Nat) (c2 : Nat) (c3 : Nat) (x7 x24 x25 x26 x27 x28 x29 x30 x31 x32 : Value), a = ((((((((((a0.put (some 7) x7).put (some 24) x24).put (some 25) x25).put (some 26) x26).put (some 27) x27).put (some 28) x28).put (some 29) x29).put (some 30) x30).put (some 31) x31).put (some 32) x32) ∧ Hid (RT4 w2 ab S sa sc c1 c2 c3 d x7 x24 x25 x26 x27 x28 x29 x30 x31 x32 W)) (by kernel_rfl) ⟨0, 0, 0, undef, undef, undef, undef, undef, undef, undef, undef, undef, undef, by first | (simp only [Act.put, List.setIfInBounds_toArray, List.set_cons_zero, List.set_cons_succ]; done) | (simp only [Act.put, List.setIfInBounds_toArray, List.set_cons_zero, List.set_cons_succ]; rfl), ?_⟩ ?_ ?_
    · exact ⟨fun h => no_way h, fun h => no_way h, fun h => no_way h, fun h => no_way h, fun h => no_way h, fun h => no_way h, fun h => no_way h, fun h => no_way h, fun h => no_way h, fun h => no_way h, fun _ => trivial, fun _ _ h => no_way h, fun h => no_way h, fun h => no_way h, fun _ => (Below.refl _ _).drew, fun h => no_way h, fun h => no_way h, fun h => no_way h, fun h => no_way h⟩
    · simp only [StepAll, and_true]
      refine ⟨?_, ?_, ?_, ?_, ?_, ?_, ?_, ?_, ?_, ?_, ?_⟩
      · intro d a W hI hd hdep
        obtain ⟨c1, c2, c3, x7, x24, x25, x26, x27, x28, x29, x30, x31, x32, rfl, hF⟩ := hI
        clear hdep hd
        intro K hK
        simp only [Act.put, List.setIfInBounds_toArray, List.set_cons_zero, List.set_cons_succ]
        go_simp
        refine hK.out _ _ ⟨c1, c2, c3, x7, (.pointer (some ⟨ab, 0, none⟩)), x25, x26, x27, x28, x29, x30, x31, x32, by first | (simp only [Act.put, List.setIfInBounds_toArray, List.set_cons_zero, List.set_cons_succ]; done) | (simp only [Act.put, List.setIfInBounds_toArray, List.set_cons_zero, List.set_cons_succ]; rfl), ?_⟩
        exact ⟨fun _ => rfl, fun h => hF.out.f1 (by simpa using h), fun h => hF.out.f2 (by simpa using h), fun h => hF.out.f3 (by simpa using h), fun h => hF.out.f4 (by simpa using h), fun h => hF.out.f5 (by simpa using h), fun h => hF.out.f6 (by simpa using h), fun h => hF.out.f7 (by simpa using h), fun h => hF.out.f8 (by simpa using h), fun h => hF.out.f9 (by simpa using h), fun h => hF.out.f10 (by simpa using h), fun i hi h => by have := hF.out.ol i hi (by simpa using h); simp [this], fun h => by have := hF.out.q83 (by simpa using h); simpa using this, fun h => by have := hF.out.q87 (by simpa using h); simpa using this, fun h => hF.out.bl (by simpa using h), fun h h2 => hF.out.q3 (by simpa using h) (by simpa using h2), fun h h2 => hF.out.q7 (by simpa using h) (by simpa using h2), fun h h2 => hF.out.q9 (by simpa using h) (by simpa using h2), fun h => hF.out.fin (by simpa using h)⟩
      · intro d a W hI hd hdep
        obtain ⟨c1, c2, c3, x7, x24, x25, x26, x27, x28, x29, x30, x31, x32, rfl, hF⟩ := hI
        have hd0 : d 0 = true := dep_of hdep 0 (by kernel_rfl)
        obtain rfl := hF.out.f0 hd0
        have HNL : Hid (d 10 = false) := no_later (hF.out.ol 1 (by omega)) hd
        have hB : Below w2.heap.size w2 W := (hF.out.bl HNL.out)
        have ya : W.cell? ⟨ab, 0, none⟩ = some (.slice sa S sc) := (hB.cell (p := ⟨ab, 0, none⟩) HA0.out.1).trans HA0.out.2
        clear hdep hd hd0
        intro K hK
        simp only [Act.put, List.setIfInBounds_toArray, List.set_cons_zero, List.set_cons_succ]
        go_simp
        refine hK.out _ _ ⟨c1, c2, c3, x7, (.pointer (some ⟨ab, 0, none⟩)), (.slice sa S sc), x26, x27, x28, x29, x30, x31, x32, by first | (simp only [Act.put, List.setIfInBounds_toArray, List.set_cons_zero, List.set_cons_succ]; done) | (simp only [Act.put, List.setIfInBounds_toArray, List.set_cons_zero, List.set_cons_succ]; rfl), ?_⟩
        exact ⟨fun h => hF.out.f0 (by simpa using h), fun _ => rfl, fun h => hF.out.f2 (by simpa using h), fun h => hF.out.f3 (by simpa using h), fun h => hF.out.f4 (by simpa using h), fun h => hF.out.f5 (by simpa using h), fun h => hF.out.f6 (by simpa using h), fun h => hF.out.f7 (by simpa using h), fun h => hF.out.f8 (by simpa using h), fun h => hF.out.f9 (by simpa using h), fun h => hF.out.f10 (by simpa using h), fun i hi h => by have := hF.out.ol i hi (by simpa using h); simp [this], fun h => by have := hF.out.q83 (by simpa using h); simpa using this, fun h => by have := hF.out.q87 (by simpa using h); simpa using this, fun h => hF.out.bl (by simpa using h), fun h h2 => hF.out.q3 (by simpa using h) (by simpa using h2), fun h h2 => hF.out.q7 (by simpa using h) (by simpa using h2), fun h h2 => hF.out.q9 (by simpa using h) (by simpa using h2), fun h => hF.out.fin (by simpa using h)⟩
      · intro d a W hI hd hdep
        obtain ⟨c1, c2, c3, x7, x24, x25, x26, x27, x28, x29, x30, x31, x32, rfl, hF⟩ := hI
        have hd1 : d 1 = true := dep_of hdep 1 (by kernel_rfl)
        obtain rfl := hF.out.f1 hd1
        clear hdep hd hd1
        intro K hK
        simp only [Act.put, List.setIfInBounds_toArray, List.set_cons_zero, List.set_cons_succ]
        go_simp
        refine hK.out _ _ ⟨c1, c2, c3, x7, x24, (.slice sa S sc), (.int .i64 (S : Int)), x27, x28, x29, x30, x31, x32, by first | (simp only [Act.put, List.setIfInBounds_toArray, List.set_cons_zero, List.set_cons_succ]; done) | (simp only [Act.put, List.setIfInBounds_toArray, List.set_cons_zero, List.set_cons_succ]; rfl), ?_⟩
        exact ⟨fun h => hF.out.f0 (by simpa using h), fun h => hF.out.f1 (by simpa using h), fun _ => rfl, fun h => hF.out.f3 (by simpa using h), fun h => hF.out.f4 (by simpa using h), fun h => hF.out.f5 (by simpa using h), fun h => hF.out.f6 (by simpa using h), fun h => hF.out.f7 (by simpa using h), fun h => hF.out.f8 (by simpa using h), fun h => hF.out.f9 (by simpa using h), fun h => hF.out.f10 (by simpa using h), fun i hi h => by have := hF.out.ol i hi (by simpa using h); simp [this], fun h => by have := hF.out.q83 (by simpa using h); simpa using this, fun h => by have := hF.out.q87 (by simpa using h); simpa using this, fun h => hF.out.bl (by simpa using h), fun h h2 => hF.out.q3 (by simpa using h) (by simpa using h2), fun h h2 => hF.out.q7 (by simpa using h) (by simpa using h2), fun h h2 => hF.out.q9 (by simpa using h) (by simpa using h2), fun h => hF.out.fin (by simpa using h)⟩
      · intro d a W hI hd hdep
        obtain ⟨c1, c2, c3, x7, x24, x25, x26, x27, x28, x29, x30, x31, x32, rfl, hF⟩ := hI
        have hd2 : d 2 = true := dep_of hdep 2 (by kernel_rfl)
        obtain rfl := hF.out.f2 hd2
        have HNL : Hid (d 10 = false) := no_later (hF.out.ol 3 (by omega)) hd
        have hB : Below w2.heap.size w2 W := (hF.out.bl HNL.out)
        have hmk := HMK1.out W
        have HN8 : Hid (d 8 = false) := no_later hF.out.q83 hd
        clear hdep hd hd2
        intro K hK
        simp only [Act.put, List.setIfInBounds_toArray, List.set_cons_zero, List.set_cons_succ]
        go_simp
        refine hK.out _ _ ⟨W.heap.size, c2, c3, x7, x24, x25, (.int .i64 (S : Int)), (.slice (some ⟨W.heap.size, 0, none⟩) S S), x28, x29, x30, x31, x32, by first | (simp only [Act.put, List.setIfInBounds_toArray, List.set_cons_zero, List.set_cons_succ]; done) | (simp only [Act.put, List.setIfInBounds_toArray, List.set_cons_zero, List.set_cons_succ]; rfl), ?_⟩
        exact ⟨fun h => hF.out.f0 (by simpa using h), fun h => hF.out.f1 (by simpa using h), fun h => hF.out.f2 (by simpa using h), fun _ => rfl, fun h => hF.out.f4 (by simpa using h), fun h => hF.out.f5 (by simpa using h), fun h => hF.out.f6 (by simpa using h), fun h => hF.out.f7 (by simpa using h), fun h => by have := HN8.out; simp [this] at h, fun h => hF.out.f9 (by simpa using h), fun h => hF.out.f10 (by simpa using h), fun i hi h => by have := hF.out.ol i hi (by simpa using h); simp [this], fun _ => by simp, fun h => by have := hF.out.q87 (by simpa using h); simpa using this, fun _ => hB.trans ((below_alloc W _).mono hB.size), fun _ _ => ⟨World.rowIs_made W (.slice none 0 0) S 84, hB.size⟩, fun h h2 => ⟨(hF.out.q7 (by simpa using h) (by simpa using h2)).1.of_block ((below_alloc W _).block _ (hF.out.q7 (by simpa using h) (by simpa using h2)).1.lt), (hF.out.q7 (by simpa using h) (by simpa using h2)).2⟩, fun h h2 => ⟨mbox_next (hF.out.q9 (by simpa using h) (by simpa using h2)).1 (below_alloc W _), (hF.out.q9 (by simpa using h) (by simpa using h2)).2⟩, fun h => by have := HNL.out; simp [this] at h⟩
      · intro d a W hI hd hdep
        obtain ⟨c1, c2, c3, x7, x24, x25, x26, x27, x28, x29, x30, x31, x32, rfl, hF⟩ := hI
        clear hdep hd
        intro K hK
        simp only [Act.put, List.setIfInBounds_toArray, List.set_cons_zero, List.set_cons_succ]
        go_simp
        refine hK.out _ _ ⟨c1, c2, c3, x7, x24, x25, x26, x27, (.pointer (some ⟨ab, 0, none⟩)), x29, x30, x31, x32, by first | (simp only [Act.put, List.setIfInBounds_toArray, List.set_cons_zero, List.set_cons_succ]; done) | (simp only [Act.put, List.setIfInBounds_toArray, List.set_cons_zero, List.set_cons_succ]; rfl), ?_⟩
        exact ⟨fun h => hF.out.f0 (by simpa using h), fun h => hF.out.f1 (by simpa using h), fun h => hF.out.f2 (by simpa using h), fun h => hF.out.f3 (by simpa using h), fun _ => rfl, fun h => hF.out.f5 (by simpa using h), fun h => hF.out.f6 (by simpa using h), fun h => hF.out.f7 (by simpa using h), fun h => hF.out.f8 (by simpa using h), fun h => hF.out.f9 (by simpa using h), fun h => hF.out.f10 (by simpa using h), fun i hi h => by have := hF.out.ol i hi (by simpa using h); simp [this], fun h => by have := hF.out.q83 (by simpa using h); simpa using this, fun h => by have := hF.out.q87 (by simpa using h); simpa using this, fun h => hF.out.bl (by simpa using h), fun h h2 => hF.out.q3 (by simpa using h) (by simpa using h2), fun h h2 => hF.out.q7 (by simpa using h) (by simpa using h2), fun h h2 => hF.out.q9 (by simpa using h) (by simpa using h2), fun h => hF.out.fin (by simpa using h)⟩
      · intro d a W hI hd hdep
        obtain ⟨c1, c2, c3, x7, x24, x25, x26, x27, x28, x29, x30, x31, x32, rfl, hF⟩ := hI
        have hd4 : d 4 = true := dep_of hdep 4 (by kernel_rfl)
        obtain rfl := hF.out.f4 hd4
        have HNL : Hid (d 10 = false) := no_later (hF.out.ol 5 (by omega)) hd
        have hB : Below w2.heap.size w2 W := (hF.out.bl HNL.out)
        have ya : W.cell? ⟨ab, 0, none⟩ = some (.slice sa S sc) := (hB.cell (p := ⟨ab, 0, none⟩) HA0.out.1).trans HA0.out.2
        clear hdep hd hd4
        intro K hK
        simp only [Act.put, List.setIfInBounds_toArray, List.set_cons_zero, List.set_cons_succ]
        go_simp
        refine hK.out _ _ ⟨c1, c2, c3, x7, x24, x25, x26, x27, (.pointer (some ⟨ab, 0, none⟩)), (.slice sa S sc), x30, x31, x32, by first | (simp only [Act.put, List.setIfInBounds_toArray, List.set_cons_zero, List.set_cons_succ]; done) | (simp only [Act.put, List.setIfInBounds_toArray, List.set_cons_zero, List.set_cons_succ]; rfl), ?_⟩
        exact ⟨fun h => hF.out.f0 (by simpa using h), fun h => hF.out.f1 (by simpa using h), fun h => hF.out.f2 (by simpa using h), fun h => hF.out.f3 (by simpa using h), fun h => hF.out.f4 (by simpa using h), fun _ => rfl, fun h => hF.out.f6 (by simpa using h), fun h => hF.out.f7 (by simpa using h), fun h => hF.out.f8 (by simpa using h), fun h => hF.out.f9 (by simpa using h), fun h => hF.out.f10 (by simpa using h), fun i hi h => by have := hF.out.ol i hi (by simpa using h); simp [this], fun h => by have := hF.out.q83 (by simpa using h); simpa using this, fun h => by have := hF.out.q87 (by simpa using h); simpa using this, fun h => hF.out.bl (by simpa using h), fun h h2 => hF.out.q3 (by simpa using h) (by simpa using h2), fun h h2 => hF.out.q7 (by simpa using h) (by simpa using h2), fun h h2 => hF.out.q9 (by simpa using h) (by simpa using h2), fun h => hF.out.fin (by simpa using h)⟩
      · intro d a W hI hd hdep
        obtain ⟨c1, c2, c3, x7, x24, x25, x26, x27, x28, x29, x30, x31, x32, rfl, hF⟩ := hI
        have hd5 : d 5 = true := dep_of hdep 5 (by kernel_rfl)
        obtain rfl := hF.out.f5 hd5
        clear hdep hd hd5
        intro K hK
        simp only [Act.put, List.setIfInBounds_toArray, List.set_cons_zero, List.set_cons_succ]
        go_simp
        refine hK.out _ _ ⟨c1, c2, c3, x7, x24, x25, x26, x27, x28, (.slice sa S sc), (.int .i64 (S : Int)), x31, x32, by first | (simp only [Act.put, List.setIfInBounds_toArray, List.set_cons_zero, List.set_cons_succ]; done) | (simp only [Act.put, List.setIfInBounds_toArray, List.set_cons_zero, List.set_cons_succ]; rfl), ?_⟩
        exact ⟨fun h => hF.out.f0 (by simpa using h), fun h => hF.out.f1 (by simpa using h), fun h => hF.out.f2 (by simpa using h), fun h => hF.out.f3 (by simpa using h), fun h => hF.out.f4 (by simpa using h), fun h => hF.out.f5 (by simpa using h), fun _ => rfl, fun h => hF.out.f7 (by simpa using h), fun h => hF.out.f8 (by simpa using h), fun h => hF.out.f9 (by simpa using h), fun h => hF.out.f10 (by simpa using h), fun i hi h => by have := hF.out.ol i hi (by simpa using h); simp [this], fun h => by have := hF.out.q83 (by simpa using h); simpa using this, fun h => by have := hF.out.q87 (by simpa using h); simpa using this, fun h => hF.out.bl (by simpa using h), fun h h2 => hF.out.q3 (by simpa using h) (by simpa using h2), fun h h2 => hF.out.q7 (by simpa using h) (by simpa using h2), fun h h2 => hF.out.q9 (by simpa using h) (by simpa using h2), fun h => hF.out.fin (by simpa using h)⟩
      · intro d a W hI hd hdep
        obtain ⟨c1, c2, c3, x7, x24, x25, x26, x27, x28, x29, x30, x31, x32, rfl, hF⟩ := hI
        have hd6 : d 6 = true := dep_of hdep 6 (by kernel_rfl)
        obtain rfl := hF.out.f6 hd6
        have HNL : Hid (d 10 = false) := no_later (hF.out.ol 7 (by omega)) hd
        have hB : Below w2.heap.size w2 W := (hF.out.bl HNL.out)
        have hmk := HMK2.out W
        have HN8 : Hid (d 8 = false) := no_later hF.out.q87 hd
        clear hdep hd hd6
        intro K hK
        simp only [Act.put, List.setIfInBounds_toArray, List.set_cons_zero, List.set_cons_succ]
        go_simp
        refine hK.out _ _ ⟨c1, W.heap.size, c3, x7, x24, x25, x26, x27, x28, x29, (.int .i64 (S : Int)), (.slice (some ⟨W.heap.size, 0, none⟩) S S), x32, by first | (simp only [Act.put, List.setIfInBounds_toArray, List.set_cons_zero, List.set_cons_succ]; done) | (simp only [Act.put, List.setIfInBounds_toArray, List.set_cons_zero, List.set_cons_succ]; rfl), ?_⟩
        exact ⟨fun h => hF.out.f0 (by simpa using h), fun h => hF.out.f1 (by simpa using h), fun h => hF.out.f2 (by simpa using h), fun h => hF.out.f3 (by simpa using h), fun h => hF.out.f4 (by simpa using h), fun h => hF.out.f5 (by simpa using h), fun h => hF.out.f6 (by simpa using h), fun _ => rfl, fun h => by have := HN8.out; simp [this] at h, fun h => hF.out.f9 (by simpa using h), fun h => hF.out.f10 (by simpa using h), fun i hi h => by have := hF.out.ol i hi (by simpa using h); simp [this], fun h => by have := hF.out.q83 (by simpa using h); simpa using this, fun _ => by simp, fun _ => hB.trans ((below_alloc W _).mono hB.size), fun h h2 => ⟨(hF.out.q3 (by simpa using h) (by simpa using h2)).1.of_block ((below_alloc W _).block _ (hF.out.q3 (by simpa using h) (by simpa using h2)).1.lt), (hF.out.q3 (by simpa using h) (by simpa using h2)).2⟩, fun _ _ => ⟨World.rowIs_made W (.slice none 0 0) S 29, hB.size⟩, fun h h2 => ⟨mbox_next (hF.out.q9 (by simpa using h) (by simpa using h2)).1 (below_alloc W _), (hF.out.q9 (by simpa using h) (by simpa using h2)).2⟩, fun h => by have := HNL.out; simp [this] at h⟩
      · intro d a W hI hd hdep
        obtain ⟨c1, c2, c3, x7, x24, x25, x26, x27, x28, x29, x30, x31, x32, rfl, hF⟩ := hI
        have hd3 : d 3 = true := dep_of hdep 3 (by kernel_rfl)
        have hd7 : d 7 = true := dep_of hdep 7 (by kernel_rfl)
        obtain rfl := hF.out.f3 hd3
        obtain rfl := hF.out.f7 hd7
        have q83x := hd3
        have q87x := hd7
        clear hdep hd hd3 hd7
        intro K hK
        simp only [Act.put, List.setIfInBounds_toArray, List.set_cons_zero, List.set_cons_succ]
        go_simp
        refine hK.out _ _ ⟨c1, c2, c3, x7, x24, x25, x26, (.slice (some ⟨c1, 0, none⟩) S S), x28, x29, x30, (.slice (some ⟨c2, 0, none⟩) S S), (.agg #[.slice (some ⟨c1, 0, none⟩) S S, .slice (some ⟨c2, 0, none⟩) S S]), by first | (simp only [Act.put, List.setIfInBounds_toArray, List.set_cons_zero, List.set_cons_succ]; done) | (simp only [Act.put, List.setIfInBounds_toArray, List.set_cons_zero, List.set_cons_succ]; rfl), ?_⟩
        exact ⟨fun h => hF.out.f0 (by simpa using h), fun h => hF.out.f1 (by simpa using h), fun h => hF.out.f2 (by simpa using h), fun h => hF.out.f3 (by simpa using h), fun h => hF.out.f4 (by simpa using h), fun h => hF.out.f5 (by simpa using h), fun h => hF.out.f6 (by simpa using h), fun h => hF.out.f7 (by simpa using h), fun _ => rfl, fun h => hF.out.f9 (by simpa using h), fun h => hF.out.f10 (by simpa using h), fun i hi h => by have := hF.out.ol i hi (by simpa using h); simp [this], fun _ => by simpa using q83x, fun _ => by simpa using q87x, fun h => hF.out.bl (by simpa using h), fun h h2 => hF.out.q3 (by simpa using h) (by simpa using h2), fun h h2 => hF.out.q7 (by simpa using h) (by simpa using h2), fun h h2 => hF.out.q9 (by simpa using h) (by simpa using h2), fun h => hF.out.fin (by simpa using h)⟩
      · intro d a W hI hd hdep
        obtain ⟨c1, c2, c3, x7, x24, x25, x26, x27, x28, x29, x30, x31, x32, rfl, hF⟩ := hI
        have HNL : Hid (d 10 = false) := no_later (hF.out.ol 9 (by omega)) hd
        have hB : Below w2.heap.size w2 W := (hF.out.bl HNL.out)
        clear hdep hd
        intro K hK
        simp only [Act.put, List.setIfInBounds_toArray, List.set_cons_zero, List.set_cons_succ]
        go_simp
        refine hK.out _ _ ⟨c1, c2, W.heap.size, (.pointer (some ⟨W.heap.size, 0, none⟩)), x24, x25, x26, x27, x28, x29, x30, x31, x32, by first | (simp only [Act.put, List.setIfInBounds_toArray, List.set_cons_zero, List.set_cons_succ]; done) | (simp only [Act.put, List.setIfInBounds_toArray, List.set_cons_zero, List.set_cons_succ]; rfl), ?_⟩
        exact ⟨fun h => hF.out.f0 (by simpa using h), fun h => hF.out.f1 (by simpa using h), fun h => hF.out.f2 (by simpa using h), fun h => hF.out.f3 (by simpa using h), fun h => hF.out.f4 (by simpa using h), fun h => hF.out.f5 (by simpa using h), fun h => hF.out.f6 (by simpa using h), fun h => hF.out.f7 (by simpa using h), fun h => hF.out.f8 (by simpa using h), fun _ => rfl, fun h => hF.out.f10 (by simpa using h), fun i hi h => by have := hF.out.ol i hi (by simpa using h); simp [this], fun h => by have := hF.out.q83 (by simpa using h); simpa using this, fun h => by have := hF.out.q87 (by simpa using h); simpa using this, fun _ => hB.trans ((below_alloc W _).mono hB.size), fun h h2 => ⟨(hF.out.q3 (by simpa using h) (by simpa using h2)).1.of_block ((below_alloc W _).block _ (hF.out.q3 (by simpa using h) (by simpa using h2)).1.lt), (hF.out.q3 (by simpa using h) (by simpa using h2)).2⟩, fun h h2 => ⟨(hF.out.q7 (by simpa using h) (by simpa using h2)).1.of_block ((below_alloc W _).block _ (hF.out.q7 (by simpa using h) (by simpa using h2)).1.lt), (hF.out.q7 (by simpa using h) (by simpa using h2)).2⟩, fun _ _ => ⟨heap_alloc_new _ _, hB.size⟩, fun h => by have := HNL.out; simp [this] at h⟩
      · intro d a W hI hd hdep
        obtain ⟨c1, c2, c3, x7, x24, x25, x26, x27, x28, x29, x30, x31, x32, rfl, hF⟩ := hI
        have hd0 : d 0 = true := dep_of hdep 0 (by kernel_rfl)
        have hd1 : d 1 = true := dep_of hdep 1 (by kernel_rfl)
        have hd2 : d 2 = true := dep_of hdep 2 (by kernel_rfl)
        have hd3 : d 3 = true := dep_of hdep 3 (by kernel_rfl)
        have hd4 : d 4 = true := dep_of hdep 4 (by kernel_rfl)
        have hd5 : d 5 = true := dep_of hdep 5 (by kernel_rfl)
        have hd6 : d 6 = true := dep_of hdep 6 (by kernel_rfl)
        have hd7 : d 7 = true := dep_of hdep 7 (by kernel_rfl)
        have hd8 : d 8 = true := dep_of hdep 8 (by kernel_rfl)
        have hd9 : d 9 = true := dep_of hdep 9 (by kernel_rfl)
        obtain rfl := hF.out.f0 hd0
        obtain rfl := hF.out.f1 hd1
        obtain rfl := hF.out.f2 hd2
        obtain rfl := hF.out.f3 hd3
        obtain rfl := hF.out.f4 hd4
        obtain rfl := hF.out.f5 hd5
        obtain rfl := hF.out.f6 hd6
        obtain rfl := hF.out.f7 hd7
        obtain rfl := hF.out.f8 hd8
        obtain rfl := hF.out.f9 hd9
        have HD : Hid (∀ i, i < 10 → d i = true) := fun i hi => by
          have : i = 0 ∨ i = 1 ∨ i = 2 ∨ i = 3 ∨ i = 4 ∨ i = 5 ∨ i = 6 ∨ i = 7 ∨ i = 8 ∨ i = 9 := by omega
          rcases this with rfl | rfl | rfl | rfl | rfl | rfl | rfl | rfl | rfl | rfl <;> assumption
        have HB : Hid (Below w2.heap.size w2 W) := hF.out.bl hd
        have HQ3 := hF.out.q3 hd3 hd
        have HQ7 := hF.out.q7 hd7 hd
        have HQ9 := hF.out.q9 hd9 hd
        have y0 := mcell_blk HQ9.1 0
        have y1 := mcell_blk HQ9.1 1
        have f0 := mfrozen_blk HQ9.1 0
        have f1 := mfrozen_blk HQ9.1 1
        simp only [List.getElem?_toArray, List.getElem?_cons_zero, List.getElem?_cons_succ] at y0 y1
        have a1 := mblock_store (i := 0) HQ9.1 (.slice (some ⟨c1, 0, none⟩) S S)
        have f2 := mfrozen_blk a1 1
        have y2 := mcell_blk a1 1
        simp at y2
        clear a1
        clear hdep hd hd0 hd1 hd2 hd3 hd4 hd5 hd6 hd7 hd8 hd9
        intro K hK
        simp only [Act.put, List.setIfInBounds_toArray, List.set_cons_zero, List.set_cons_succ]
        go_simp
        refine hK.out _ _ ⟨c1, c2, c3, (.pointer (some ⟨c3, 0, none⟩)), (.pointer (some ⟨ab, 0, none⟩)), (.slice sa S sc), (.int .i64 (S : Int)), (.slice (some ⟨c1, 0, none⟩) S S), (.pointer (some ⟨ab, 0, none⟩)), (.slice sa S sc), (.int .i64 (S : Int)), (.slice (some ⟨c2, 0, none⟩) S S), (.agg #[.slice (some ⟨c1, 0, none⟩) S S, .slice (some ⟨c2, 0, none⟩) S S]), by first | (simp only [Act.put, List.setIfInBounds_toArray, List.set_cons_zero, List.set_cons_succ]; done) | (simp only [Act.put, List.setIfInBounds_toArray, List.set_cons_zero, List.set_cons_succ]; rfl), ?_⟩
        exact ⟨fun h => hF.out.f0 (by simpa using h), fun h => hF.out.f1 (by simpa using h), fun h => hF.out.f2 (by simpa using h), fun h => hF.out.f3 (by simpa using h), fun h => hF.out.f4 (by simpa using h), fun h => hF.out.f5 (by simpa using h), fun h => hF.out.f6 (by simpa using h), fun h => hF.out.f7 (by simpa using h), fun h => hF.out.f8 (by simpa using h), fun h => hF.out.f9 (by simpa using h), fun _ => trivial, fun i hi _ => by have := HD.out i hi; simp [this], fun h => by have := hF.out.q83 (by simpa using h); simpa using this, fun h => by have := hF.out.q87 (by simpa using h); simpa using this, fun h => by simp at h, fun _ h => by simp at h, fun _ h => by simp at h, fun _ h => by simp at h, fun _ => ⟨W, HB.out, HQ3, HQ7, HQ9, rfl⟩⟩
    · intro d a W hI hall
      obtain ⟨c1, c2, c3, x7, x24, x25, x26, x27, x28, x29, x30, x31, x32, rfl, hF⟩ := hI
      simp only [List.length_cons, List.length_nil] at hall
      obtain rfl := hF.out.f0 (hall 0 (by omega))
      obtain rfl := hF.out.f1 (hall 1 (by omega))
      obtain rfl := hF.out.f2 (hall 2 (by omega))
      obtain rfl := hF.out.f3 (hall 3 (by omega))
      obtain rfl := hF.out.f4 (hall 4 (by omega))
      obtain rfl := hF.out.f5 (hall 5 (by omega))
      obtain rfl := hF.out.f6 (hall 6 (by omega))
      obtain rfl := hF.out.f7 (hall 7 (by omega))
      obtain rfl := hF.out.f8 (hall 8 (by omega))
      obtain rfl := hF.out.f9 (hall 9 (by omega))
      obtain ⟨V, v0, v1, v2, v3, rfl⟩ := hF.out.fin (hall 10 (by omega))
      have HL0 : Hid (Lk w T n (.slice po ps.length pc) ps S ab c3 c1 c2 (.slice sa S sc) (.slice na S nc) vs ws ss nx 0 (fun _ => 0) (Aq (cdH T ps ss nx) 0 0) 0 (fun _ => .slice none 0 0) (.slice none 0 0) (ftN T ps ss nx 0) ((V.setCell ⟨c3, 0, none⟩ (.slice (some ⟨c1, 0, none⟩) S S)).setCell ⟨c3, 1, none⟩ (.slice (some ⟨c2, 0, none⟩) S S))) := by
        have hsz := HSZ.out
        refine Lk.start HPD.out (HG2.out.next v0) (mbox_next HRC2.out v0) (mbox_next HAB.out v0) (own_below HSR.out v0) (own_below HNR.out v0) (ItR.keep HSI.out fun q _ hq => v0.block q (mheap_lt hq)) (InR.keep HNI.out fun q _ hq => v0.block q (mheap_lt hq)) v1.1 v2.1 v3.1 (by have := v1.2; omega) (by have := v2.2; omega) (by have := v3.2; omega) (fun e => ?_)
        have h1 := (World.ownsRow.lt HNR.out _ e).2
        have h2 := v2.2
        omega
      clear hF hall v0 v1 v2 v3 HG2 HRC2 HAB HSR HNR HSI HNI HA0 HMK1 HMK2
      simp only [Act.put, List.setIfInBounds_toArray, List.set_cons_zero, List.set_cons_succ]
      obtain ⟨w3, HW3⟩ : ∃ z, Hid ((V.setCell ⟨c3, 0, none⟩ (.slice (some ⟨c1, 0, none⟩) S S)).setCell ⟨c3, 1, none⟩ (.slice (some ⟨c2, 0, none⟩) S S) = z) := ⟨_, (rfl : (V.setCell ⟨c3, 0, none⟩ (.slice (some ⟨c1, 0, none⟩) S S)).setCell ⟨c3, 1, none⟩ (.slice (some ⟨c2, 0, none⟩) S S) = _)⟩
      rw [HW3.out] at HL0 ⊢
      clear HW3
      obtain ⟨sb, rfl⟩ : ∃ sb, sa = some ⟨sb, 0, none⟩ := by
        obtain ⟨fb, fcap, hfe⟩ := Go.Joins.ownsRow_form HL0.out.sr (by have := HS2.out; omega)
        cases hfe; exact ⟨fb, rfl⟩
      obtain ⟨nb, rfl⟩ : ∃ nb, na = some ⟨nb, 0, none⟩ := by
        obtain ⟨fb, fcap, hfe⟩ := Go.Joins.ownsRow_form HL0.out.nr (by have := HS2.out; omega)
        cases hfe; exact ⟨fb, rfl⟩
      have d1 := mcell_blk HL0.out.abx 1
      simp only [List.getElem?_toArray, List.getElem?_cons_zero, List.getElem?_cons_succ] at d1
      go_upto_region 7 with fail
      clear d1
      have HS200 := HS2.out.1
      go_loopw [8, 36] (fun cs y wr => ∃ (k : Nat) (vo : Option Addr) (vn vc : Nat), k ≤ S ∧ cs = .slice vo vn vc ∧ y = .int .i64 (k : Int) ∧ Hid (∃ rb f2, Lk w T n (.slice po ps.length pc) ps S ab c3 c1 c2 (.slice (some ⟨sb, 0, none⟩) S sc) (.slice (some ⟨nb, 0, none⟩) S nc) vs ws ss nx k rb (Aq (cdH T ps ss nx) k 0) k f2 (.slice vo vn vc) (ftN T ps ss nx k) wr)) (fun _ y _ => S - (intOf y).toNat)
      case atStart => exact ⟨0, none, 0, 0, by omega, rfl, rfl, _, _, HL0.out⟩
      case round =>
        obtain ⟨k, vo, vn, vc, hk, rfl, rfl, HI⟩ := hrel
        clear HL0
        obtain ⟨tb, rfl⟩ : ∃ z, z = c3 := ⟨_, rfl⟩
        obtain ⟨b1, rfl⟩ : ∃ z, z = c1 := ⟨_, rfl⟩
        obtain ⟨b2, rfl⟩ : ∃ z, z = c2 := ⟨_, rfl⟩
        by_cases hlt : k < S
        · have hk1 : (k : Int) < (S : Int) := by omega
          have hk0 : (0 : Int) ≤ (k : Int) := by omega
          obtain ⟨rb0, f2, hl⟩ := HI.out
          have HLK : Hid (∃ rb, Lk w T n (.slice po ps.length pc) ps S ab tb b1 b2 (.slice (some ⟨sb, 0, none⟩) S sc) (.slice (some ⟨nb, 0, none⟩) S nc) vs ws ss nx k rb (Aq (cdH T ps ss nx) k 0) k f2 (.slice vo vn vc) (ftN T ps ss nx k) wr) := ⟨rb0, hl⟩
          have HKS : Hid (k < S) := hlt
          have hkn : k < nx.length := by have := HS2.out.2.1; omega
          have hks : k < ss.length := by have := HS2.out.2.2.1; omega
          have HNXK : Hid (nx[k]? = some (nx.getD k [])) := by show _ = _; rw [List.getD_eq_getElem?_getD, List.getElem?_eq_getElem hkn]; rfl
          have HSSK : Hid (ss[k]? = some (ss.getD k [])) := by show _ = _; rw [List.getD_eq_getElem?_getD, List.getElem?_eq_getElem hks]; rfl
          obtain ⟨u, hu1, hu2⟩ := hl.ni k _ HNXK.out
          have HRL : Hid ((nx.getD k []).length = T + n) := HRWL.out k _ HNXK.out
          rw [HRL.out] at hu2
          obtain ⟨rn, rc, hue⟩ := Go.Joins.ownsRow_form hu2 (by have := HTN.out; omega)
          subst hue
          have hca := hl.nr.cells (g := nb) rfl k _ hu1
          rw [Addr.add_lit, Nat.zero_add] at hca
          have HWSK : Hid (ws[k]? = some (.slice (some ⟨rn, 0, none⟩) (T + n) rc)) := hu1
          have HRC : Hid (T + n ≤ rc) := by
            rcases hu2.2 with ⟨h1, _⟩ | ⟨q, cap, cur, hv, _, _, h5, _⟩
            · cases h1
            · cases hv; exact h5
          have HNXI : Hid (∀ W, Below wr.heap.size wr W → W.ownsRow w.heap.size 3 1 (.slice (some ⟨rn, 0, none⟩) (T + n) rc) (T + n) ((nx.getD k []).map (Value.int .i64))) := fun W hW => own_below hu2 hW
          have HT0 : Hid (tb < wr.heap.size ∧ wr.cell? ⟨tb, 0, none⟩ = some (.slice (some ⟨b1, 0, none⟩) S S)) := ⟨mheap_lt hl.tbx, by have := mcell_blk hl.tbx 0; simpa using this⟩
          have HGT : Hid (w.heap.size < wr.heap.size ∧ wr.cell? ⟨w.heap.size, 0, none⟩ = some (.int .i64 (T : Int))) := ⟨hl.gb.lt, hl.gb.c0⟩
          have kb1 := hl.r1.cell hlt
          rw [if_neg (by omega)] at kb1
          have HB1 : Hid (b1 < wr.heap.size ∧ wr.cell? ⟨b1, k, none⟩ = some (.slice none 0 0) ∧ wr.frozen? ⟨b1, k, none⟩ = false) := ⟨hl.r1.lt, kb1, World.rowIs.frozen hl.r1 k⟩
          have HSZW : Hid (w.heap.size + 2 ≤ wr.heap.size) := by have := mheap_lt hl.rc; show _ ≤ _; omega
          have hmk3 := run_make_row2 T (by have := HTN.out; omega)
          have HMK3 : Hid (∀ W : World, (Instr.makeSlice 84 (.int .i64 ((T : Int) + 1)) (.int .i64 ((T : Int) + 1))).run Try.prog W = .ok (.slice (some ⟨W.heap.size, 0, none⟩) (T + 1) (T + 1)) (W.alloc (Obj.cells (madeCells #[Value.int .i64 0, .int .i64 0] ((T + 1) * 2)) 104))) := fun W => hmk3 W
          have HWR : Hid (IntKind.i64.wrap ((T : Int) + 1) = (T : Int) + 1) := by
            show _ = _
            have := HTN.out
            rw [IntKind.wrap_i64]; omega
          clear HI hl hu1 hu2 kb1 hmk3 hkn hks
          go_upto_region 9 with fail
          clear hca hk1 hk0
          refine wp_region_free mixed (fun a0 d a W => ∃ (rk : Nat) (x41 x42 x43 x44 x45 x46 x47 x48 : Value), a = ((((((((a0.put (some 41) x41).put (some 42) x42).put (some 43) x43).put (some 44) x44).put (some 45) x45).put (some 46) x46).put (some 47) x47).put (some 48) x48) ∧ Hid (RT9 wr w.heap.size tb b1 S T k rk d x41 x42 x43 x44 x45 x46 x47 x48 W)) (by kernel_rfl) ⟨0, u41, u42, u43, u44, u45, u46, u47, u48, by first | (simp only [Act.put, List.setIfInBounds_toArray, List.set_cons_zero, List.set_cons_succ]; done) | (simp only [Act.put, List.setIfInBounds_toArray, List.set_cons_zero, List.set_cons_succ]; rfl), ?_⟩ ?_ ?_
          · exact ⟨fun h => no_way h, fun h => no_way h, fun h => no_way h, fun h => no_way h, fun h => no_way h, fun h => no_way h, fun h => no_way h, fun h => no_way h, fun _ => trivial, fun _ _ h => no_way h, fun _ => (Below.refl _ _).drew, fun h => no_way h, fun h => no_way h⟩
          · simp only [StepAll, and_true]
            refine ⟨?_, ?_, ?_, ?_, ?_, ?_, ?_, ?_, ?_⟩
            · intro d a W hI hd hdep
              obtain ⟨rk, x41, x42, x43, x44, x45, x46, x47, x48, rfl, hF⟩ := hI
              clear hdep hd
              intro K hK
              simp only [Act.put, List.setIfInBounds_toArray, List.set_cons_zero, List.set_cons_succ]
              go_simp
              refine hK.out _ _ ⟨rk, (.pointer (some ⟨tb, 0, none⟩)), x42, x43, x44, x45, x46, x47, x48, by first | (simp only [Act.put, List.setIfInBounds_toArray, List.set_cons_zero, List.set_cons_succ]; done) | (simp only [Act.put, List.setIfInBounds_toArray, List.set_cons_zero, List.set_cons_succ]; rfl), ?_⟩
              exact ⟨fun _ => rfl, fun h => hF.out.f1 (by simpa using h), fun h => hF.out.f2 (by simpa using h), fun h => hF.out.f3 (by simpa using h), fun h => hF.out.f4 (by simpa using h), fun h => hF.out.f5 (by simpa using h), fun h => hF.out.f6 (by simpa using h), fun h => hF.out.f7 (by simpa using h), fun h => hF.out.f8 (by simpa using h), fun i hi h => by have := hF.out.ol i hi (by simpa using h); simp [this], fun h => hF.out.bl (by simpa using h), fun h h2 => hF.out.q6 (by simpa using h) (by simpa using h2), fun h => hF.out.fin (by simpa using h)⟩
            · intro d a W hI hd hdep
              obtain ⟨rk, x41, x42, x43, x44, x45, x46, x47, x48, rfl, hF⟩ := hI
              have hd0 : d 0 = true := dep_of hdep 0 (by kernel_rfl)
              obtain rfl := hF.out.f0 hd0
              have HNL : Hid (d 8 = false) := no_later (hF.out.ol 1 (by omega)) hd
              have hB : Below wr.heap.size wr W := (hF.out.bl HNL.out)
              have ya : W.cell? ⟨tb, 0, none⟩ = some (.slice (some ⟨b1, 0, none⟩) S S) := (hB.cell (p := ⟨tb, 0, none⟩) HT0.out.1).trans HT0.out.2
              clear hdep hd hd0
              intro K hK
              simp only [Act.put, List.setIfInBounds_toArray, List.set_cons_zero, List.set_cons_succ]
              go_simp
              refine hK.out _ _ ⟨rk, (.pointer (some ⟨tb, 0, none⟩)), (.slice (some ⟨b1, 0, none⟩) S S), x43, x44, x45, x46, x47, x48, by first | (simp only [Act.put, List.setIfInBounds_toArray, List.set_cons_zero, List.set_cons_succ]; done) | (simp only [Act.put, List.setIfInBounds_toArray, List.set_cons_zero, List.set_cons_succ]; rfl), ?_⟩
              exact ⟨fun h => hF.out.f0 (by simpa using h), fun _ => rfl, fun h => hF.out.f2 (by simpa using h), fun h => hF.out.f3 (by simpa using h), fun h => hF.out.f4 (by simpa using h), fun h => hF.out.f5 (by simpa using h), fun h => hF.out.f6 (by simpa using h), fun h => hF.out.f7 (by simpa using h), fun h => hF.out.f8 (by simpa using h), fun i hi h => by have := hF.out.ol i hi (by simpa using h); simp [this], fun h => hF.out.bl (by simpa using h), fun h h2 => hF.out.q6 (by simpa using h) (by simpa using h2), fun h => hF.out.fin (by simpa using h)⟩
            · intro d a W hI hd hdep
              obtain ⟨rk, x41, x42, x43, x44, x45, x46, x47, x48, rfl, hF⟩ := hI
              clear hdep hd
              intro K hK
              simp only [Act.put, List.setIfInBounds_toArray, List.set_cons_zero, List.set_cons_succ]
              go_simp
              refine hK.out _ _ ⟨rk, x41, x42, (.int .i64 (k : Int)), x44, x45, x46, x47, x48, by first | (simp only [Act.put, List.setIfInBounds_toArray, List.set_cons_zero, List.set_cons_succ]; done) | (simp only [Act.put, List.setIfInBounds_toArray, List.set_cons_zero, List.set_cons_succ]; rfl), ?_⟩
              exact ⟨fun h => hF.out.f0 (by simpa using h), fun h => hF.out.f1 (by simpa using h), fun _ => rfl, fun h => hF.out.f3 (by simpa using h), fun h => hF.out.f4 (by simpa using h), fun h => hF.out.f5 (by simpa using h), fun h => hF.out.f6 (by simpa using h), fun h => hF.out.f7 (by simpa using h), fun h => hF.out.f8 (by simpa using h), fun i hi h => by have := hF.out.ol i hi (by simpa using h); simp [this], fun h => hF.out.bl (by simpa using h), fun h h2 => hF.out.q6 (by simpa using h) (by simpa using h2), fun h => hF.out.fin (by simpa using h)⟩
            · intro d a W hI hd hdep
              obtain ⟨rk, x41, x42, x43, x44, x45, x46, x47, x48, rfl, hF⟩ := hI
              clear hdep hd
              intro K hK
              simp only [Act.put, List.setIfInBounds_toArray, List.set_cons_zero, List.set_cons_succ]
              go_simp
              refine hK.out _ _ ⟨rk, x41, x42, x43, (.pointer (some ⟨w.heap.size, 0, none⟩)), x45, x46, x47, x48, by first | (simp only [Act.put, List.setIfInBounds_toArray, List.set_cons_zero, List.set_cons_succ]; done) | (simp only [Act.put, List.setIfInBounds_toArray, List.set_cons_zero, List.set_cons_succ]; rfl), ?_⟩
              exact ⟨fun h => hF.out.f0 (by simpa using h), fun h => hF.out.f1 (by simpa using h), fun h => hF.out.f2 (by simpa using h), fun _ => rfl, fun h => hF.out.f4 (by simpa using h), fun h => hF.out.f5 (by simpa using h), fun h => hF.out.f6 (by simpa using h), fun h => hF.out.f7 (by simpa using h), fun h => hF.out.f8 (by simpa using h), fun i hi h => by have := hF.out.ol i hi (by simpa using h); simp [this], fun h => hF.out.bl (by simpa using h), fun h h2 => hF.out.q6 (by simpa using h) (by simpa using h2), fun h => hF.out.fin (by simpa using h)⟩
            · intro d a W hI hd hdep
              obtain ⟨rk, x41, x42, x43, x44, x45, x46, x47, x48, rfl, hF⟩ := hI
              have hd3 : d 3 = true := dep_of hdep 3 (by kernel_rfl)
              obtain rfl := hF.out.f3 hd3
              have HNL : Hid (d 8 = false) := no_later (hF.out.ol 4 (by omega)) hd
              have hB : Below wr.heap.size wr W := (hF.out.bl HNL.out)
              have ya : W.cell? ⟨w.heap.size, 0, none⟩ = some (.int .i64 (T : Int)) := (hB.cell (p := ⟨w.heap.size, 0, none⟩) HGT.out.1).trans HGT.out.2
              clear hdep hd hd3
              intro K hK
              simp only [Act.put, List.setIfInBounds_toArray, List.set_cons_zero, List.set_cons_succ]
              go_simp
              refine hK.out _ _ ⟨rk, x41, x42, x43, (.pointer (some ⟨w.heap.size, 0, none⟩)), (.int .i64 (T : Int)), x46, x47, x48, by first | (simp only [Act.put, List.setIfInBounds_toArray, List.set_cons_zero, List.set_cons_succ]; done) | (simp only [Act.put, List.setIfInBounds_toArray, List.set_cons_zero, List.set_cons_succ]; rfl), ?_⟩
              exact ⟨fun h => hF.out.f0 (by simpa using h), fun h => hF.out.f1 (by simpa using h), fun h => hF.out.f2 (by simpa using h), fun h => hF.out.f3 (by simpa using h), fun _ => rfl, fun h => hF.out.f5 (by simpa using h), fun h => hF.out.f6 (by simpa using h), fun h => hF.out.f7 (by simpa using h), fun h => hF.out.f8 (by simpa using h), fun i hi h => by have := hF.out.ol i hi (by simpa using h); simp [this], fun h => hF.out.bl (by simpa using h), fun h h2 => hF.out.q6 (by simpa using h) (by simpa using h2), fun h => hF.out.fin (by simpa using h)⟩
            · intro d a W hI hd hdep
              obtain ⟨rk, x41, x42, x43, x44, x45, x46, x47, x48, rfl, hF⟩ := hI
              have hd4 : d 4 = true := dep_of hdep 4 (by kernel_rfl)
              obtain rfl := hF.out.f4 hd4
              have hwr : IntKind.i64.wrap ((T : Int) + 1) = (T : Int) + 1 := HWR.out
              clear hdep hd hd4
              intro K hK
              simp only [Act.put, List.setIfInBounds_toArray, List.set_cons_zero, List.set_cons_succ]
              go_simp
              refine hK.out _ _ ⟨rk, x41, x42, x43, x44, (.int .i64 (T : Int)), (.int .i64 ((T : Int) + 1)), x47, x48, by first | (simp only [Act.put, List.setIfInBounds_toArray, List.set_cons_zero, List.set_cons_succ]; done) | (simp only [Act.put, List.setIfInBounds_toArray, List.set_cons_zero, List.set_cons_succ]; rfl), ?_⟩
              exact ⟨fun h => hF.out.f0 (by simpa using h), fun h => hF.out.f1 (by simpa using h), fun h => hF.out.f2 (by simpa using h), fun h => hF.out.f3 (by simpa using h), fun h => hF.out.f4 (by simpa using h), fun _ => rfl, fun h => hF.out.f6 (by simpa using h), fun h => hF.out.f7 (by simpa using h), fun h => hF.out.f8 (by simpa using h), fun i hi h => by have := hF.out.ol i hi (by simpa using h); simp [this], fun h => hF.out.bl (by simpa using h), fun h h2 => hF.out.q6 (by simpa using h) (by simpa using h2), fun h => hF.out.fin (by simpa using h)⟩
            · intro d a W hI hd hdep
              obtain ⟨rk, x41, x42, x43, x44, x45, x46, x47, x48, rfl, hF⟩ := hI
              have hd5 : d 5 = true := dep_of hdep 5 (by kernel_rfl)
              obtain rfl := hF.out.f5 hd5
              have HNL : Hid (d 8 = false) := no_later (hF.out.ol 6 (by omega)) hd
              have hB : Below wr.heap.size wr W := (hF.out.bl HNL.out)
              have hmk := HMK3.out W
              clear hdep hd hd5
              intro K hK
              simp only [Act.put, List.setIfInBounds_toArray, List.set_cons_zero, List.set_cons_succ]
              go_simp
              refine hK.out _ _ ⟨W.heap.size, x41, x42, x43, x44, x45, (.int .i64 ((T : Int) + 1)), (.slice (some ⟨W.heap.size, 0, none⟩) (T + 1) (T + 1)), x48, by first | (simp only [Act.put, List.setIfInBounds_toArray, List.set_cons_zero, List.set_cons_succ]; done) | (simp only [Act.put, List.setIfInBounds_toArray, List.set_cons_zero, List.set_cons_succ]; rfl), ?_⟩
              exact ⟨fun h => hF.out.f0 (by simpa using h), fun h => hF.out.f1 (by simpa using h), fun h => hF.out.f2 (by simpa using h), fun h => hF.out.f3 (by simpa using h), fun h => hF.out.f4 (by simpa using h), fun h => hF.out.f5 (by simpa using h), fun _ => rfl, fun h => hF.out.f7 (by simpa using h), fun h => hF.out.f8 (by simpa using h), fun i hi h => by have := hF.out.ol i hi (by simpa using h); simp [this], fun _ => hB.trans ((below_alloc W _).mono hB.size), fun _ _ => ⟨acz W T, hB.size⟩, fun h => by have := HNL.out; simp [this] at h⟩
            · intro d a W hI hd hdep
              obtain ⟨rk, x41, x42, x43, x44, x45, x46, x47, x48, rfl, hF⟩ := hI
              have hd1 : d 1 = true := dep_of hdep 1 (by kernel_rfl)
              have hd2 : d 2 = true := dep_of hdep 2 (by kernel_rfl)
              obtain rfl := hF.out.f1 hd1
              obtain rfl := hF.out.f2 hd2
              have hi0 : (0 : Int) ≤ (k : Int) := by omega
              have hi1 : (k : Int) < (S : Int) := by have := HKS.out; omega
              clear hdep hd hd1 hd2
              intro K hK
              simp only [Act.put, List.setIfInBounds_toArray, List.set_cons_zero, List.set_cons_succ]
              go_simp
              refine hK.out _ _ ⟨rk, x41, (.slice (some ⟨b1, 0, none⟩) S S), (.int .i64 (k : Int)), x44, x45, x46, x47, (.pointer (some ⟨b1, k, none⟩)), by first | (simp only [Act.put, List.setIfInBounds_toArray, List.set_cons_zero, List.set_cons_succ]; done) | (simp only [Act.put, List.setIfInBounds_toArray, List.set_cons_zero, List.set_cons_succ]; rfl), ?_⟩
              exact ⟨fun h => hF.out.f0 (by simpa using h), fun h => hF.out.f1 (by simpa using h), fun h => hF.out.f2 (by simpa using h), fun h => hF.out.f3 (by simpa using h), fun h => hF.out.f4 (by simpa using h), fun h => hF.out.f5 (by simpa using h), fun h => hF.out.f6 (by simpa using h), fun _ => rfl, fun h => hF.out.f8 (by simpa using h), fun i hi h => by have := hF.out.ol i hi (by simpa using h); simp [this], fun h => hF.out.bl (by simpa using h), fun h h2 => hF.out.q6 (by simpa using h) (by simpa using h2), fun h => hF.out.fin (by simpa using h)⟩
            · intro d a W hI hd hdep
              obtain ⟨rk, x41, x42, x43, x44, x45, x46, x47, x48, rfl, hF⟩ := hI
              have hd7 : d 7 = true := dep_of hdep 7 (by kernel_rfl)
              have hd6 : d 6 = true := dep_of hdep 6 (by kernel_rfl)
              have hd0 : d 0 = true := dep_of hdep 0 (by kernel_rfl)
              have hd1 : d 1 = true := dep_of hdep 1 (by kernel_rfl)
              have hd2 : d 2 = true := dep_of hdep 2 (by kernel_rfl)
              have hd3 : d 3 = true := dep_of hdep 3 (by kernel_rfl)
              have hd4 : d 4 = true := dep_of hdep 4 (by kernel_rfl)
              have hd5 : d 5 = true := dep_of hdep 5 (by kernel_rfl)
              obtain rfl := hF.out.f7 hd7
              obtain rfl := hF.out.f6 hd6
              obtain rfl := hF.out.f0 hd0
              obtain rfl := hF.out.f1 hd1
              obtain rfl := hF.out.f2 hd2
              obtain rfl := hF.out.f3 hd3
              obtain rfl := hF.out.f4 hd4
              obtain rfl := hF.out.f5 hd5
              have HD : Hid (∀ i, i < 8 → d i = true) := fun i hi => by
                have : i = 0 ∨ i = 1 ∨ i = 2 ∨ i = 3 ∨ i = 4 ∨ i = 5 ∨ i = 6 ∨ i = 7 := by omega
                rcases this with rfl | rfl | rfl | rfl | rfl | rfl | rfl | rfl <;> assumption
              have HB : Hid (Below wr.heap.size wr W) := hF.out.bl hd
              have HQ6 := hF.out.q6 hd6 hd
              have ya : W.cell? ⟨b1, k, none⟩ = some (.slice none 0 0) := (HB.out.cell (p := ⟨b1, k, none⟩) HB1.out.1).trans HB1.out.2.1
              have yb : W.frozen? ⟨b1, k, none⟩ = false := (HB.out.frozen (p := ⟨b1, k, none⟩) HB1.out.1).trans HB1.out.2.2
              clear hdep hd hd7 hd6 hd0 hd1 hd2 hd3 hd4 hd5
              intro K hK
              simp only [Act.put, List.setIfInBounds_toArray, List.set_cons_zero, List.set_cons_succ]
              go_simp
              refine hK.out _ _ ⟨rk, (.pointer (some ⟨tb, 0, none⟩)), (.slice (some ⟨b1, 0, none⟩) S S), (.int .i64 (k : Int)), (.pointer (some ⟨w.heap.size, 0, none⟩)), (.int .i64 (T : Int)), (.int .i64 ((T : Int) + 1)), (.slice (some ⟨rk, 0, none⟩) (T + 1) (T + 1)), (.pointer (some ⟨b1, k, none⟩)), by first | (simp only [Act.put, List.setIfInBounds_toArray, List.set_cons_zero, List.set_cons_succ]; done) | (simp only [Act.put, List.setIfInBounds_toArray, List.set_cons_zero, List.set_cons_succ]; rfl), ?_⟩
              exact ⟨fun h => hF.out.f0 (by simpa using h), fun h => hF.out.f1 (by simpa using h), fun h => hF.out.f2 (by simpa using h), fun h => hF.out.f3 (by simpa using h), fun h => hF.out.f4 (by simpa using h), fun h => hF.out.f5 (by simpa using h), fun h => hF.out.f6 (by simpa using h), fun h => hF.out.f7 (by simpa using h), fun _ => trivial, fun i hi _ => by have := HD.out i hi; simp [this], fun h => by simp at h, fun _ h => by simp at h, fun _ => ⟨W, HB.out, HQ6, rfl⟩⟩
          · intro d a W hI hall
            obtain ⟨rk, x41, x42, x43, x44, x45, x46, x47, x48, rfl, hF⟩ := hI
            simp only [List.length_cons, List.length_nil] at hall
            obtain rfl := hF.out.f0 (hall 0 (by omega))
            obtain rfl := hF.out.f1 (hall 1 (by omega))
            obtain rfl := hF.out.f2 (hall 2 (by omega))
            obtain rfl := hF.out.f3 (hall 3 (by omega))
            obtain rfl := hF.out.f4 (hall 4 (by omega))
            obtain rfl := hF.out.f5 (hall 5 (by omega))
            obtain rfl := hF.out.f6 (hall 6 (by omega))
            obtain rfl := hF.out.f7 (hall 7 (by omega))
            obtain ⟨V, v0, v1, rfl⟩ := hF.out.fin (hall 8 (by omega))
            have HLK1 : Hid (∃ rb, rb k = rk ∧ Lk w T n (.slice po ps.length pc) ps S ab tb b1 b2 (.slice (some ⟨sb, 0, none⟩) S sc) (.slice (some ⟨nb, 0, none⟩) S nc) vs ws ss nx (k + 1) rb (Aq (cdH T ps ss nx) k 0) k f2 (.slice vo vn vc) (ftN T ps ss nx k) (V.setCell ⟨b1, k, none⟩ (.slice (some ⟨rk, 0, none⟩) (T + 1) (T + 1)))) := by
              obtain ⟨rb, hl⟩ := HLK.out
              have h2 := (hl.next v0).row HPD.out HKS.out v1.1 (by have := HSZW.out; have := v1.2; omega) (fun i hi => by have := (hl.ri i hi).lt; have := v1.2; omega)
              refine ⟨_, upd_at _ _ _, h2.congr fun i j hi hj => ?_⟩
              unfold upd Aq
              by_cases e : i = k
              · subst e; rw [if_pos rfl, if_neg (by omega)]
              · rw [if_neg e]
            have HSZ2 : Hid (w.heap.size + 2 ≤ (V.setCell ⟨b1, k, none⟩ (.slice (some ⟨rk, 0, none⟩) (T + 1) (T + 1))).heap.size) := by
              have h1 := HSZW.out
              have h2 := v0.size
              show _ ≤ _
              simp [World.setCell]; omega
            clear hF hall v0 v1 HLK HT0 HGT HMK3 HB1
            simp only [Act.put, List.setIfInBounds_toArray, List.set_cons_zero, List.set_cons_succ]
            generalize V.setCell ⟨b1, k, none⟩ (.slice (some ⟨rk, 0, none⟩) (T + 1) (T + 1)) = w4 at HLK1 HSZ2 ⊢
            obtain ⟨rb, hrbk, hl1⟩ := HLK1.out
            have HRBK : Hid (rb k = rk) := hrbk
            clear hrbk
            have HL1 : Hid (_) := hl1
            have HG0 : Hid (w.heap.size < w4.heap.size ∧ w4.cell? ⟨w.heap.size, 0, none⟩ = some (.int .i64 (T : Int))) := ⟨hl1.gb.lt, hl1.gb.c0⟩
            have HG1 : Hid (w.heap.size < w4.heap.size ∧ w4.cell? ⟨w.heap.size, 1, none⟩ = some (.int .i64 (n : Int))) := ⟨hl1.gb.lt, hl1.gb.c1⟩
            have HG2 : Hid (w.heap.size < w4.heap.size ∧ w4.cell? ⟨w.heap.size, 2, none⟩ = some (.slice po ps.length pc)) := ⟨hl1.gb.lt, hl1.gb.c2⟩
            have HA0 : Hid (ab < w4.heap.size ∧ w4.cell? ⟨ab, 0, none⟩ = some (.slice (some ⟨sb, 0, none⟩) S sc)) := ⟨mheap_lt hl1.abx, by have := mcell_blk hl1.abx 0; simpa using this⟩
            obtain ⟨uv, hv1, hv2⟩ := hl1.si k _ HSSK.out
            obtain ⟨uo, un, uc, rfl⟩ := own_form hv2
            have hcb := hl1.sr.cells (g := sb) rfl k _ hv1
            rw [Addr.add_lit, Nat.zero_add] at hcb
            have HSB : Hid (sb < w4.heap.size ∧ w4.cell? ⟨sb, k, none⟩ = some (.slice uo un uc)) := ⟨(hl1.sr.lt sb rfl).2, hcb⟩
            obtain ⟨u2, hu1, hu2⟩ := hl1.ni k _ HNXK.out
            have HU2E : Hid (u2 = .slice (some ⟨rn, 0, none⟩) (T + n) rc) := by
              rw [HWSK.out] at hu1
              exact (Option.some.inj hu1).symm
            rw [HU2E.out] at hu2
            have HCL : Hid (∀ W, Below w4.heap.size w4 W → Calls Try.prog 46 #[.agg #[.int .i64 (T : Int), .int .i64 (n : Int), .slice po ps.length pc], .slice uo un uc, .slice (some ⟨rn, 0, none⟩) (T + n) rc] W fun e w' => ∃ ob fo, e = .returned (.slice (some ⟨ob, 0, none⟩) (T + 1) (T + 1)) ∧ Mz W T n (.slice po ps.length pc) ps ob fo (cnd T ps (nx.getD k []) (ss.getD k [])) w') := fun W hW => by
              have hs := HSS.out _ (List.mem_of_getElem? HSSK.out)
              exact mayBe_any T n (.slice po ps.length pc) ps _ (ss.getD k []) _ _ (nx.getD k []) W (HPD.out.below (hl1.gb.below.trans (hW.mono hl1.gb.below.size))) HK.out (its_of_own (own_below hv2 hW) (mown_le hv2)) (HOKS.out _ (List.mem_of_getElem? HSSK.out)) (by omega) (ints_of_own (own_below hu2 hW) (mown_le hu2)) HRL.out HRC.out
            clear HLK1 hl1 hv1 hv2 hcb hu1 hu2 HU2E
            go_upto_region 10 with fail
            refine wp_region_free mixed (fun a0 d a W => ∃ (ob : Nat) (fo : Nat → Value) (wc : World) (x49 x50 x51 x52 x53 x54 x55 x56 x57 x58 : Value), a = ((((((((((a0.put (some 49) x49).put (some 50) x50).put (some 51) x51).put (some 52) x52).put (some 53) x53).put (some 54) x54).put (some 55) x55).put (some 56) x56).put (some 57) x57).put (some 58) x58) ∧ Hid (RT10 w4 w.heap.size ab sb S T n k po ps.length pc ps sc uo un uc rn rc (nx.getD k []) (ss.getD k []) ob fo wc d x49 x50 x51 x52 x53 x54 x55 x56 x57 x58 W)) (by kernel_rfl) ⟨0, (fun (_ : Nat) => (undef : Value)), w4, u49, u50, u51, u52, u53, u54, u55, u56, u57, u58, by first | (simp only [Act.put, List.setIfInBounds_toArray, List.set_cons_zero, List.set_cons_succ]; done) | (simp only [Act.put, List.setIfInBounds_toArray, List.set_cons_zero, List.set_cons_succ]; rfl), ?_⟩ ?_ ?_
            · exact ⟨fun h => no_way h, fun h => no_way h, fun h => no_way h, fun h => no_way h, fun h => no_way h, fun h => no_way h, fun h => no_way h, fun h => no_way h, fun h => no_way h, fun h => no_way h, fun h => no_way h, (Below.refl _ _).drew, fun h => no_way h⟩
            · simp only [StepAll, and_true]
              refine ⟨?_, ?_, ?_, ?_, ?_, ?_, ?_, ?_, ?_, ?_⟩
              · intro d a W hI hd hdep
                obtain ⟨ob, fo, wc, x49, x50, x51, x52, x53, x54, x55, x56, x57, x58, rfl, hF⟩ := hI
                have hB : Below w4.heap.size w4 W := hF.out.bl
                have y0 : W.cell? ⟨w.heap.size, 0, none⟩ = some (.int .i64 (T : Int)) := (hB.cell (p := ⟨w.heap.size, 0, none⟩) HG0.out.1).trans HG0.out.2
                have y1 : W.cell? ⟨w.heap.size, 1, none⟩ = some (.int .i64 (n : Int)) := (hB.cell (p := ⟨w.heap.size, 1, none⟩) HG1.out.1).trans HG1.out.2
                have y2 : W.cell? ⟨w.heap.size, 2, none⟩ = some (.slice po ps.length pc) := (hB.cell (p := ⟨w.heap.size, 2, none⟩) HG2.out.1).trans HG2.out.2
                clear hdep hd
                intro K hK
                simp only [Act.put, List.setIfInBounds_toArray, List.set_cons_zero, List.set_cons_succ]
                go_simp
                refine hK.out _ _ ⟨ob, fo, wc, (.agg #[.int .i64 (T : Int), .int .i64 (n : Int), .slice po ps.length pc]), x50, x51, x52, x53, x54, x55, x56, x57, x58, by first | (simp only [Act.put, List.setIfInBounds_toArray, List.set_cons_zero, List.set_cons_succ]; done) | (simp only [Act.put, List.setIfInBounds_toArray, List.set_cons_zero, List.set_cons_succ]; rfl), ?_⟩
                exact ⟨fun _ => rfl, fun h => hF.out.f1 (by simpa using h), fun h => hF.out.f2 (by simpa using h), fun h => hF.out.f3 (by simpa using h), fun h => hF.out.f4 (by simpa using h), fun h => hF.out.f5 (by simpa using h), fun h => hF.out.f6 (by simpa using h), fun h => hF.out.f7 (by simpa using h), fun h => hF.out.f8 (by simpa using h), fun h => hF.out.f9 (by simpa using h), fun h => by have := hF.out.q87 (by simpa using h); simpa using this, hF.out.bl, fun h => hF.out.q7 (by simpa using h)⟩
              · intro d a W hI hd hdep
                obtain ⟨ob, fo, wc, x49, x50, x51, x52, x53, x54, x55, x56, x57, x58, rfl, hF⟩ := hI
                clear hdep hd
                intro K hK
                simp only [Act.put, List.setIfInBounds_toArray, List.set_cons_zero, List.set_cons_succ]
                go_simp
                refine hK.out _ _ ⟨ob, fo, wc, x49, (.pointer (some ⟨ab, 0, none⟩)), x51, x52, x53, x54, x55, x56, x57, x58, by first | (simp only [Act.put, List.setIfInBounds_toArray, List.set_cons_zero, List.set_cons_succ]; done) | (simp only [Act.put, List.setIfInBounds_toArray, List.set_cons_zero, List.set_cons_succ]; rfl), ?_⟩
                exact ⟨fun h => hF.out.f0 (by simpa using h), fun _ => rfl, fun h => hF.out.f2 (by simpa using h), fun h => hF.out.f3 (by simpa using h), fun h => hF.out.f4 (by simpa using h), fun h => hF.out.f5 (by simpa using h), fun h => hF.out.f6 (by simpa using h), fun h => hF.out.f7 (by simpa using h), fun h => hF.out.f8 (by simpa using h), fun h => hF.out.f9 (by simpa using h), fun h => by have := hF.out.q87 (by simpa using h); simpa using this, hF.out.bl, fun h => hF.out.q7 (by simpa using h)⟩
              · intro d a W hI hd hdep
                obtain ⟨ob, fo, wc, x49, x50, x51, x52, x53, x54, x55, x56, x57, x58, rfl, hF⟩ := hI
                have hd1 : d 1 = true := dep_of hdep 1 (by kernel_rfl)
                obtain rfl := hF.out.f1 hd1
                have hB : Below w4.heap.size w4 W := hF.out.bl
                have ya : W.cell? ⟨ab, 0, none⟩ = some (.slice (some ⟨sb, 0, none⟩) S sc) := (hB.cell (p := ⟨ab, 0, none⟩) HA0.out.1).trans HA0.out.2
                clear hdep hd hd1
                intro K hK
                simp only [Act.put, List.setIfInBounds_toArray, List.set_cons_zero, List.set_cons_succ]
                go_simp
                refine hK.out _ _ ⟨ob, fo, wc, x49, (.pointer (some ⟨ab, 0, none⟩)), (.slice (some ⟨sb, 0, none⟩) S sc), x52, x53, x54, x55, x56, x57, x58, by first | (simp only [Act.put, List.setIfInBounds_toArray, List.set_cons_zero, List.set_cons_succ]; done) | (simp only [Act.put, List.setIfInBounds_toArray, List.set_cons_zero, List.set_cons_succ]; rfl), ?_⟩
                exact ⟨fun h => hF.out.f0 (by simpa using h), fun h => hF.out.f1 (by simpa using h), fun _ => rfl, fun h => hF.out.f3 (by simpa using h), fun h => hF.out.f4 (by simpa using h), fun h => hF.out.f5 (by simpa using h), fun h => hF.out.f6 (by simpa using h), fun h => hF.out.f7 (by simpa using h), fun h => hF.out.f8 (by simpa using h), fun h => hF.out.f9 (by simpa using h), fun h => by have := hF.out.q87 (by simpa using h); simpa using this, hF.out.bl, fun h => hF.out.q7 (by simpa using h)⟩
              · intro d a W hI hd hdep
                obtain ⟨ob, fo, wc, x49, x50, x51, x52, x53, x54, x55, x56, x57, x58, rfl, hF⟩ := hI
                clear hdep hd
                intro K hK
                simp only [Act.put, List.setIfInBounds_toArray, List.set_cons_zero, List.set_cons_succ]
                go_simp
                refine hK.out _ _ ⟨ob, fo, wc, x49, x50, x51, (.int .i64 (k : Int)), x53, x54, x55, x56, x57, x58, by first | (simp only [Act.put, List.setIfInBounds_toArray, List.set_cons_zero, List.set_cons_succ]; done) | (simp only [Act.put, List.setIfInBounds_toArray, List.set_cons_zero, List.set_cons_succ]; rfl), ?_⟩
                exact ⟨fun h => hF.out.f0 (by simpa using h), fun h => hF.out.f1 (by simpa using h), fun h => hF.out.f2 (by simpa using h), fun _ => rfl, fun h => hF.out.f4 (by simpa using h), fun h => hF.out.f5 (by simpa using h), fun h => hF.out.f6 (by simpa using h), fun h => hF.out.f7 (by simpa using h), fun h => hF.out.f8 (by simpa using h), fun h => hF.out.f9 (by simpa using h), fun h => by have := hF.out.q87 (by simpa using h); simpa using this, hF.out.bl, fun h => hF.out.q7 (by simpa using h)⟩
              · intro d a W hI hd hdep
                obtain ⟨ob, fo, wc, x49, x50, x51, x52, x53, x54, x55, x56, x57, x58, rfl, hF⟩ := hI
                have hd2 : d 2 = true := dep_of hdep 2 (by kernel_rfl)
                have hd3 : d 3 = true := dep_of hdep 3 (by kernel_rfl)
                obtain rfl := hF.out.f2 hd2
                obtain rfl := hF.out.f3 hd3
                have hi0 : (0 : Int) ≤ (k : Int) := by omega
                have hi1 : (k : Int) < (S : Int) := by have := HKS.out; omega
                clear hdep hd hd2 hd3
                intro K hK
                simp only [Act.put, List.setIfInBounds_toArray, List.set_cons_zero, List.set_cons_succ]
                go_simp
                refine hK.out _ _ ⟨ob, fo, wc, x49, x50, (.slice (some ⟨sb, 0, none⟩) S sc), (.int .i64 (k : Int)), (.pointer (some ⟨sb, k, none⟩)), x54, x55, x56, x57, x58, by first | (simp only [Act.put, List.setIfInBounds_toArray, List.set_cons_zero, List.set_cons_succ]; done) | (simp only [Act.put, List.setIfInBounds_toArray, List.set_cons_zero, List.set_cons_succ]; rfl), ?_⟩
                exact ⟨fun h => hF.out.f0 (by simpa using h), fun h => hF.out.f1 (by simpa using h), fun h => hF.out.f2 (by simpa using h), fun h => hF.out.f3 (by simpa using h), fun _ => rfl, fun h => hF.out.f5 (by simpa using h), fun h => hF.out.f6 (by simpa using h), fun h => hF.out.f7 (by simpa using h), fun h => hF.out.f8 (by simpa using h), fun h => hF.out.f9 (by simpa using h), fun h => by have := hF.out.q87 (by simpa using h); simpa using this, hF.out.bl, fun h => hF.out.q7 (by simpa using h)⟩
              · intro d a W hI hd hdep
                obtain ⟨ob, fo, wc, x49, x50, x51, x52, x53, x54, x55, x56, x57, x58, rfl, hF⟩ := hI
                have hd4 : d 4 = true := dep_of hdep 4 (by kernel_rfl)
                obtain rfl := hF.out.f4 hd4
                have hB : Below w4.heap.size w4 W := hF.out.bl
                have ya : W.cell? ⟨sb, k, none⟩ = some (.slice uo un uc) := (hB.cell (p := ⟨sb, k, none⟩) HSB.out.1).trans HSB.out.2
                clear hdep hd hd4
                intro K hK
                simp only [Act.put, List.setIfInBounds_toArray, List.set_cons_zero, List.set_cons_succ]
                go_simp
                refine hK.out _ _ ⟨ob, fo, wc, x49, x50, x51, x52, (.pointer (some ⟨sb, k, none⟩)), (.slice uo un uc), x55, x56, x57, x58, by first | (simp only [Act.put, List.setIfInBounds_toArray, List.set_cons_zero, List.set_cons_succ]; done) | (simp only [Act.put, List.setIfInBounds_toArray, List.set_cons_zero, List.set_cons_succ]; rfl), ?_⟩
                exact ⟨fun h => hF.out.f0 (by simpa using h), fun h => hF.out.f1 (by simpa using h), fun h => hF.out.f2 (by simpa using h), fun h => hF.out.f3 (by simpa using h), fun h => hF.out.f4 (by simpa using h), fun _ => rfl, fun h => hF.out.f6 (by simpa using h), fun h => hF.out.f7 (by simpa using h), fun h => hF.out.f8 (by simpa using h), fun h => hF.out.f9 (by simpa using h), fun h => by have := hF.out.q87 (by simpa using h); simpa using this, hF.out.bl, fun h => hF.out.q7 (by simpa using h)⟩
              · intro d a W hI hd hdep
                obtain ⟨ob, fo, wc, x49, x50, x51, x52, x53, x54, x55, x56, x57, x58, rfl, hF⟩ := hI
                clear hdep hd
                intro K hK
                simp only [Act.put, List.setIfInBounds_toArray, List.set_cons_zero, List.set_cons_succ]
                go_simp
                refine hK.out _ _ ⟨ob, fo, wc, x49, x50, x51, x52, x53, x54, (.slice (some ⟨rn, 0, none⟩) (T + n) rc), x56, x57, x58, by first | (simp only [Act.put, List.setIfInBounds_toArray, List.set_cons_zero, List.set_cons_succ]; done) | (simp only [Act.put, List.setIfInBounds_toArray, List.set_cons_zero, List.set_cons_succ]; rfl), ?_⟩
                exact ⟨fun h => hF.out.f0 (by simpa using h), fun h => hF.out.f1 (by simpa using h), fun h => hF.out.f2 (by simpa using h), fun h => hF.out.f3 (by simpa using h), fun h => hF.out.f4 (by simpa using h), fun h => hF.out.f5 (by simpa using h), fun _ => rfl, fun h => hF.out.f7 (by simpa using h), fun h => hF.out.f8 (by simpa using h), fun h => hF.out.f9 (by simpa using h), fun h => by have := hF.out.q87 (by simpa using h); simpa using this, hF.out.bl, fun h => hF.out.q7 (by simpa using h)⟩
              · intro d a W hI hd hdep
                obtain ⟨ob, fo, wc, x49, x50, x51, x52, x53, x54, x55, x56, x57, x58, rfl, hF⟩ := hI
                have hd0 : d 0 = true := dep_of hdep 0 (by kernel_rfl)
                have hd5 : d 5 = true := dep_of hdep 5 (by kernel_rfl)
                have hd6 : d 6 = true := dep_of hdep 6 (by kernel_rfl)
                obtain rfl := hF.out.f0 hd0
                obtain rfl := hF.out.f5 hd5
                obtain rfl := hF.out.f6 hd6
                have hB : Below w4.heap.size w4 W := hF.out.bl
                have hcall := HCL.out W hB
                have HN8 : Hid (d 8 = false) := no_later hF.out.q87 hd
                clear hdep hd hd0 hd5 hd6
                intro K hK
                simp only [Act.put, List.setIfInBounds_toArray, List.set_cons_zero, List.set_cons_succ]
                go_simp
                refine hcall.mono ?_
                rintro _ W2 ⟨ob9, fo9, rfl, hmz9⟩
                have hb9 : Below W.heap.size W W2 := hmz9.gb.below
                clear hcall
                go_simp
                refine hK.out _ _ ⟨ob9, fo9, W, (.agg #[.int .i64 (T : Int), .int .i64 (n : Int), .slice po ps.length pc]), x50, x51, x52, x53, (.slice uo un uc), (.slice (some ⟨rn, 0, none⟩) (T + n) rc), (.slice (some ⟨ob9, 0, none⟩) (T + 1) (T + 1)), x57, x58, by first | (simp only [Act.put, List.setIfInBounds_toArray, List.set_cons_zero, List.set_cons_succ]; done) | (simp only [Act.put, List.setIfInBounds_toArray, List.set_cons_zero, List.set_cons_succ]; rfl), ?_⟩
                exact ⟨fun h => hF.out.f0 (by simpa using h), fun h => hF.out.f1 (by simpa using h), fun h => hF.out.f2 (by simpa using h), fun h => hF.out.f3 (by simpa using h), fun h => hF.out.f4 (by simpa using h), fun h => hF.out.f5 (by simpa using h), fun h => hF.out.f6 (by simpa using h), fun _ => rfl, fun h => by have := HN8.out; simp [this] at h, fun h => hF.out.f9 (by simpa using h), fun _ => by simp, hB.trans ((hb9).mono hB.size), fun _ => ⟨hmz9, hB.size⟩⟩
              · intro d a W hI hd hdep
                obtain ⟨ob, fo, wc, x49, x50, x51, x52, x53, x54, x55, x56, x57, x58, rfl, hF⟩ := hI
                have hd7 : d 7 = true := dep_of hdep 7 (by kernel_rfl)
                obtain rfl := hF.out.f7 hd7
                have q87x := hd7
                have ec : (((T + 1 : Nat)) : Int) = (T : Int) + 1 := by omega
                clear hdep hd hd7
                intro K hK
                simp only [Act.put, List.setIfInBounds_toArray, List.set_cons_zero, List.set_cons_succ]
                go_simp
                first | rw [ec] | skip
                refine hK.out _ _ ⟨ob, fo, wc, x49, x50, x51, x52, x53, x54, x55, (.slice (some ⟨ob, 0, none⟩) (T + 1) (T + 1)), (.int .i64 ((T : Int) + 1)), x58, by first | (simp only [Act.put, List.setIfInBounds_toArray, List.set_cons_zero, List.set_cons_succ]; done) | (simp only [Act.put, List.setIfInBounds_toArray, List.set_cons_zero, List.set_cons_succ]; rfl), ?_⟩
                exact ⟨fun h => hF.out.f0 (by simpa using h), fun h => hF.out.f1 (by simpa using h), fun h => hF.out.f2 (by simpa using h), fun h => hF.out.f3 (by simpa using h), fun h => hF.out.f4 (by simpa using h), fun h => hF.out.f5 (by simpa using h), fun h => hF.out.f6 (by simpa using h), fun h => hF.out.f7 (by simpa using h), fun _ => rfl, fun h => hF.out.f9 (by simpa using h), fun _ => by simpa using q87x, hF.out.bl, fun h => hF.out.q7 (by simpa using h)⟩
              · intro d a W hI hd hdep
                obtain ⟨ob, fo, wc, x49, x50, x51, x52, x53, x54, x55, x56, x57, x58, rfl, hF⟩ := hI
                clear hdep hd
                intro K hK
                simp only [Act.put, List.setIfInBounds_toArray, List.set_cons_zero, List.set_cons_succ]
                go_simp
                refine hK.out _ _ ⟨ob, fo, wc, x49, x50, x51, x52, x53, x54, x55, x56, x57, (.int .i64 0), by first | (simp only [Act.put, List.setIfInBounds_toArray, List.set_cons_zero, List.set_cons_succ]; done) | (simp only [Act.put, List.setIfInBounds_toArray, List.set_cons_zero, List.set_cons_succ]; rfl), ?_⟩
                exact ⟨fun h => hF.out.f0 (by simpa using h), fun h => hF.out.f1 (by simpa using h), fun h => hF.out.f2 (by simpa using h), fun h => hF.out.f3 (by simpa using h), fun h => hF.out.f4 (by simpa using h), fun h => hF.out.f5 (by simpa using h), fun h => hF.out.f6 (by simpa using h), fun h => hF.out.f7 (by simpa using h), fun h => hF.out.f8 (by simpa using h), fun _ => rfl, fun h => by have := hF.out.q87 (by simpa using h); simpa using this, hF.out.bl, fun h => hF.out.q7 (by simpa using h)⟩
            · intro d a W hI hall
              obtain ⟨ob, fo, wc, x49, x50, x51, x52, x53, x54, x55, x56, x57, x58, rfl, hF⟩ := hI
              simp only [List.length_cons, List.length_nil] at hall
              obtain rfl := hF.out.f0 (hall 0 (by omega))
              obtain rfl := hF.out.f1 (hall 1 (by omega))
              obtain rfl := hF.out.f2 (hall 2 (by omega))
              obtain rfl := hF.out.f3 (hall 3 (by omega))
              obtain rfl := hF.out.f4 (hall 4 (by omega))
              obtain rfl := hF.out.f5 (hall 5 (by omega))
              obtain rfl := hF.out.f6 (hall 6 (by omega))
              obtain rfl := hF.out.f7 (hall 7 (by omega))
              obtain rfl := hF.out.f8 (hall 8 (by omega))
              obtain rfl := hF.out.f9 (hall 9 (by omega))
              have hq := hF.out.q7 (hall 7 (by omega))
              have HCR : Hid (Cr (wc.heap.size + 1) T ob fo (cd T ps ss nx k) W ∧ w4.heap.size ≤ wc.heap.size) := ⟨⟨hq.1.ge, hq.1.o, hq.1.r⟩, hq.2⟩
              have HLK2 : Hid (_) := HL1.out.next hF.out.bl
              clear hF hall hq HG0 HG1 HG2 HA0 HSB HCL
              simp only [Act.put, List.setIfInBounds_toArray, List.set_cons_zero, List.set_cons_succ]
              generalize W = w5 at HCR HLK2 ⊢
              obtain ⟨B5, HB5E⟩ : ∃ z, Hid (wc.heap.size = z) := ⟨_, (rfl : wc.heap.size = _)⟩
              rw [HB5E.out] at HCR
              have HRKB : Hid (rb k < B5 + 1) := by
                have h1 := (HL1.out.ri k (by omega)).lt
                have h2 := HCR.out.2
                show _ < _; omega
              clear HB5E HL1
              go_upto_region 11 with fail
              go_loopw [8, 58] (fun cs y wr => ∃ (c : Nat) (vo : Option Addr) (vn vc : Nat), c ≤ T + 1 ∧ cs = .slice vo vn vc ∧ y = .int .i64 (c : Int) ∧ Hid (Lk w T n (.slice po ps.length pc) ps S ab tb b1 b2 (.slice (some ⟨sb, 0, none⟩) S sc) (.slice (some ⟨nb, 0, none⟩) S nc) vs ws ss nx (k + 1) rb (Aq (cdH T ps ss nx) k c) k f2 (.slice vo vn vc) (ftN T ps ss nx k ++ ftR T ps ss nx k c) wr ∧ Cr (B5 + 1) T ob fo (cd T ps ss nx k) wr)) (fun _ y _ => T + 1 - (intOf y).toNat)
              case atStart => exact ⟨0, vo, vn, vc, by omega, rfl, rfl, by rw [show ftN T ps ss nx k ++ ftR T ps ss nx k 0 = ftN T ps ss nx k by simp [ftR]]; exact HLK2.out, HCR.out.1⟩
              case round =>
                clear HLK2 HCR
                obtain ⟨c, va, vn, vc, hc, rfl, rfl, HI⟩ := hrel
                have hT30 : T ≤ 30 := HTN.out.1
                by_cases hcl : c < T + 1
                · have hk1 : (c : Int) < (T : Int) + 1 := by omega
                  have hk0 : (0 : Int) ≤ (c : Int) := by omega
                  have HCT : Hid (c < T + 1) := hcl
                  obtain ⟨ca, cm, cc, hfc⟩ := own_form (HI.out.2.r c hcl)
                  obtain ⟨L, HLE⟩ : ∃ L, Hid (cd T ps ss nx k c = L) := ⟨_, (rfl : cd T ps ss nx k c = _)⟩
                  have hrc := HI.out.2.r c hcl
                  rw [hfc] at hrc
                  obtain rfl : cm = (cd T ps ss nx k c).length := by
                    rcases hrc.2 with ⟨h1, h2⟩ | ⟨q, cap, cur, hv, -⟩
                    · cases h1; exact h2.symm
                    · cases hv; rfl
                  have y1 := HI.out.2.o.cell hcl
                  rw [hfc] at y1
                  rw [HLE.out] at y1 hrc
                  cases L with
                  | nil =>
                    have HNX : Hid (Lk w T n (.slice po ps.length pc) ps S ab tb b1 b2 (.slice (some ⟨sb, 0, none⟩) S sc) (.slice (some ⟨nb, 0, none⟩) S nc) vs ws ss nx (k + 1) rb (Aq (cdH T ps ss nx) k (c + 1)) k f2 (.slice va vn vc) (ftN T ps ss nx k ++ ftR T ps ss nx k (c + 1)) wr ∧ Cr (B5 + 1) T ob fo (cd T ps ss nx k) wr) := by
                      refine ⟨?_, HI.out.2⟩
                      have e1 : ftR T ps ss nx k (c + 1) = ftR T ps ss nx k c := by simp [ftR, ftC, HLE.out]
                      rw [e1]
                      refine HI.out.1.congr fun i j hi hj => ?_
                      unfold Aq
                      by_cases e : i = k ∧ j = c
                      · rw [if_neg (by omega), if_pos (by omega), e.1, e.2]; simp [cdH, HLE.out]
                      · by_cases e2 : i < k ∨ (i = k ∧ j < c)
                        · rw [if_pos e2, if_pos (by omega)]
                        · rw [if_neg e2, if_neg (by omega)]
                    simp only [List.length_nil] at y1
                    clear HI hrc hfc
                    go_wp2_with fail
                    go_roundw
                    case rel => exact ⟨c + 1, va, vn, vc, by have := HCT.out; omega, rfl, by go_num, HNX.out.1, HNX.out.2⟩
                    case measure => have := HCT.out; simp [intOf]; omega
                  | cons h tl =>
                    obtain ⟨h0, h1⟩ := h
                    obtain ⟨cb, ccap, hce⟩ := Go.Joins.ownsRow_form hrc (by simp)
                    obtain rfl : ca = some ⟨cb, 0, none⟩ := by cases hce; rfl
                    have hcc0 : tl.length + 1 ≤ cc := by
                      rcases hrc.2 with ⟨h1, _⟩ | ⟨q, cap, cur, hv, _, _, h5, _⟩
                      · cases h1
                      · cases hv; simpa using h5
                    have HCC : Hid (tl.length + 1 ≤ cc) := hcc0
                    clear hcc0
                    have HFC : Hid (fo c = .slice (some ⟨cb, 0, none⟩) (cd T ps ss nx k c).length cc) := hfc
                    have HCDH : Hid (cdH T ps ss nx k c = (h0, h1)) := by show _ = _; simp [cdH, HLE.out]
                    have hc0 : 0 < (cd T ps ss nx k c).length := by rw [HLE.out]; simp
                    obtain ⟨x0, x1⟩ := cr_at HI.out.2 hcl hfc hc0
                    have he0 : (cd T ps ss nx k c)[0] = (h0, h1) := by simp [HLE.out]
                    rw [he0] at x0 x1
                    simp only [Nat.zero_mul, Nat.zero_add] at x0 x1
                    simp only [List.length_cons] at y1
                    have hb : (((tl.length + 1 : Nat) : Int) == 0) = false := by
                      simp only [beq_eq_false_iff_ne, ne_eq]; omega
                    have hb2 : ((tl.length : Int) + 1 == 0) = false := by
                      simp only [beq_eq_false_iff_ne, ne_eq]; omega
                    have hp0 : (0 : Int) < (tl.length : Int) + 1 := by omega
                    have hlt1 := (hrc.lt cb rfl).2
                    have t0 := mcell_blk HI.out.1.tbx 0
                    simp only [List.getElem?_toArray, List.getElem?_cons_zero] at t0
                    have tlt := mheap_lt HI.out.1.tbx
                    have r0 := HI.out.1.r1.cell HKS.out
                    rw [if_pos (by omega)] at r0
                    have rlt := HI.out.1.r1.lt
                    have HRI := HI.out.1.ri k (by omega)
                    have q0 : ∀ p : Kp (Sb wr), p.W.cell? ⟨tb, 0, none⟩ = some (.slice (some ⟨b1, 0, none⟩) S S) := fun p => (Below.cell (w := wr) p.h (p := ⟨tb, 0, none⟩) tlt).trans t0
                    have q1 : ∀ p : Kp (Sb wr), p.W.cell? ⟨b1, k, none⟩ = some (.slice (some ⟨rb k, 0, none⟩) (T + 1) (T + 1)) := fun p => (Below.cell (w := wr) p.h (p := ⟨b1, k, none⟩) rlt).trans r0
                    have q2 : ∀ p : Kp (Sb wr), p.W.cell? ⟨cb, 0, none⟩ = some (.int .i64 h0) := fun p => (Below.cell (w := wr) p.h (p := ⟨cb, 0, none⟩) hlt1).trans x0
                    have q3 : ∀ p : Kp (Sb wr), p.W.cell? ⟨cb, 1, none⟩ = some (.int .i64 h1) := fun p => (Below.cell (w := wr) p.h (p := ⟨cb, 1, none⟩) hlt1).trans x1
                    have hne : Nonempty (Kp (Sb wr)) := ⟨⟨_, Sb.drew wr⟩⟩
                    have hks0 : (0 : Int) ≤ (k : Int) := by omega
                    have hks1 : (k : Int) < (S : Int) := by have := HKS.out; omega
                    have HI2 : Hid (∀ p : Kp (Sb wr), Lk w T n (.slice po ps.length pc) ps S ab tb b1 b2 (.slice (some ⟨sb, 0, none⟩) S sc) (.slice (some ⟨nb, 0, none⟩) S nc) vs ws ss nx (k + 1) rb (Aq (cdH T ps ss nx) k c) k f2 (.slice va vn vc) (ftN T ps ss nx k ++ ftR T ps ss nx k c) p.W ∧ Cr (B5 + 1) T ob fo (cd T ps ss nx k) p.W) := fun p => ⟨HI.out.1.next p.h, HI.out.2.next p.h⟩
                    clear HI hrc hfc hce hc0 he0 t0 r0 HRI x0 x1 tlt rlt hlt1
                    go_upto_region 14 with fail
                    clear y1 hb hb2
                    refine wp_region_tail [_, _, _, _, _, _, _, _, _, _] _ rfl mixed (by kernel_rfl) (Sb.drew wr) ?_
                    simp only [List.cons_append, List.nil_append]
                    repeat (go_big_quiet_step (fail))
                    refine wpQuiet_nil ?_
                    intro p
                    have HI3 : Hid (_) := HI2.out p
                    generalize p.W = w6 at HI3 ⊢
                    clear p q0 q1 q2 q3 hne HI2
                    have ri := HI3.out.1.ri k (by omega)
                    have i0 := ri.cell (i := c * 2) (by omega)
                    have i1' := ri.cell (i := c * 2 + 1) (by omega)
                    have f0 := World.rowIs.frozen ri (c * 2)
                    have f1 := World.rowIs.frozen ri (c * 2 + 1)
                    have hput := (HI3.out.1.put HPD.out c (h0, h1)).congr (A' := Aq (cdH T ps ss nx) k (c + 1)) fun i j hi hj => by
                      unfold upd Aq
                      by_cases e : i = k
                      · subst e
                        rw [if_pos rfl]
                        by_cases e2 : j = c
                        · subst e2; rw [if_pos rfl, if_pos (by omega), HCDH.out]
                        · rw [if_neg e2]
                          by_cases e3 : j < c
                          · rw [if_pos (by omega), if_pos (by omega)]
                          · rw [if_neg (by omega), if_neg (by omega)]
                      · rw [if_neg e]
                        by_cases e3 : i < k
                        · rw [if_pos (by omega), if_pos (by omega)]
                        · rw [if_neg (by omega), if_neg (by omega)]
                    have HL7 : Hid (Lk w T n (.slice po ps.length pc) ps S ab tb b1 b2 (.slice (some ⟨sb, 0, none⟩) S sc) (.slice (some ⟨nb, 0, none⟩) S nc) vs ws ss nx (k + 1) rb (Aq (cdH T ps ss nx) k (c + 1)) k f2 (.slice va vn vc) (ftN T ps ss nx k ++ ftR T ps ss nx k c) ((w6.setCell ⟨rb k, c * 2, none⟩ (.int .i64 h0)).setCell ⟨rb k, c * 2 + 1, none⟩ (.int .i64 h1)) ∧ Cr (B5 + 1) T ob fo (cd T ps ss nx k) ((w6.setCell ⟨rb k, c * 2, none⟩ (.int .i64 h0)).setCell ⟨rb k, c * 2 + 1, none⟩ (.int .i64 h1))) := ⟨hput, (HI3.out.2.set HRKB.out _).set HRKB.out _⟩
                    clear hput ri HI3
                    go_simp
                    generalize (w6.setCell ⟨rb k, c * 2, none⟩ (.int .i64 h0)).setCell ⟨rb k, c * 2 + 1, none⟩ (.int .i64 h1) = w7 at HL7 ⊢
                    clear i0 i1' f0 f1
                    by_cases hcc : cc = 1
                    · have htl : tl = [] := List.length_eq_zero_iff.1 (by have := HCC.out; omega)
                      subst htl
                      subst hcc
                      have HL9 : Hid (Lk w T n (.slice po ps.length pc) ps S ab tb b1 b2 (.slice (some ⟨sb, 0, none⟩) S sc) (.slice (some ⟨nb, 0, none⟩) S nc) vs ws ss nx (k + 1) rb (Aq (cdH T ps ss nx) k (c + 1)) k f2 (.slice va vn vc) (ftN T ps ss nx k ++ ftR T ps ss nx k (c + 1)) w7 ∧ Cr (B5 + 1) T ob fo (cd T ps ss nx k) w7) := by
                        have e1 : ftR T ps ss nx k (c + 1) = ftR T ps ss nx k c := by simp [ftR, ftC, HLE.out]
                        rw [e1]; exact HL7.out
                      clear HL7
                      simp only [List.length_nil, Nat.zero_add]
                      go_upto_region 16 with fail
                      go_loopw [8, 79] (fun cs y wr => cs = .slice va vn vc ∧ y = .int .i64 0 ∧ Hid (Lk w T n (.slice po ps.length pc) ps S ab tb b1 b2 (.slice (some ⟨sb, 0, none⟩) S sc) (.slice (some ⟨nb, 0, none⟩) S nc) vs ws ss nx (k + 1) rb (Aq (cdH T ps ss nx) k (c + 1)) k f2 (.slice va vn vc) (ftN T ps ss nx k ++ ftR T ps ss nx k (c + 1)) wr ∧ Cr (B5 + 1) T ob fo (cd T ps ss nx k) wr)) (fun _ _ _ => 0)
                      case atStart => exact ⟨rfl, rfl, HL9.out⟩
                      case round =>
                        obtain ⟨rfl, rfl, HI⟩ := hrel
                        clear HL9
                        go_wp2_with fail
                        go_roundw
                        case rel => exact ⟨c + 1, va, vn, vc, by have := HCT.out; omega, rfl, by go_num, HI.out.1, HI.out.2⟩
                        case measure => have := HCT.out; simp [intOf]; omega
                    · have hs0 : (1 : Int) ≤ (tl.length : Int) + 1 := by omega
                      have hs1 : (tl.length : Int) + 1 ≤ (cc : Int) := by have := HCC.out; omega
                      have hs2 : ¬ (cc : Int) = 1 := by omega
                      go_upto_region 16 with fail
                      clear hs0 hs1 hs2
                      go_loopw [8, 79] (fun cs y wr => ∃ (j : Nat) (vo : Option Addr) (vn vc : Nat), j ≤ tl.length ∧ cs = .slice vo vn vc ∧ y = .int .i64 (j : Int) ∧ Hid (Lk w T n (.slice po ps.length pc) ps S ab tb b1 b2 (.slice (some ⟨sb, 0, none⟩) S sc) (.slice (some ⟨nb, 0, none⟩) S nc) vs ws ss nx (k + 1) rb (Aq (cdH T ps ss nx) k (c + 1)) k f2 (.slice vo vn vc) (ftF T ps ss nx k c j) wr ∧ Cr (B5 + 1) T ob fo (cd T ps ss nx k) wr)) (fun _ y _ => tl.length - (intOf y).toNat)
                      case atStart => exact ⟨0, va, vn, vc, by omega, rfl, rfl, by rw [ftF_zero]; exact HL7.out.1, HL7.out.2⟩
                      case round =>
                        clear HL7
                        obtain ⟨j, va, vn, vc, hj, rfl, rfl, HI⟩ := hrel
                        have hfew : tl.length ≤ 11440 := by
                          have h1 := cd_le (T := T) (ps := ps) (nx := nx) HSS.out k c
                          rw [HLE.out] at h1
                          simp at h1
                          omega
                        by_cases hjl : j < tl.length
                        · have hj0 : (0 : Int) ≤ (j : Int) := by omega
                          have hj1 : (j : Int) < (tl.length : Int) := by omega
                          have hcl : j + 1 < (cd T ps ss nx k c).length := by rw [HLE.out]; simp; omega
                          obtain ⟨x0, x1⟩ := cr_at HI.out.2 HCT.out HFC.out hcl
                          have HNF : Hid (ftF T ps ss nx k c (j + 1) = ftF T ps ss nx k c j ++ [((k : Int), (c : Int), (h0, h1), (cd T ps ss nx k c)[j + 1])]) := by
                            show _ = _
                            have hjt : j < (cd T ps ss nx k c).tail.length := by rw [HLE.out]; exact hjl
                            rw [ftF_next T ps ss nx k c j hjt, HCDH.out]
                            congr 4
                            simp
                          rw [show (j + 1) * 2 = 2 + j * 2 by omega] at x0 x1
                          obtain ⟨z0, z1, HZE⟩ : ∃ z0 z1, Hid ((cd T ps ss nx k c)[j + 1] = (z0, z1)) := ⟨_, _, (rfl : (cd T ps ss nx k c)[j + 1] = (((cd T ps ss nx k c)[j + 1]).1, ((cd T ps ss nx k c)[j + 1]).2))⟩
                          rw [HZE.out] at x0 x1 HNF
                          simp only at x0 x1
                          have hz8 := below_alloc wr (Obj.cells #[.int .i64 z0, .int .i64 z1] 104)
                          have HL8a : Hid (Lk w T n (.slice po ps.length pc) ps S ab tb b1 b2 (.slice (some ⟨sb, 0, none⟩) S sc) (.slice (some ⟨nb, 0, none⟩) S nc) vs ws ss nx (k + 1) rb (Aq (cdH T ps ss nx) k (c + 1)) k f2 (.slice va vn vc) (ftF T ps ss nx k c j) (wr.alloc (Obj.cells #[.int .i64 z0, .int .i64 z1] 104)) ∧ Cr (B5 + 1) T ob fo (cd T ps ss nx k) (wr.alloc (Obj.cells #[.int .i64 z0, .int .i64 z1] 104))) := ⟨HI.out.1.next hz8, HI.out.2.next hz8⟩
                          have HZB : Hid ((wr.alloc (Obj.cells #[.int .i64 z0, .int .i64 z1] 104)).heap[wr.heap.size]? = some (.cells #[.int .i64 z0, .int .i64 z1] 104)) := heap_alloc_new _ _
                          clear HZE HI hz8 hcl
                          go_upto_region 18 with fail
                          obtain ⟨zb, HZBE⟩ : ∃ z, Hid (wr.heap.size = z) := ⟨_, (rfl : wr.heap.size = _)⟩
                          obtain ⟨w8, HW8⟩ : ∃ z, Hid (wr.alloc (Obj.cells #[.int .i64 z0, .int .i64 z1] 104) = z) := ⟨_, (rfl : wr.alloc _ = _)⟩
                          rw [HW8.out] at HL8a HZB ⊢
                          rw [HZBE.out] at HZB ⊢
                          clear HW8 HZBE x0 x1
                          obtain ⟨FL, HFLE⟩ : ∃ FL, Hid (ftF T ps ss nx k c j = FL) := ⟨_, (rfl : ftF T ps ss nx k c j = _)⟩
                          have HBND0 : Hid ((ftF T ps ss nx k c j).length ≤ 100000000) := ftF_le HTN.out.1 HSS.out (by have := HS2.out.1; have := HKS.out; omega) (by have := HCT.out; have := HTN.out.1; omega) j
                          rw [HFLE.out] at HL8a HNF HBND0
                          have HFN : Hid (_) := HNF.out
                          have HL8 : Hid (_) := HL8a.out
                          have hfo := HL8.out.1.fl
                          obtain rfl : vn = FL.length := by
                            rcases hfo.2 with ⟨h1, h2⟩ | ⟨q, cap, cur, hv, -⟩
                            · cases h1; exact h2.symm
                            · cases hv; rfl
                          obtain ⟨vn, HVNE⟩ : ∃ q, Hid (FL.length = q) := ⟨_, (rfl : FL.length = _)⟩
                          have HVN : Hid (FL.length = vn) := HVNE.out
                          rw [HVN.out] at hfo HBND0
                          rw [HVN.out] at HL8 ⊢
                          have HOWN : Hid (w8.ownsRow (w.heap.size + 2) 106 6 (.slice va vn vc) vn (fcl FL)) := hfo
                          have HBOUND : Hid (vn ≤ 100000000) := HBND0.out
                          have HBW : Hid (w.heap.size + 2 ≤ w8.heap.size) := by have := mheap_lt HL8.out.1.rc; show _ ≤ _; omega
                          have hc0 : 0 < (cd T ps ss nx k c).length := by rw [HLE.out]; simp
                          obtain ⟨y0, y1⟩ := cr_at HL8.out.2 HCT.out HFC.out hc0
                          have he0 : (cd T ps ss nx k c)[0] = (h0, h1) := by simp [HLE.out]
                          rw [he0] at y0 y1
                          simp only [Nat.zero_mul, Nat.zero_add] at y0 y1
                          have hcbl : cb < w8.heap.size ∧ some cb ≠ (Value.slice va vn vc).ownBlock := by
                            have hr := HL8.out.2.r c HCT.out
                            rw [HFC.out] at hr
                            exact ⟨(hr.lt cb rfl).2, fun e => mown_ne hr hfo (by decide) rfl e.symm⟩
                          have hzbl : zb < w8.heap.size ∧ some zb ≠ (Value.slice va vn vc).ownBlock := ⟨mheap_lt HZB.out, fun e => mown_box hfo HZB.out (by decide) e.symm⟩
                          have zz0 := mcell_blk HZB.out 0
                          have zz1 := mcell_blk HZB.out 1
                          simp only [List.getElem?_toArray, List.getElem?_cons_zero, List.getElem?_cons_succ] at zz0 zz1
                          have HC0 : Hid (cb < w8.heap.size ∧ some cb ≠ (Value.slice va vn vc).ownBlock ∧ w8.cell? ⟨cb, 0, none⟩ = some (.int .i64 h0)) := ⟨hcbl.1, hcbl.2, y0⟩
                          have HC1 : Hid (cb < w8.heap.size ∧ some cb ≠ (Value.slice va vn vc).ownBlock ∧ w8.cell? ⟨cb, 1, none⟩ = some (.int .i64 h1)) := ⟨hcbl.1, hcbl.2, y1⟩
                          have HZ0 : Hid (zb < w8.heap.size ∧ some zb ≠ (Value.slice va vn vc).ownBlock ∧ w8.cell? ⟨zb, 0, none⟩ = some (.int .i64 z0)) := ⟨hzbl.1, hzbl.2, zz0⟩
                          have HZ1 : Hid (zb < w8.heap.size ∧ some zb ≠ (Value.slice va vn vc).ownBlock ∧ w8.cell? ⟨zb, 1, none⟩ = some (.int .i64 z1)) := ⟨hzbl.1, hzbl.2, zz1⟩
                          have HCM : Hid (0 < tl.length + 1) := by show _ < _; omega
                          clear HL8a hfo HVNE HBND0 hc0 y0 y1 he0 hcbl hzbl zz0 zz1 HNF hj0 hj1
                          refine wp_region_free mixed (fun a0 d a W => ∃ (gb2 : Nat) (gr : Nat) (cr : Nat) (x8 x83 x84 x85 x86 x87 x88 x89 x90 x91 x92 : Value), a = (((((((((((a0.put (some 8) x8).put (some 83) x83).put (some 84) x84).put (some 85) x85).put (some 86) x86).put (some 87) x87).put (some 88) x88).put (some 89) x89).put (some 90) x90).put (some 91) x91).put (some 92) x92) ∧ Hid (RT18 w8 (w.heap.size + 2) k c cb (tl.length + 1) cc zb h0 h1 z0 z1 va vn vc (fcl FL) gb2 gr cr d x8 x83 x84 x85 x86 x87 x88 x89 x90 x91 x92 W)) (by kernel_rfl) ⟨0, 0, 0, (.slice va vn vc), u83, u84, u85, u86, u87, u88, u89, u90, u91, u92, by first | (simp only [Act.put, List.setIfInBounds_toArray, List.set_cons_zero, List.set_cons_succ]; done) | (simp only [Act.put, List.setIfInBounds_toArray, List.set_cons_zero, List.set_cons_succ]; rfl), ?_⟩ ?_ ?_
                          · exact ⟨fun h => no_way h, fun h => no_way h, fun h => no_way h, fun h => no_way h, fun h => no_way h, fun h => no_way h, fun h => no_way h, fun h => no_way h, fun h => no_way h, fun h => no_way h, fun h => no_way h, fun h => no_way h, fun h => no_way h, fun h => no_way h, fun _ => rfl, mgb_drew (mgb_refl _ _), fun _ => HOWN.out, fun h => no_way h, fun h => no_way h⟩
                          · simp only [StepAll, and_true]
                            refine ⟨?_, ?_, ?_, ?_, ?_, ?_, ?_, ?_, ?_, ?_, ?_⟩
                            · intro d a W hI hd hdep
                              obtain ⟨gb2, gr, cr, x8, x83, x84, x85, x86, x87, x88, x89, x90, x91, x92, rfl, hF⟩ := hI
                              have HN10 : Hid (d 10 = false) := no_later (fun h => hF.out.c09 (hF.out.cX h)) hd
                              obtain rfl := hF.out.s8 HN10.out
                              clear hdep hd
                              intro K hK
                              simp only [Act.put, List.setIfInBounds_toArray, List.set_cons_zero, List.set_cons_succ]
                              go_simp
                              refine hK.out _ _ ⟨gb2, gr, cr, (.slice va vn vc), (.slice va vn vc), x84, x85, x86, x87, x88, x89, x90, x91, x92, by first | (simp only [Act.put, List.setIfInBounds_toArray, List.set_cons_zero, List.set_cons_succ]; done) | (simp only [Act.put, List.setIfInBounds_toArray, List.set_cons_zero, List.set_cons_succ]; rfl), ?_⟩
                              exact ⟨fun _ => rfl, fun h => hF.out.f1 (by simpa using h), fun h => hF.out.f2 (by simpa using h), fun h => hF.out.f3 (by simpa using h), fun h => hF.out.f4 (by simpa using h), fun h => hF.out.f5 (by simpa using h), fun h => hF.out.f6 (by simpa using h), fun h => hF.out.f7 (by simpa using h), fun h => hF.out.f8 (by simpa using h), fun h => hF.out.f9 (by simpa using h), fun h => hF.out.f10 (by simpa using h), fun h => by have := hF.out.cA (by simpa using h); simpa using this, fun h => by have := hF.out.cX (by simpa using h); simpa using this, fun _ => by simp, fun _ => rfl, hF.out.kp, fun h => hF.out.r0 (by simpa using h), fun h h2 => hF.out.b0 (by simpa using h) (by simpa using h2), fun h => hF.out.r1 (by simpa using h)⟩
                            · intro d a W hI hd hdep
                              obtain ⟨gb2, gr, cr, x8, x83, x84, x85, x86, x87, x88, x89, x90, x91, x92, rfl, hF⟩ := hI
                              clear hdep hd
                              intro K hK
                              simp only [Act.put, List.setIfInBounds_toArray, List.set_cons_zero, List.set_cons_succ]
                              go_simp
                              refine hK.out _ _ ⟨gb2, gr, cr, x8, x83, (.int .i64 (k : Int)), x85, x86, x87, x88, x89, x90, x91, x92, by first | (simp only [Act.put, List.setIfInBounds_toArray, List.set_cons_zero, List.set_cons_succ]; done) | (simp only [Act.put, List.setIfInBounds_toArray, List.set_cons_zero, List.set_cons_succ]; rfl), ?_⟩
                              exact ⟨fun h => hF.out.f0 (by simpa using h), fun _ => rfl, fun h => hF.out.f2 (by simpa using h), fun h => hF.out.f3 (by simpa using h), fun h => hF.out.f4 (by simpa using h), fun h => hF.out.f5 (by simpa using h), fun h => hF.out.f6 (by simpa using h), fun h => hF.out.f7 (by simpa using h), fun h => hF.out.f8 (by simpa using h), fun h => hF.out.f9 (by simpa using h), fun h => hF.out.f10 (by simpa using h), fun h => by have := hF.out.cA (by simpa using h); simpa using this, fun h => by have := hF.out.cX (by simpa using h); simpa using this, fun h => by have := hF.out.c09 (by simpa using h); simpa using this, fun h => hF.out.s8 (by simpa using h), hF.out.kp, fun h => hF.out.r0 (by simpa using h), fun h h2 => hF.out.b0 (by simpa using h) (by simpa using h2), fun h => hF.out.r1 (by simpa using h)⟩
                            · intro d a W hI hd hdep
                              obtain ⟨gb2, gr, cr, x8, x83, x84, x85, x86, x87, x88, x89, x90, x91, x92, rfl, hF⟩ := hI
                              clear hdep hd
                              intro K hK
                              simp only [Act.put, List.setIfInBounds_toArray, List.set_cons_zero, List.set_cons_succ]
                              go_simp
                              refine hK.out _ _ ⟨gb2, gr, cr, x8, x83, x84, (.int .i64 (c : Int)), x86, x87, x88, x89, x90, x91, x92, by first | (simp only [Act.put, List.setIfInBounds_toArray, List.set_cons_zero, List.set_cons_succ]; done) | (simp only [Act.put, List.setIfInBounds_toArray, List.set_cons_zero, List.set_cons_succ]; rfl), ?_⟩
                              exact ⟨fun h => hF.out.f0 (by simpa using h), fun h => hF.out.f1 (by simpa using h), fun _ => rfl, fun h => hF.out.f3 (by simpa using h), fun h => hF.out.f4 (by simpa using h), fun h => hF.out.f5 (by simpa using h), fun h => hF.out.f6 (by simpa using h), fun h => hF.out.f7 (by simpa using h), fun h => hF.out.f8 (by simpa using h), fun h => hF.out.f9 (by simpa using h), fun h => hF.out.f10 (by simpa using h), fun h => by have := hF.out.cA (by simpa using h); simpa using this, fun h => by have := hF.out.cX (by simpa using h); simpa using this, fun h => by have := hF.out.c09 (by simpa using h); simpa using this, fun h => hF.out.s8 (by simpa using h), hF.out.kp, fun h => hF.out.r0 (by simpa using h), fun h h2 => hF.out.b0 (by simpa using h) (by simpa using h2), fun h => hF.out.r1 (by simpa using h)⟩
                            · intro d a W hI hd hdep
                              obtain ⟨gb2, gr, cr, x8, x83, x84, x85, x86, x87, x88, x89, x90, x91, x92, rfl, hF⟩ := hI
                              clear hdep hd
                              intro K hK
                              simp only [Act.put, List.setIfInBounds_toArray, List.set_cons_zero, List.set_cons_succ]
                              go_simp
                              refine hK.out _ _ ⟨gb2, gr, cr, x8, x83, x84, x85, (.slice (some ⟨cb, 0, none⟩) (tl.length + 1) cc), x87, x88, x89, x90, x91, x92, by first | (simp only [Act.put, List.setIfInBounds_toArray, List.set_cons_zero, List.set_cons_succ]; done) | (simp only [Act.put, List.setIfInBounds_toArray, List.set_cons_zero, List.set_cons_succ]; rfl), ?_⟩
                              exact ⟨fun h => hF.out.f0 (by simpa using h), fun h => hF.out.f1 (by simpa using h), fun h => hF.out.f2 (by simpa using h), fun _ => rfl, fun h => hF.out.f4 (by simpa using h), fun h => hF.out.f5 (by simpa using h), fun h => hF.out.f6 (by simpa using h), fun h => hF.out.f7 (by simpa using h), fun h => hF.out.f8 (by simpa using h), fun h => hF.out.f9 (by simpa using h), fun h => hF.out.f10 (by simpa using h), fun h => by have := hF.out.cA (by simpa using h); simpa using this, fun h => by have := hF.out.cX (by simpa using h); simpa using this, fun h => by have := hF.out.c09 (by simpa using h); simpa using this, fun h => hF.out.s8 (by simpa using h), hF.out.kp, fun h => hF.out.r0 (by simpa using h), fun h h2 => hF.out.b0 (by simpa using h) (by simpa using h2), fun h => hF.out.r1 (by simpa using h)⟩
                            · intro d a W hI hd hdep
                              obtain ⟨gb2, gr, cr, x8, x83, x84, x85, x86, x87, x88, x89, x90, x91, x92, rfl, hF⟩ := hI
                              have hd3 : d 3 = true := dep_of hdep 3 (by kernel_rfl)
                              obtain rfl := hF.out.f3 hd3
                              have hi1 : (0 : Int) < ((tl.length + 1) : Int) := by have := HCM.out; omega
                              clear hdep hd hd3
                              intro K hK
                              simp only [Act.put, List.setIfInBounds_toArray, List.set_cons_zero, List.set_cons_succ]
                              go_simp
                              refine hK.out _ _ ⟨gb2, gr, cr, x8, x83, x84, x85, (.slice (some ⟨cb, 0, none⟩) (tl.length + 1) cc), (.pointer (some ⟨cb, 0, none⟩)), x88, x89, x90, x91, x92, by first | (simp only [Act.put, List.setIfInBounds_toArray, List.set_cons_zero, List.set_cons_succ]; done) | (simp only [Act.put, List.setIfInBounds_toArray, List.set_cons_zero, List.set_cons_succ]; rfl), ?_⟩
                              exact ⟨fun h => hF.out.f0 (by simpa using h), fun h => hF.out.f1 (by simpa using h), fun h => hF.out.f2 (by simpa using h), fun h => hF.out.f3 (by simpa using h), fun _ => rfl, fun h => hF.out.f5 (by simpa using h), fun h => hF.out.f6 (by simpa using h), fun h => hF.out.f7 (by simpa using h), fun h => hF.out.f8 (by simpa using h), fun h => hF.out.f9 (by simpa using h), fun h => hF.out.f10 (by simpa using h), fun h => by have := hF.out.cA (by simpa using h); simpa using this, fun h => by have := hF.out.cX (by simpa using h); simpa using this, fun h => by have := hF.out.c09 (by simpa using h); simpa using this, fun h => hF.out.s8 (by simpa using h), hF.out.kp, fun h => hF.out.r0 (by simpa using h), fun h h2 => hF.out.b0 (by simpa using h) (by simpa using h2), fun h => hF.out.r1 (by simpa using h)⟩
                            · intro d a W hI hd hdep
                              obtain ⟨gb2, gr, cr, x8, x83, x84, x85, x86, x87, x88, x89, x90, x91, x92, rfl, hF⟩ := hI
                              have hd4 : d 4 = true := dep_of hdep 4 (by kernel_rfl)
                              obtain rfl := hF.out.f4 hd4
                              have y0 : W.cell? ⟨cb, 0, none⟩ = some (.int .i64 h0) := (mgb_old hF.out.kp (p := ⟨cb, 0, none⟩) HC0.out.1 HC0.out.2.1).trans HC0.out.2.2
                              have y1 : W.cell? ⟨cb, 1, none⟩ = some (.int .i64 h1) := (mgb_old hF.out.kp (p := ⟨cb, 1, none⟩) HC1.out.1 HC1.out.2.1).trans HC1.out.2.2
                              clear hdep hd hd4
                              intro K hK
                              simp only [Act.put, List.setIfInBounds_toArray, List.set_cons_zero, List.set_cons_succ]
                              go_simp
                              refine hK.out _ _ ⟨gb2, gr, cr, x8, x83, x84, x85, x86, (.pointer (some ⟨cb, 0, none⟩)), (.agg #[.int .i64 h0, .int .i64 h1]), x89, x90, x91, x92, by first | (simp only [Act.put, List.setIfInBounds_toArray, List.set_cons_zero, List.set_cons_succ]; done) | (simp only [Act.put, List.setIfInBounds_toArray, List.set_cons_zero, List.set_cons_succ]; rfl), ?_⟩
                              exact ⟨fun h => hF.out.f0 (by simpa using h), fun h => hF.out.f1 (by simpa using h), fun h => hF.out.f2 (by simpa using h), fun h => hF.out.f3 (by simpa using h), fun h => hF.out.f4 (by simpa using h), fun _ => rfl, fun h => hF.out.f6 (by simpa using h), fun h => hF.out.f7 (by simpa using h), fun h => hF.out.f8 (by simpa using h), fun h => hF.out.f9 (by simpa using h), fun h => hF.out.f10 (by simpa using h), fun h => by have := hF.out.cA (by simpa using h); simpa using this, fun h => by have := hF.out.cX (by simpa using h); simpa using this, fun h => by have := hF.out.c09 (by simpa using h); simpa using this, fun h => hF.out.s8 (by simpa using h), hF.out.kp, fun h => hF.out.r0 (by simpa using h), fun h h2 => hF.out.b0 (by simpa using h) (by simpa using h2), fun h => hF.out.r1 (by simpa using h)⟩
                            · intro d a W hI hd hdep
                              obtain ⟨gb2, gr, cr, x8, x83, x84, x85, x86, x87, x88, x89, x90, x91, x92, rfl, hF⟩ := hI
                              have y0 : W.cell? ⟨zb, 0, none⟩ = some (.int .i64 z0) := (mgb_old hF.out.kp (p := ⟨zb, 0, none⟩) HZ0.out.1 HZ0.out.2.1).trans HZ0.out.2.2
                              have y1 : W.cell? ⟨zb, 1, none⟩ = some (.int .i64 z1) := (mgb_old hF.out.kp (p := ⟨zb, 1, none⟩) HZ1.out.1 HZ1.out.2.1).trans HZ1.out.2.2
                              clear hdep hd
                              intro K hK
                              simp only [Act.put, List.setIfInBounds_toArray, List.set_cons_zero, List.set_cons_succ]
                              go_simp
                              refine hK.out _ _ ⟨gb2, gr, cr, x8, x83, x84, x85, x86, x87, x88, (.agg #[.int .i64 z0, .int .i64 z1]), x90, x91, x92, by first | (simp only [Act.put, List.setIfInBounds_toArray, List.set_cons_zero, List.set_cons_succ]; done) | (simp only [Act.put, List.setIfInBounds_toArray, List.set_cons_zero, List.set_cons_succ]; rfl), ?_⟩
                              exact ⟨fun h => hF.out.f0 (by simpa using h), fun h => hF.out.f1 (by simpa using h), fun h => hF.out.f2 (by simpa using h), fun h => hF.out.f3 (by simpa using h), fun h => hF.out.f4 (by simpa using h), fun h => hF.out.f5 (by simpa using h), fun _ => rfl, fun h => hF.out.f7 (by simpa using h), fun h => hF.out.f8 (by simpa using h), fun h => hF.out.f9 (by simpa using h), fun h => hF.out.f10 (by simpa using h), fun h => by have := hF.out.cA (by simpa using h); simpa using this, fun h => by have := hF.out.cX (by simpa using h); simpa using this, fun h => by have := hF.out.c09 (by simpa using h); simpa using this, fun h => hF.out.s8 (by simpa using h), hF.out.kp, fun h => hF.out.r0 (by simpa using h), fun h h2 => hF.out.b0 (by simpa using h) (by simpa using h2), fun h => hF.out.r1 (by simpa using h)⟩
                            · intro d a W hI hd hdep
                              obtain ⟨gb2, gr, cr, x8, x83, x84, x85, x86, x87, x88, x89, x90, x91, x92, rfl, hF⟩ := hI
                              have hd1 : d 1 = true := dep_of hdep 1 (by kernel_rfl)
                              have hd2 : d 2 = true := dep_of hdep 2 (by kernel_rfl)
                              have hd5 : d 5 = true := dep_of hdep 5 (by kernel_rfl)
                              have hd6 : d 6 = true := dep_of hdep 6 (by kernel_rfl)
                              obtain rfl := hF.out.f1 hd1
                              obtain rfl := hF.out.f2 hd2
                              obtain rfl := hF.out.f5 hd5
                              obtain rfl := hF.out.f6 hd6
                              clear hdep hd hd1 hd2 hd5 hd6
                              intro K hK
                              simp only [Act.put, List.setIfInBounds_toArray, List.set_cons_zero, List.set_cons_succ]
                              go_simp
                              refine hK.out _ _ ⟨gb2, gr, cr, x8, x83, (.int .i64 (k : Int)), (.int .i64 (c : Int)), x86, x87, (.agg #[.int .i64 h0, .int .i64 h1]), (.agg #[.int .i64 z0, .int .i64 z1]), (.agg #[.int .i64 (k : Int), .int .i64 (c : Int), .int .i64 h0, .int .i64 h1, .int .i64 z0, .int .i64 z1]), x91, x92, by first | (simp only [Act.put, List.setIfInBounds_toArray, List.set_cons_zero, List.set_cons_succ]; done) | (simp only [Act.put, List.setIfInBounds_toArray, List.set_cons_zero, List.set_cons_succ]; rfl), ?_⟩
                              exact ⟨fun h => hF.out.f0 (by simpa using h), fun h => hF.out.f1 (by simpa using h), fun h => hF.out.f2 (by simpa using h), fun h => hF.out.f3 (by simpa using h), fun h => hF.out.f4 (by simpa using h), fun h => hF.out.f5 (by simpa using h), fun h => hF.out.f6 (by simpa using h), fun _ => rfl, fun h => hF.out.f8 (by simpa using h), fun h => hF.out.f9 (by simpa using h), fun h => hF.out.f10 (by simpa using h), fun h => by have := hF.out.cA (by simpa using h); simpa using this, fun h => by have := hF.out.cX (by simpa using h); simpa using this, fun h => by have := hF.out.c09 (by simpa using h); simpa using this, fun h => hF.out.s8 (by simpa using h), hF.out.kp, fun h => hF.out.r0 (by simpa using h), fun h h2 => hF.out.b0 (by simpa using h) (by simpa using h2), fun h => hF.out.r1 (by simpa using h)⟩
                            · intro d a W hI hd hdep
                              obtain ⟨gb2, gr, cr, x8, x83, x84, x85, x86, x87, x88, x89, x90, x91, x92, rfl, hF⟩ := hI
                              have hd7 : d 7 = true := dep_of hdep 7 (by kernel_rfl)
                              obtain rfl := hF.out.f7 hd7
                              have HN8 : Hid (d 9 = false) := no_later hF.out.cA hd
                              have HNX8 : Hid (d 10 = false) := no_later hF.out.cX HN8.out
                              clear hdep hd hd7
                              intro K hK
                              simp only [Act.put, List.setIfInBounds_toArray, List.set_cons_zero, List.set_cons_succ]
                              go_simp
                              refine hK.out _ _ ⟨W.heap.size, gr, cr, x8, x83, x84, x85, x86, x87, x88, x89, (.agg #[.int .i64 (k : Int), .int .i64 (c : Int), .int .i64 h0, .int .i64 h1, .int .i64 z0, .int .i64 z1]), (.slice (some ⟨W.heap.size, 0, none⟩) 1 1), x92, by first | (simp only [Act.put, List.setIfInBounds_toArray, List.set_cons_zero, List.set_cons_succ]; done) | (simp only [Act.put, List.setIfInBounds_toArray, List.set_cons_zero, List.set_cons_succ]; rfl), ?_⟩
                              exact ⟨fun h => hF.out.f0 (by simpa using h), fun h => hF.out.f1 (by simpa using h), fun h => hF.out.f2 (by simpa using h), fun h => hF.out.f3 (by simpa using h), fun h => hF.out.f4 (by simpa using h), fun h => hF.out.f5 (by simpa using h), fun h => hF.out.f6 (by simpa using h), fun h => hF.out.f7 (by simpa using h), fun _ => rfl, fun h => by have := HN8.out; simp [this] at h, fun h => by have := HNX8.out; simp [this] at h, fun _ => by simp, fun h => by have := hF.out.cX (by simpa using h); simpa using this, fun h => by have := hF.out.c09 (by simpa using h); simpa using this, fun h => hF.out.s8 (by simpa using h), mgb_alloc hF.out.kp _, fun _ => (hF.out.r0 HN8.out).alloc _, fun _ _ => heap_alloc_new _ _, fun h => by have := HN8.out; simp [this] at h⟩
                            · intro d a W hI hd hdep
                              obtain ⟨gb2, gr, cr, x8, x83, x84, x85, x86, x87, x88, x89, x90, x91, x92, rfl, hF⟩ := hI
                              have hd0 : d 0 = true := dep_of hdep 0 (by kernel_rfl)
                              have hd8 : d 8 = true := dep_of hdep 8 (by kernel_rfl)
                              obtain rfl := hF.out.f0 hd0
                              obtain rfl := hF.out.f8 hd8
                              have HD7 : Hid (d 8 = true) := hd8
                              have HD0 : Hid (d 0 = true) := hd0
                              have HNX9 : Hid (d 10 = false) := no_later hF.out.cX hd
                              have hm := run_append_lies (P := Try.prog) W 58 58 (w.heap.size + 2) 106 i1 _ 6 48 Try.underlying58 hi1 hy0 hy1 hy2 rfl (by omega) (.slice va vn vc) vn (fcl FL) (hF.out.r0 hd) ⟨gb2, 0, none⟩ 1 1 [.int .i64 (k : Int), .int .i64 (c : Int), .int .i64 h0, .int .i64 h1, .int .i64 z0, .int .i64 z1] rfl (World.news_of_block (t := 106) (fr := (0, 0)) (hF.out.b0 hd8 hd)) (by simp [Value.oneCell']) (by omega) (by unfold maxLen; have := HBOUND.out; omega) (by have := HBOUND.out; omega) (Nat.le_trans HBW.out hF.out.kp.size) W.heap.size rfl
                              have hmm := hm.choose_spec.choose_spec.choose_spec
                              generalize hm.choose_spec.choose_spec.choose = W1 at hmm
                              generalize hm.choose_spec.choose = cr1 at hmm
                              generalize hm.choose = gr1 at hmm
                              have hrun := hmm.1
                              have HM : Hid (W1.ownsRow (w.heap.size + 2) 106 6 (.slice (some ⟨gr1, 0, none⟩) (vn + 1) cr1) (vn + 1) ((fcl FL) ++ [.int .i64 (k : Int), .int .i64 (c : Int), .int .i64 h0, .int .i64 h1, .int .i64 z0, .int .i64 z1]) ∧ W.grownBy W1 (Value.ownBlock (.slice va vn vc))) := ⟨hmm.2.1, hmm.2.2.1⟩
                              clear hmm hm
                              clear hdep hd hd0 hd8
                              intro K hK
                              refine step_call_append (sv := (.slice va vn vc)) (xv := (.slice (some ⟨gb2, 0, none⟩) 1 1)) (v := (.slice (some ⟨gr1, 0, none⟩) (vn + 1) cr1)) (W1 := W1) (by rfl) _ _ 58 (by rfl) (by first | (simp only [Act.put, List.setIfInBounds_toArray, List.set_cons_zero, List.set_cons_succ]; done) | (simp only [Act.put, List.setIfInBounds_toArray, List.set_cons_zero, List.set_cons_succ]; rfl)) (by first | (simp only [Act.put, List.setIfInBounds_toArray, List.set_cons_zero, List.set_cons_succ]; done) | (simp only [Act.put, List.setIfInBounds_toArray, List.set_cons_zero, List.set_cons_succ]; rfl)) (by exact hrun) ?_
                              simp only [Act.put, List.setIfInBounds_toArray, List.set_cons_zero, List.set_cons_succ]
                              refine hK.out _ _ ⟨gb2, gr1, cr1, x8, (.slice va vn vc), x84, x85, x86, x87, x88, x89, x90, (.slice (some ⟨gb2, 0, none⟩) 1 1), (.slice (some ⟨gr1, 0, none⟩) (vn + 1) cr1), by first | (simp only [Act.put, List.setIfInBounds_toArray, List.set_cons_zero, List.set_cons_succ]; done) | (simp only [Act.put, List.setIfInBounds_toArray, List.set_cons_zero, List.set_cons_succ]; rfl), ?_⟩
                              exact ⟨fun h => hF.out.f0 (by simpa using h), fun h => hF.out.f1 (by simpa using h), fun h => hF.out.f2 (by simpa using h), fun h => hF.out.f3 (by simpa using h), fun h => hF.out.f4 (by simpa using h), fun h => hF.out.f5 (by simpa using h), fun h => hF.out.f6 (by simpa using h), fun h => hF.out.f7 (by simpa using h), fun h => hF.out.f8 (by simpa using h), fun _ => rfl, fun h => by have := HNX9.out; simp [this] at h, fun _ => by simpa using HD7.out, fun _ => by simp, fun _ => by simpa using HD0.out, fun h => hF.out.s8 (by simpa using h), mgb_then hF.out.kp HM.out.2, fun h => by simp at h, fun _ h => by simp at h, fun _ => HM.out.1⟩
                            · intro d a W hI hd hdep
                              obtain ⟨gb2, gr, cr, x8, x83, x84, x85, x86, x87, x88, x89, x90, x91, x92, rfl, hF⟩ := hI
                              have hd9 : d 9 = true := dep_of hdep 9 (by kernel_rfl)
                              obtain rfl := hF.out.f9 hd9
                              have HD9 : Hid (d 9 = true) := hd9
                              clear hdep hd hd9
                              intro K hK
                              simp only [Act.put, List.setIfInBounds_toArray, List.set_cons_zero, List.set_cons_succ]
                              go_simp
                              refine hK.out _ _ ⟨gb2, gr, cr, (.slice (some ⟨gr, 0, none⟩) (vn + 1) cr), x83, x84, x85, x86, x87, x88, x89, x90, x91, (.slice (some ⟨gr, 0, none⟩) (vn + 1) cr), by first | (simp only [Act.put, List.setIfInBounds_toArray, List.set_cons_zero, List.set_cons_succ]; done) | (simp only [Act.put, List.setIfInBounds_toArray, List.set_cons_zero, List.set_cons_succ]; rfl), ?_⟩
                              exact ⟨fun h => hF.out.f0 (by simpa using h), fun h => hF.out.f1 (by simpa using h), fun h => hF.out.f2 (by simpa using h), fun h => hF.out.f3 (by simpa using h), fun h => hF.out.f4 (by simpa using h), fun h => hF.out.f5 (by simpa using h), fun h => hF.out.f6 (by simpa using h), fun h => hF.out.f7 (by simpa using h), fun h => hF.out.f8 (by simpa using h), fun h => hF.out.f9 (by simpa using h), fun _ => rfl, fun h => by have := hF.out.cA (by simpa using h); simpa using this, fun _ => by simpa using HD9.out, fun h => by have := hF.out.c09 (by simpa using h); simpa using this, fun h => by simp at h, hF.out.kp, fun h => hF.out.r0 (by simpa using h), fun h h2 => hF.out.b0 (by simpa using h) (by simpa using h2), fun h => hF.out.r1 (by simpa using h)⟩
                          · intro d a W hI hall
                            obtain ⟨gb2, gr, cr, x8, x83, x84, x85, x86, x87, x88, x89, x90, x91, x92, rfl, hF⟩ := hI
                            simp only [List.length_cons, List.length_nil] at hall
                            obtain rfl := hF.out.f0 (hall 0 (by omega))
                            obtain rfl := hF.out.f1 (hall 1 (by omega))
                            obtain rfl := hF.out.f2 (hall 2 (by omega))
                            obtain rfl := hF.out.f3 (hall 3 (by omega))
                            obtain rfl := hF.out.f4 (hall 4 (by omega))
                            obtain rfl := hF.out.f5 (hall 5 (by omega))
                            obtain rfl := hF.out.f6 (hall 6 (by omega))
                            obtain rfl := hF.out.f7 (hall 7 (by omega))
                            obtain rfl := hF.out.f8 (hall 8 (by omega))
                            obtain rfl := hF.out.f9 (hall 9 (by omega))
                            obtain rfl := hF.out.f10 (hall 10 (by omega))
                            have g1 := hF.out.kp
                            have g2 := hF.out.r1 (hall 9 (by omega))
                            have HNXT : Hid (Lk w T n (.slice po ps.length pc) ps S ab tb b1 b2 (.slice (some ⟨sb, 0, none⟩) S sc) (.slice (some ⟨nb, 0, none⟩) S nc) vs ws ss nx (k + 1) rb (Aq (cdH T ps ss nx) k (c + 1)) k f2 (.slice (some ⟨gr, 0, none⟩) (vn + 1) cr) (ftF T ps ss nx k c (j + 1)) W ∧ Cr (B5 + 1) T ob fo (cd T ps ss nx k) W) := by
                              refine ⟨HL8.out.1.fight HPD.out g1 ?_, HL8.out.2.grown HOWN.out g1⟩
                              have e1 : (ftF T ps ss nx k c (j + 1)).length = vn + 1 := by rw [HFN.out, List.length_append, HVN.out]; rfl
                              have e2 : fcl (ftF T ps ss nx k c (j + 1)) = fcl FL ++ [.int .i64 (k : Int), .int .i64 (c : Int), .int .i64 h0, .int .i64 h1, .int .i64 z0, .int .i64 z1] := by rw [HFN.out, fcl_app]; rfl
                              rw [e1, e2]; exact g2
                            clear hF hall g1 g2 HL8 HOWN HC0 HC1 HZ0 HZ1
                            simp only [Act.put, List.setIfInBounds_toArray, List.set_cons_zero, List.set_cons_succ]
                            generalize W = w9 at HNXT ⊢
                            go_wp2_with fail
                            go_roundw
                            case rel => exact ⟨j + 1, _, _, _, by omega, rfl, by go_num, HNXT.out.1, HNXT.out.2⟩
                            case measure => simp [intOf]; omega
                        · have HL9 : Hid (Lk w T n (.slice po ps.length pc) ps S ab tb b1 b2 (.slice (some ⟨sb, 0, none⟩) S sc) (.slice (some ⟨nb, 0, none⟩) S nc) vs ws ss nx (k + 1) rb (Aq (cdH T ps ss nx) k (c + 1)) k f2 (.slice va vn vc) (ftN T ps ss nx k ++ ftR T ps ss nx k (c + 1)) wr ∧ Cr (B5 + 1) T ob fo (cd T ps ss nx k) wr) := by
                            rw [← ftF_end T ps ss nx k c j (by rw [HLE.out]; simp; omega)]; exact HI.out
                          clear HI
                          go_wp2_with fail
                          go_roundw
                          case rel => exact ⟨c + 1, va, vn, vc, by have := HCT.out; omega, rfl, by go_num, HL9.out.1, HL9.out.2⟩
                          case measure => have := HCT.out; simp [intOf]; omega
                · obtain rfl : c = T + 1 := by omega
                  have HLE : Hid (Lk w T n (.slice po ps.length pc) ps S ab tb b1 b2 (.slice (some ⟨sb, 0, none⟩) S sc) (.slice (some ⟨nb, 0, none⟩) S nc) vs ws ss nx (k + 1) rb (Aq (cdH T ps ss nx) (k + 1) 0) k f2 (.slice va vn vc) (ftN T ps ss nx (k + 1)) wr) := by
                    refine HI.out.1.congr fun i j hi hj => ?_
                    unfold Aq
                    by_cases e : i < k
                    · rw [if_pos (by omega), if_pos (by omega)]
                    · rw [if_pos (by omega), if_pos (by omega)]
                  clear HI
                  obtain ⟨vo, rfl⟩ : ∃ z, z = va := ⟨_, rfl⟩
                  have hcn : ¬ (((T + 1 : Nat) : Int) < (T : Int) + 1) := by omega
                  have HT1 : Hid (tb < wr.heap.size ∧ wr.cell? ⟨tb, 1, none⟩ = some (.slice (some ⟨b2, 0, none⟩) S S)) := ⟨mheap_lt HLE.out.tbx, by have := mcell_blk HLE.out.tbx 1; simpa using this⟩
                  have HGT : Hid (w.heap.size < wr.heap.size ∧ wr.cell? ⟨w.heap.size, 0, none⟩ = some (.int .i64 (T : Int))) := ⟨HLE.out.gb.lt, HLE.out.gb.c0⟩
                  have kb2 := HLE.out.r2.cell HKS.out
                  rw [if_neg (by omega)] at kb2
                  have HB2 : Hid (b2 < wr.heap.size ∧ wr.cell? ⟨b2, k, none⟩ = some (.slice none 0 0) ∧ wr.frozen? ⟨b2, k, none⟩ = false) := ⟨HLE.out.r2.lt, kb2, World.rowIs.frozen HLE.out.r2 k⟩
                  obtain ⟨u2, hu1, hu2⟩ := HLE.out.ni k _ HNXK.out
                  rw [HWSK.out] at hu1
                  obtain rfl := (Option.some.inj hu1).symm
                  have HCL : Hid (∀ W, Below wr.heap.size wr W → Calls Try.prog 47 #[(.slice (some ⟨rn, T, none⟩) n (rc - T))] W fun e w' => ∃ ga gc, e = .returned (.slice ga n gc) ∧ w'.ownsRow W.heap.size 3 1 (.slice ga n gc) n (((nx.getD k []).drop T).map (Value.int .i64)) ∧ Below W.heap.size W w') := fun W hW => by
                    have hl : ((nx.getD k []).drop T).length = n := by rw [List.length_drop, HRL.out]; omega
                    have hin : Ints W (.slice (some ⟨rn, T, none⟩) n (rc - T)) ((nx.getD k []).drop T) := by
                      refine ⟨some ⟨rn, T, none⟩, rc - T, by rw [hl], by rw [hl]; have := HTN.out.2.1; omega, Or.inr ⟨rn, T, rfl, (((own_below hu2 hW).lt rn rfl).2), fun i hi => ?_⟩⟩
                      have hi2 : T + i < (nx.getD k []).length := by rw [HRL.out]; rw [hl] at hi; omega
                      have := (own_below hu2 hW).cells (g := rn) rfl (T + i) _ (by rw [List.getElem?_map, List.getElem?_eq_getElem hi2]; rfl)
                      rw [Addr.add_lit, Nat.zero_add] at this
                      rw [this, List.getElem_drop]
                    have h := clone_ints _ ((nx.getD k []).drop T) W hin (by rw [hl]; have := HTN.out.2.1; omega)
                    rw [hl] at h
                    exact h
                  clear kb2 hu1 hu2
                  go_upto_region 21 with fail
                  refine wp_region_free mixed (fun a0 d a W => ∃ (ga : Option Addr) (gc : Nat) (x95 x96 x97 x98 x99 x100 x101 x102 x103 : Value), a = (((((((((a0.put (some 95) x95).put (some 96) x96).put (some 97) x97).put (some 98) x98).put (some 99) x99).put (some 100) x100).put (some 101) x101).put (some 102) x102).put (some 103) x103) ∧ Hid (RT21 wr w.heap.size tb b2 S T n k rn rc ((nx.getD k []).drop T) ga gc d x95 x96 x97 x98 x99 x100 x101 x102 x103 W)) (by kernel_rfl) ⟨none, 0, u95, u96, u97, u98, u99, u100, u101, u102, u103, by first | (simp only [Act.put, List.setIfInBounds_toArray, List.set_cons_zero, List.set_cons_succ]; done) | (simp only [Act.put, List.setIfInBounds_toArray, List.set_cons_zero, List.set_cons_succ]; rfl), ?_⟩ ?_ ?_
                  · exact ⟨fun h => no_way h, fun h => no_way h, fun h => no_way h, fun h => no_way h, fun h => no_way h, fun h => no_way h, fun h => no_way h, fun h => no_way h, fun h => no_way h, fun _ => trivial, fun _ _ h => no_way h, fun _ => (Below.refl _ _).drew, fun h => no_way h, fun h => no_way h⟩
                  · simp only [StepAll, and_true]
                    refine ⟨?_, ?_, ?_, ?_, ?_, ?_, ?_, ?_, ?_, ?_⟩
                    · intro d a W hI hd hdep
                      obtain ⟨ga, gc, x95, x96, x97, x98, x99, x100, x101, x102, x103, rfl, hF⟩ := hI
                      clear hdep hd
                      intro K hK
                      simp only [Act.put, List.setIfInBounds_toArray, List.set_cons_zero, List.set_cons_succ]
                      go_simp
                      refine hK.out _ _ ⟨ga, gc, (.pointer (some ⟨tb, 1, none⟩)), x96, x97, x98, x99, x100, x101, x102, x103, by first | (simp only [Act.put, List.setIfInBounds_toArray, List.set_cons_zero, List.set_cons_succ]; done) | (simp only [Act.put, List.setIfInBounds_toArray, List.set_cons_zero, List.set_cons_succ]; rfl), ?_⟩
                      exact ⟨fun _ => rfl, fun h => hF.out.f1 (by simpa using h), fun h => hF.out.f2 (by simpa using h), fun h => hF.out.f3 (by simpa using h), fun h => hF.out.f4 (by simpa using h), fun h => hF.out.f5 (by simpa using h), fun h => hF.out.f6 (by simpa using h), fun h => hF.out.f7 (by simpa using h), fun h => hF.out.f8 (by simpa using h), fun h => hF.out.f9 (by simpa using h), fun i hi h => by have := hF.out.ol i hi (by simpa using h); simp [this], fun h => hF.out.bl (by simpa using h), fun h h2 => hF.out.q7 (by simpa using h) (by simpa using h2), fun h => hF.out.fin (by simpa using h)⟩
                    · intro d a W hI hd hdep
                      obtain ⟨ga, gc, x95, x96, x97, x98, x99, x100, x101, x102, x103, rfl, hF⟩ := hI
                      have hd0 : d 0 = true := dep_of hdep 0 (by kernel_rfl)
                      obtain rfl := hF.out.f0 hd0
                      have HNL : Hid (d 9 = false) := no_later (hF.out.ol 1 (by omega)) hd
                      have hB : Below wr.heap.size wr W := (hF.out.bl HNL.out)
                      have ya : W.cell? ⟨tb, 1, none⟩ = some (.slice (some ⟨b2, 0, none⟩) S S) := (hB.cell (p := ⟨tb, 1, none⟩) HT1.out.1).trans HT1.out.2
                      clear hdep hd hd0
                      intro K hK
                      simp only [Act.put, List.setIfInBounds_toArray, List.set_cons_zero, List.set_cons_succ]
                      go_simp
                      refine hK.out _ _ ⟨ga, gc, (.pointer (some ⟨tb, 1, none⟩)), (.slice (some ⟨b2, 0, none⟩) S S), x97, x98, x99, x100, x101, x102, x103, by first | (simp only [Act.put, List.setIfInBounds_toArray, List.set_cons_zero, List.set_cons_succ]; done) | (simp only [Act.put, List.setIfInBounds_toArray, List.set_cons_zero, List.set_cons_succ]; rfl), ?_⟩
                      exact ⟨fun h => hF.out.f0 (by simpa using h), fun _ => rfl, fun h => hF.out.f2 (by simpa using h), fun h => hF.out.f3 (by simpa using h), fun h => hF.out.f4 (by simpa using h), fun h => hF.out.f5 (by simpa using h), fun h => hF.out.f6 (by simpa using h), fun h => hF.out.f7 (by simpa using h), fun h => hF.out.f8 (by simpa using h), fun h => hF.out.f9 (by simpa using h), fun i hi h => by have := hF.out.ol i hi (by simpa using h); simp [this], fun h => hF.out.bl (by simpa using h), fun h h2 => hF.out.q7 (by simpa using h) (by simpa using h2), fun h => hF.out.fin (by simpa using h)⟩
                    · intro d a W hI hd hdep
                      obtain ⟨ga, gc, x95, x96, x97, x98, x99, x100, x101, x102, x103, rfl, hF⟩ := hI
                      clear hdep hd
                      intro K hK
                      simp only [Act.put, List.setIfInBounds_toArray, List.set_cons_zero, List.set_cons_succ]
                      go_simp
                      refine hK.out _ _ ⟨ga, gc, x95, x96, (.int .i64 (k : Int)), x98, x99, x100, x101, x102, x103, by first | (simp only [Act.put, List.setIfInBounds_toArray, List.set_cons_zero, List.set_cons_succ]; done) | (simp only [Act.put, List.setIfInBounds_toArray, List.set_cons_zero, List.set_cons_succ]; rfl), ?_⟩
                      exact ⟨fun h => hF.out.f0 (by simpa using h), fun h => hF.out.f1 (by simpa using h), fun _ => rfl, fun h => hF.out.f3 (by simpa using h), fun h => hF.out.f4 (by simpa using h), fun h => hF.out.f5 (by simpa using h), fun h => hF.out.f6 (by simpa using h), fun h => hF.out.f7 (by simpa using h), fun h => hF.out.f8 (by simpa using h), fun h => hF.out.f9 (by simpa using h), fun i hi h => by have := hF.out.ol i hi (by simpa using h); simp [this], fun h => hF.out.bl (by simpa using h), fun h h2 => hF.out.q7 (by simpa using h) (by simpa using h2), fun h => hF.out.fin (by simpa using h)⟩
                    · intro d a W hI hd hdep
                      obtain ⟨ga, gc, x95, x96, x97, x98, x99, x100, x101, x102, x103, rfl, hF⟩ := hI
                      clear hdep hd
                      intro K hK
                      simp only [Act.put, List.setIfInBounds_toArray, List.set_cons_zero, List.set_cons_succ]
                      go_simp
                      refine hK.out _ _ ⟨ga, gc, x95, x96, x97, (.slice (some ⟨rn, 0, none⟩) (T + n) rc), x99, x100, x101, x102, x103, by first | (simp only [Act.put, List.setIfInBounds_toArray, List.set_cons_zero, List.set_cons_succ]; done) | (simp only [Act.put, List.setIfInBounds_toArray, List.set_cons_zero, List.set_cons_succ]; rfl), ?_⟩
                      exact ⟨fun h => hF.out.f0 (by simpa using h), fun h => hF.out.f1 (by simpa using h), fun h => hF.out.f2 (by simpa using h), fun _ => rfl, fun h => hF.out.f4 (by simpa using h), fun h => hF.out.f5 (by simpa using h), fun h => hF.out.f6 (by simpa using h), fun h => hF.out.f7 (by simpa using h), fun h => hF.out.f8 (by simpa using h), fun h => hF.out.f9 (by simpa using h), fun i hi h => by have := hF.out.ol i hi (by simpa using h); simp [this], fun h => hF.out.bl (by simpa using h), fun h h2 => hF.out.q7 (by simpa using h) (by simpa using h2), fun h => hF.out.fin (by simpa using h)⟩
                    · intro d a W hI hd hdep
                      obtain ⟨ga, gc, x95, x96, x97, x98, x99, x100, x101, x102, x103, rfl, hF⟩ := hI
                      clear hdep hd
                      intro K hK
                      simp only [Act.put, List.setIfInBounds_toArray, List.set_cons_zero, List.set_cons_succ]
                      go_simp
                      refine hK.out _ _ ⟨ga, gc, x95, x96, x97, x98, (.pointer (some ⟨w.heap.size, 0, none⟩)), x100, x101, x102, x103, by first | (simp only [Act.put, List.setIfInBounds_toArray, List.set_cons_zero, List.set_cons_succ]; done) | (simp only [Act.put, List.setIfInBounds_toArray, List.set_cons_zero, List.set_cons_succ]; rfl), ?_⟩
                      exact ⟨fun h => hF.out.f0 (by simpa using h), fun h => hF.out.f1 (by simpa using h), fun h => hF.out.f2 (by simpa using h), fun h => hF.out.f3 (by simpa using h), fun _ => rfl, fun h => hF.out.f5 (by simpa using h), fun h => hF.out.f6 (by simpa using h), fun h => hF.out.f7 (by simpa using h), fun h => hF.out.f8 (by simpa using h), fun h => hF.out.f9 (by simpa using h), fun i hi h => by have := hF.out.ol i hi (by simpa using h); simp [this], fun h => hF.out.bl (by simpa using h), fun h h2 => hF.out.q7 (by simpa using h) (by simpa using h2), fun h => hF.out.fin (by simpa using h)⟩
                    · intro d a W hI hd hdep
                      obtain ⟨ga, gc, x95, x96, x97, x98, x99, x100, x101, x102, x103, rfl, hF⟩ := hI
                      have hd4 : d 4 = true := dep_of hdep 4 (by kernel_rfl)
                      obtain rfl := hF.out.f4 hd4
                      have HNL : Hid (d 9 = false) := no_later (hF.out.ol 5 (by omega)) hd
                      have hB : Below wr.heap.size wr W := (hF.out.bl HNL.out)
                      have ya : W.cell? ⟨w.heap.size, 0, none⟩ = some (.int .i64 (T : Int)) := (hB.cell (p := ⟨w.heap.size, 0, none⟩) HGT.out.1).trans HGT.out.2
                      clear hdep hd hd4
                      intro K hK
                      simp only [Act.put, List.setIfInBounds_toArray, List.set_cons_zero, List.set_cons_succ]
                      go_simp
                      refine hK.out _ _ ⟨ga, gc, x95, x96, x97, x98, (.pointer (some ⟨w.heap.size, 0, none⟩)), (.int .i64 (T : Int)), x101, x102, x103, by first | (simp only [Act.put, List.setIfInBounds_toArray, List.set_cons_zero, List.set_cons_succ]; done) | (simp only [Act.put, List.setIfInBounds_toArray, List.set_cons_zero, List.set_cons_succ]; rfl), ?_⟩
                      exact ⟨fun h => hF.out.f0 (by simpa using h), fun h => hF.out.f1 (by simpa using h), fun h => hF.out.f2 (by simpa using h), fun h => hF.out.f3 (by simpa using h), fun h => hF.out.f4 (by simpa using h), fun _ => rfl, fun h => hF.out.f6 (by simpa using h), fun h => hF.out.f7 (by simpa using h), fun h => hF.out.f8 (by simpa using h), fun h => hF.out.f9 (by simpa using h), fun i hi h => by have := hF.out.ol i hi (by simpa using h); simp [this], fun h => hF.out.bl (by simpa using h), fun h h2 => hF.out.q7 (by simpa using h) (by simpa using h2), fun h => hF.out.fin (by simpa using h)⟩
                    · intro d a W hI hd hdep
                      obtain ⟨ga, gc, x95, x96, x97, x98, x99, x100, x101, x102, x103, rfl, hF⟩ := hI
                      have hd3 : d 3 = true := dep_of hdep 3 (by kernel_rfl)
                      have hd5 : d 5 = true := dep_of hdep 5 (by kernel_rfl)
                      obtain rfl := hF.out.f3 hd3
                      obtain rfl := hF.out.f5 hd5
                      have hi0 : (0 : Int) ≤ (T : Int) := by omega
                      have hi1 : (T : Int) ≤ ((T + n : Nat) : Int) := by omega
                      have hi2 : (T : Int) ≤ (T : Int) + (n : Int) := by omega
                      have hi3 : (T : Int) + (n : Int) ≤ (rc : Int) := by have := HRC.out; omega
                      have hi4 : ¬ rc = T := by have := HRC.out; have := HTN.out; omega
                      have hi5 : ¬ (rc : Int) = (T : Int) := by omega
                      clear hdep hd hd3 hd5
                      intro K hK
                      simp only [Act.put, List.setIfInBounds_toArray, List.set_cons_zero, List.set_cons_succ]
                      go_simp
                      refine hK.out _ _ ⟨ga, gc, x95, x96, x97, (.slice (some ⟨rn, 0, none⟩) (T + n) rc), x99, (.int .i64 (T : Int)), (.slice (some ⟨rn, T, none⟩) n (rc - T)), x102, x103, by first | (simp only [Act.put, List.setIfInBounds_toArray, List.set_cons_zero, List.set_cons_succ]; done) | (simp only [Act.put, List.setIfInBounds_toArray, List.set_cons_zero, List.set_cons_succ]; rfl), ?_⟩
                      exact ⟨fun h => hF.out.f0 (by simpa using h), fun h => hF.out.f1 (by simpa using h), fun h => hF.out.f2 (by simpa using h), fun h => hF.out.f3 (by simpa using h), fun h => hF.out.f4 (by simpa using h), fun h => hF.out.f5 (by simpa using h), fun _ => rfl, fun h => hF.out.f7 (by simpa using h), fun h => hF.out.f8 (by simpa using h), fun h => hF.out.f9 (by simpa using h), fun i hi h => by have := hF.out.ol i hi (by simpa using h); simp [this], fun h => hF.out.bl (by simpa using h), fun h h2 => hF.out.q7 (by simpa using h) (by simpa using h2), fun h => hF.out.fin (by simpa using h)⟩
                    · intro d a W hI hd hdep
                      obtain ⟨ga, gc, x95, x96, x97, x98, x99, x100, x101, x102, x103, rfl, hF⟩ := hI
                      have hd6 : d 6 = true := dep_of hdep 6 (by kernel_rfl)
                      obtain rfl := hF.out.f6 hd6
                      have HNL : Hid (d 9 = false) := no_later (hF.out.ol 7 (by omega)) hd
                      have hB : Below wr.heap.size wr W := (hF.out.bl HNL.out)
                      have hcall := HCL.out W hB
                      clear hdep hd hd6
                      intro K hK
                      simp only [Act.put, List.setIfInBounds_toArray, List.set_cons_zero, List.set_cons_succ]
                      go_simp
                      refine hcall.mono ?_
                      rintro _ W2 ⟨ga9, gc9, rfl, hgo9, hb9⟩
                      clear hcall
                      go_simp
                      refine hK.out _ _ ⟨ga9, gc9, x95, x96, x97, x98, x99, x100, (.slice (some ⟨rn, T, none⟩) n (rc - T)), (.slice ga9 n gc9), x103, by first | (simp only [Act.put, List.setIfInBounds_toArray, List.set_cons_zero, List.set_cons_succ]; done) | (simp only [Act.put, List.setIfInBounds_toArray, List.set_cons_zero, List.set_cons_succ]; rfl), ?_⟩
                      exact ⟨fun h => hF.out.f0 (by simpa using h), fun h => hF.out.f1 (by simpa using h), fun h => hF.out.f2 (by simpa using h), fun h => hF.out.f3 (by simpa using h), fun h => hF.out.f4 (by simpa using h), fun h => hF.out.f5 (by simpa using h), fun h => hF.out.f6 (by simpa using h), fun _ => rfl, fun h => hF.out.f8 (by simpa using h), fun h => hF.out.f9 (by simpa using h), fun i hi h => by have := hF.out.ol i hi (by simpa using h); simp [this], fun _ => hB.trans ((hb9).mono hB.size), fun _ _ => mv_lower hgo9 hB.size, fun h => by have := HNL.out; simp [this] at h⟩
                    · intro d a W hI hd hdep
                      obtain ⟨ga, gc, x95, x96, x97, x98, x99, x100, x101, x102, x103, rfl, hF⟩ := hI
                      have hd1 : d 1 = true := dep_of hdep 1 (by kernel_rfl)
                      have hd2 : d 2 = true := dep_of hdep 2 (by kernel_rfl)
                      obtain rfl := hF.out.f1 hd1
                      obtain rfl := hF.out.f2 hd2
                      have hi0 : (0 : Int) ≤ (k : Int) := by omega
                      have hi1 : (k : Int) < (S : Int) := by have := HKS.out; omega
                      clear hdep hd hd1 hd2
                      intro K hK
                      simp only [Act.put, List.setIfInBounds_toArray, List.set_cons_zero, List.set_cons_succ]
                      go_simp
                      refine hK.out _ _ ⟨ga, gc, x95, (.slice (some ⟨b2, 0, none⟩) S S), (.int .i64 (k : Int)), x98, x99, x100, x101, x102, (.pointer (some ⟨b2, k, none⟩)), by first | (simp only [Act.put, List.setIfInBounds_toArray, List.set_cons_zero, List.set_cons_succ]; done) | (simp only [Act.put, List.setIfInBounds_toArray, List.set_cons_zero, List.set_cons_succ]; rfl), ?_⟩
                      exact ⟨fun h => hF.out.f0 (by simpa using h), fun h => hF.out.f1 (by simpa using h), fun h => hF.out.f2 (by simpa using h), fun h => hF.out.f3 (by simpa using h), fun h => hF.out.f4 (by simpa using h), fun h => hF.out.f5 (by simpa using h), fun h => hF.out.f6 (by simpa using h), fun h => hF.out.f7 (by simpa using h), fun _ => rfl, fun h => hF.out.f9 (by simpa using h), fun i hi h => by have := hF.out.ol i hi (by simpa using h); simp [this], fun h => hF.out.bl (by simpa using h), fun h h2 => hF.out.q7 (by simpa using h) (by simpa using h2), fun h => hF.out.fin (by simpa using h)⟩
                    · intro d a W hI hd hdep
                      obtain ⟨ga, gc, x95, x96, x97, x98, x99, x100, x101, x102, x103, rfl, hF⟩ := hI
                      have hd8 : d 8 = true := dep_of hdep 8 (by kernel_rfl)
                      have hd7 : d 7 = true := dep_of hdep 7 (by kernel_rfl)
                      have hd0 : d 0 = true := dep_of hdep 0 (by kernel_rfl)
                      have hd1 : d 1 = true := dep_of hdep 1 (by kernel_rfl)
                      have hd2 : d 2 = true := dep_of hdep 2 (by kernel_rfl)
                      have hd3 : d 3 = true := dep_of hdep 3 (by kernel_rfl)
                      have hd4 : d 4 = true := dep_of hdep 4 (by kernel_rfl)
                      have hd5 : d 5 = true := dep_of hdep 5 (by kernel_rfl)
                      have hd6 : d 6 = true := dep_of hdep 6 (by kernel_rfl)
                      obtain rfl := hF.out.f8 hd8
                      obtain rfl := hF.out.f7 hd7
                      obtain rfl := hF.out.f0 hd0
                      obtain rfl := hF.out.f1 hd1
                      obtain rfl := hF.out.f2 hd2
                      obtain rfl := hF.out.f3 hd3
                      obtain rfl := hF.out.f4 hd4
                      obtain rfl := hF.out.f5 hd5
                      obtain rfl := hF.out.f6 hd6
                      have HD : Hid (∀ i, i < 9 → d i = true) := fun i hi => by
                        have : i = 0 ∨ i = 1 ∨ i = 2 ∨ i = 3 ∨ i = 4 ∨ i = 5 ∨ i = 6 ∨ i = 7 ∨ i = 8 := by omega
                        rcases this with rfl | rfl | rfl | rfl | rfl | rfl | rfl | rfl | rfl <;> assumption
                      have HB : Hid (Below wr.heap.size wr W) := hF.out.bl hd
                      have HQ7 := hF.out.q7 hd7 hd
                      have ya : W.cell? ⟨b2, k, none⟩ = some (.slice none 0 0) := (HB.out.cell (p := ⟨b2, k, none⟩) HB2.out.1).trans HB2.out.2.1
                      have yb : W.frozen? ⟨b2, k, none⟩ = false := (HB.out.frozen (p := ⟨b2, k, none⟩) HB2.out.1).trans HB2.out.2.2
                      clear hdep hd hd8 hd7 hd0 hd1 hd2 hd3 hd4 hd5 hd6
                      intro K hK
                      simp only [Act.put, List.setIfInBounds_toArray, List.set_cons_zero, List.set_cons_succ]
                      go_simp
                      refine hK.out _ _ ⟨ga, gc, (.pointer (some ⟨tb, 1, none⟩)), (.slice (some ⟨b2, 0, none⟩) S S), (.int .i64 (k : Int)), (.slice (some ⟨rn, 0, none⟩) (T + n) rc), (.pointer (some ⟨w.heap.size, 0, none⟩)), (.int .i64 (T : Int)), (.slice (some ⟨rn, T, none⟩) n (rc - T)), (.slice ga n gc), (.pointer (some ⟨b2, k, none⟩)), by first | (simp only [Act.put, List.setIfInBounds_toArray, List.set_cons_zero, List.set_cons_succ]; done) | (simp only [Act.put, List.setIfInBounds_toArray, List.set_cons_zero, List.set_cons_succ]; rfl), ?_⟩
                      exact ⟨fun h => hF.out.f0 (by simpa using h), fun h => hF.out.f1 (by simpa using h), fun h => hF.out.f2 (by simpa using h), fun h => hF.out.f3 (by simpa using h), fun h => hF.out.f4 (by simpa using h), fun h => hF.out.f5 (by simpa using h), fun h => hF.out.f6 (by simpa using h), fun h => hF.out.f7 (by simpa using h), fun h => hF.out.f8 (by simpa using h), fun _ => trivial, fun i hi _ => by have := HD.out i hi; simp [this], fun h => by simp at h, fun _ h => by simp at h, fun _ => ⟨W, HB.out, HQ7, rfl⟩⟩
                  · intro d a W hI hall
                    obtain ⟨ga, gc, x95, x96, x97, x98, x99, x100, x101, x102, x103, rfl, hF⟩ := hI
                    simp only [List.length_cons, List.length_nil] at hall
                    obtain rfl := hF.out.f0 (hall 0 (by omega))
                    obtain rfl := hF.out.f1 (hall 1 (by omega))
                    obtain rfl := hF.out.f2 (hall 2 (by omega))
                    obtain rfl := hF.out.f3 (hall 3 (by omega))
                    obtain rfl := hF.out.f4 (hall 4 (by omega))
                    obtain rfl := hF.out.f5 (hall 5 (by omega))
                    obtain rfl := hF.out.f6 (hall 6 (by omega))
                    obtain rfl := hF.out.f7 (hall 7 (by omega))
                    obtain rfl := hF.out.f8 (hall 8 (by omega))
                    obtain ⟨V, v0, v1, rfl⟩ := hF.out.fin (hall 9 (by omega))
                    have HNXT : Hid (∃ rb f2, Lk w T n (.slice po ps.length pc) ps S ab tb b1 b2 (.slice (some ⟨sb, 0, none⟩) S sc) (.slice (some ⟨nb, 0, none⟩) S nc) vs ws ss nx (k + 1) rb (Aq (cdH T ps ss nx) (k + 1) 0) (k + 1) f2 (.slice vo vn vc) (ftN T ps ss nx (k + 1)) (V.setCell ⟨b2, k, none⟩ (.slice ga n gc))) :=
                      ⟨rb, _, (HLE.out.next v0).goto HPD.out HKS.out (mv_lower v1 HLE.out.gb.below.size)⟩
                    clear hF hall v0 v1 HLE HT1 HGT HB2 HCL
                    simp only [Act.put, List.setIfInBounds_toArray, List.set_cons_zero, List.set_cons_succ]
                    generalize V.setCell ⟨b2, k, none⟩ (.slice ga n gc) = w9 at HNXT ⊢
                    go_wp2_with fail
                    go_roundw
                    case rel => exact ⟨k + 1, _, _, _, by have := HKS.out; omega, rfl, by go_num, HNXT.out⟩
                    case measure => have := HKS.out; simp [intOf]; omega
        · obtain rfl : S = k := by omega
          have HLD : Hid (_) := HI.out
          obtain ⟨rb, f2, hl⟩ := HI.out
          have hc0 := mcell_blk hl.tbx 0
          have hc1 := mcell_blk hl.tbx 1
          simp only [List.getElem?_toArray, List.getElem?_cons_zero, List.getElem?_cons_succ] at hc0 hc1
          have a0 := mcell_blk hl.rc 0
          have z0 := mfrozen_blk hl.rc 0
          have hs1 := mblock_store (i := 0) hl.rc (.slice (some ⟨b1, 0, none⟩) S S)
          have z2 := mfrozen_blk hs1 1
          have a2 := mcell_blk hs1 1
          simp at a0 a2
          have hs2 := mblock_store (i := 1) hs1 (.slice (some ⟨b2, 0, none⟩) S S)
          have v0 := mcell_blk hs2 0
          have v1 := mcell_blk hs2 1
          simp at v0 v1
          have hdone := lk_done hl HTN.out.1 HTN.out.2.1 HS2.out.1 HRWL.out HS2.out.2.1 (W' := (wr.setCell ⟨w.heap.size + 1, 0, none⟩ (.slice (some ⟨b1, 0, none⟩) S S)).setCell ⟨w.heap.size + 1, 1, none⟩ (.slice (some ⟨b2, 0, none⟩) S S)) (fun q hq => (mset_ne _ 1 _ hq).trans (mset_ne _ 0 _ hq))
          obtain rfl : vn = (ftN T ps ss nx S).length := by
            rcases hl.fl.2 with ⟨h1, h2⟩ | ⟨q, cap, cur, hv, -⟩
            · cases h1; exact h2.symm
            · cases hv; rfl
          have HFIN : Hid (LrQ w T n ps (.returned (.tuple #[.agg #[.slice (some ⟨b1, 0, none⟩) S S, .slice (some ⟨b2, 0, none⟩) S S], .slice vo (ftN T ps ss nx S).length vc, .int .i64 0])) ((wr.setCell ⟨w.heap.size + 1, 0, none⟩ (.slice (some ⟨b1, 0, none⟩) S S)).setCell ⟨w.heap.size + 1, 1, none⟩ (.slice (some ⟨b2, 0, none⟩) S S))) := by
            refine ⟨(hl.gb.below.setCell (by simp) _).setCell (by simp) _, E, F, V0, R, M, ks, ss, nx, HFA.out, HAU.out, Or.inr ?_⟩
            rw [HSE.out]
            exact ⟨HS2.out.1, HS2.out.2.1, _, _, vo, vc, rfl, hdone.1, hdone.2.1, hdone.2.2⟩
          clear hs1 hs2 hl hdone HI HLD
          go_wp2_with fail
          exact bodyPost_ret (v := .tuple #[.agg #[.slice (some ⟨b1, 0, none⟩) S S, .slice (some ⟨b2, 0, none⟩) S S], .slice vo (ftN T ps ss nx S).length vc, .int .i64 0]) (by simp [results, Try.results20, go_sem, v0, v1]) rfl HFIN.out
end Go.Proofs.Ytpbnnmfjahckmaa
