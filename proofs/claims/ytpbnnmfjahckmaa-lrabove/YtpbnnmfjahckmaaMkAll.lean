/-
  The contract of items.All.
-/
import Derived.Test.YtpbnnmfjahckmaaMkRow
namespace Go.Proofs.Ytpbnnmfjahckmaa
open Go.RowKit
open Cg

def lenAt (w : World) (mb : Nat) : Nat := match w.cell? ⟨mb, 10, none⟩ with
  | some (.slice _ k _) => k
  | _ => 0
theorem ItR.lower {B B' : Nat} {us : List Value} {ls : List (List It)} {W : World} (h : ItR B us ls W) (hb : B' ≤ B) : ItR B' us ls W := fun i l hl => by
  obtain ⟨u, h1, h2⟩ := h i l hl
  exact ⟨u, h1, mv_lower h2 hb⟩
theorem InR.lower {B B' : Nat} {us : List Value} {ls : List (List Int)} {W : World} (h : InR B us ls W) (hb : B' ≤ B) : InR B' us ls W := fun i l hl => by
  obtain ⟨u, h1, h2⟩ := h i l hl
  exact ⟨u, h1, mv_lower h2 hb⟩
/-- What row leaves, the answer aside. -/
def RwP (w0 : World) (mb T n : Nat) (pv : Value) (ps : List Pd) (be bf bw br bm : Nat) (E : Nat → Bool) (F : Nat → Wd) (nv : Value) (ws : List Value) (ks0 ss0 : List (List It)) (nx : List (List Int)) (s : List It) (w : World) (rv : Value) (r : List Int) (w' : World) : Prop :=
  r.length = T + n ∧ w'.ownsRow w.heap.size 3 1 rv r.length (r.map (Value.int .i64)) ∧ ∃ kv sv us vs ks ss, Mk w0 mb (T : Int) (n : Int) pv (.slice (some ⟨be, 0, none⟩) n n) (.slice (some ⟨bf, 0, none⟩) n n) (.slice (some ⟨bw, 0, none⟩) n n) (.slice (some ⟨br, 0, none⟩) n n) (.slice (some ⟨bm, 0, none⟩) n n) kv sv nv us vs ws ks ss nx w' ∧ Rwy T ps E F ks0 ss0 s ks ss r
theorem row_any2 (w0 : World) (mb T n : Nat) (pv : Value) (ps : List Pd) (be bf bw br bm : Nat) (E : Nat → Bool) (F V : Nat → Wd) (R M : Nat → Bool) (kv0 sv0 nv : Value) (us0 vs0 ws : List Value) (ks0 ss0 : List (List It)) (nx : List (List Int)) (w w4 : World) (hb4 : Below w4.heap.size w4 w) (h : Mk w0 mb (T : Int) (n : Int) pv (.slice (some ⟨be, 0, none⟩) n n) (.slice (some ⟨bf, 0, none⟩) n n) (.slice (some ⟨bw, 0, none⟩) n n) (.slice (some ⟨br, 0, none⟩) n n) (.slice (some ⟨bm, 0, none⟩) n n) kv0 sv0 nv us0 vs0 ws ks0 ss0 nx w)
    (hp : Pds w0 pv ps) (hk : chk (T : Int) (n : Int) ps = 0) (hx : Fx n be bf bw br bm E F V R M w0) (hst : Sts T ps E F ks0 ss0) (uv : Value) (s : List It) (hs : s ∈ ss0) (hu : w.ownsRow w0.heap.size 145 3 uv s.length (ics s)) (hfew : ks0.length ≤ 300) :
    Calls Try.prog 73 #[.pointer (some ⟨mb, 0, none⟩), uv] w fun e w' => ∃ rv r, e = .returned rv ∧ RwP w0 mb T n pv ps be bf bw br bm E F nv ws ks0 ss0 nx s w4 rv r w' := by
  refine (row_any w0 mb T n pv ps be bf bw br bm E F V R M kv0 sv0 nv us0 vs0 ws ks0 ss0 nx w h hp hk hx hst uv s hs hu hfew).mono ?_
  rintro _ w' ⟨vv, r, kv, sv, us, vs, ks, ss, rfl, h1, h2, h3, h4⟩
  exact ⟨vv, r, rfl, h1, mv_lower h2 hb4.size, kv, sv, us, vs, ks, ss, h3, h4⟩
/-- What All holds at each round. -/
def AlI (w0 : World) (mb T n : Nat) (pv : Value) (ps : List Pd) (be bf bw br bm : Nat) (E : Nat → Bool) (F : Nat → Wd) (W : World) : Prop :=
  ∃ kv sv nv us vs ws ks ss nx, Mk w0 mb (T : Int) (n : Int) pv (.slice (some ⟨be, 0, none⟩) n n) (.slice (some ⟨bf, 0, none⟩) n n) (.slice (some ⟨bw, 0, none⟩) n n) (.slice (some ⟨br, 0, none⟩) n n) (.slice (some ⟨bm, 0, none⟩) n n) kv sv nv us vs ws ks ss nx W ∧ Auw T n ps E F ks ss nx ∧ ks.length ≤ 260
structure RAl (w0 wr : World) (mb B T n : Nat) (pv : Value) (ps : List Pd) (E : Nat → Bool) (F : Nat → Wd) (be bf bw br bm : Nat) (na : Option Addr) (nn nc : Nat) (ws : List Value) (sb sn sc : Nat) (uo : Option Addr) (un uc : Nat) (s : List It) (ks ss : List (List It)) (nx : List (List Int)) (gb2 : Nat) (gr : Nat) (cr : Nat) (ra : Option Addr) (rn : Nat) (rc : Nat) (rl : List Int) (wc : World) (d : Nat → Bool) (x42 x43 x44 x45 x46 x47 x48 x49 x50 x51 x52 x53 x54 x55 x56 x57 x58 : Value) (W : World) : Prop where
  f0 : d 0 = true → x42 = (.pointer (some ⟨mb, 9, none⟩))
  f1 : d 1 = true → x43 = (.pointer (some ⟨mb, 10, none⟩))
  f2 : d 2 = true → x44 = (.slice na nn nc)
  f3 : d 3 = true → x45 = (.pointer (some ⟨mb, 9, none⟩))
  f4 : d 4 = true → x46 = (.pointer (some ⟨mb, 9, none⟩))
  f5 : d 5 = true → x47 = (.slice (some ⟨sb, 0, none⟩) sn sc)
  f6 : d 6 = true → x48 = (.pointer (some ⟨mb, 9, none⟩))
  f7 : d 7 = true → x49 = (.pointer (some ⟨mb, 10, none⟩))
  f8 : d 8 = true → x50 = (.slice na nn nc)
  f9 : d 9 = true → x51 = (.int .i64 (nn : Int))
  f10 : d 10 = true → x52 = (.pointer (some ⟨sb, nn, none⟩))
  f11 : d 11 = true → x53 = (.slice uo un uc)
  f12 : d 12 = true → x54 = (.slice ra rn rc)
  f13 : d 13 = true → x55 = (.slice (some ⟨gb2, 0, none⟩) 1 1)
  f14 : d 14 = true → x56 = (.slice (some ⟨gr, 0, none⟩) (nn + 1) cr)
  f15 : d 15 = true → x57 = (.pointer (some ⟨mb, 9, none⟩))
  f16 : d 16 = true → x58 = (.pointer (some ⟨mb, 10, none⟩))
  f17 : d 17 = true → True
  ol : ∀ i, i < 17 → d 17 = true → d i = true
  cA : d 14 = true → d 13 = true
  cB : d 13 = true → d 12 = true
  c12 : d 12 = true → d 11 = true
  c11 : d 11 = true → d 10 = true
  c10a : d 10 = true → d 5 = true
  c10b : d 10 = true → d 9 = true
  c9 : d 9 = true → d 8 = true
  cF : d 16 = true → d 15 = true
  pm : d 12 = false → Below wr.heap.size wr W
  qc : d 12 = true → RwP w0 mb T n pv ps be bf bw br bm E F (.slice na nn nc) ws ks ss nx s wr (.slice ra rn rc) rl wc
  qlt : d 12 = true → mb < W.heap.size
  qsz : d 12 = true → B ≤ W.heap.size
  q10 : d 12 = true → d 17 = false → W.cell? ⟨mb, 10, none⟩ = some (.slice na nn nc)
  kp : d 12 = true → d 17 = false → wc.grownBy W (Value.ownBlock (.slice na nn nc))
  r0 : d 12 = true → d 14 = false → W.ownsRow B 29 1 (.slice na nn nc) nn ws
  b0 : d 13 = true → d 14 = false → W.heap[gb2]? = some (.cells #[(.slice ra rn rc)] 29)
  r1 : d 14 = true → d 17 = false → W.ownsRow B 29 1 (.slice (some ⟨gr, 0, none⟩) (nn + 1) cr) (nn + 1) (ws ++ [(.slice ra rn rc)])
  fin : d 17 = true → ∃ V, wc.grownBy V (Value.ownBlock (.slice na nn nc)) ∧ V.ownsRow B 29 1 (.slice (some ⟨gr, 0, none⟩) (nn + 1) cr) (nn + 1) (ws ++ [(.slice ra rn rc)]) ∧ W = V.setCell ⟨mb, 10, none⟩ (.slice (some ⟨gr, 0, none⟩) (nn + 1) cr)

/-- What All leaves. -/
def AlQ (w : World) (T n : Nat) (ps : List Pd) (e : Ending) (w' : World) : Prop :=
  Below w.heap.size w w' ∧ ∃ E F V R M ks ss nx, Fa ps E F V R M ∧ Auw T n ps E F ks ss nx ∧
    ((200 < ks.length ∧ e = .returned (.tuple #[.agg #[.slice none 0 0, .slice none 0 0], .int .i64 8])) ∨
     (ks.length ≤ 200 ∧ nx.length = ks.length ∧ ∃ sa sc na nc vs ws, e = .returned (.tuple #[.agg #[.slice sa ks.length sc, .slice na ks.length nc], .int .i64 0]) ∧ w'.ownsRow w.heap.size 103 1 (.slice sa ks.length sc) ks.length vs ∧ w'.ownsRow w.heap.size 29 1 (.slice na ks.length nc) ks.length ws ∧ ItR w.heap.size vs ss w' ∧ InR w.heap.size ws nx w'))
set_option maxHeartbeats 3200000 in
set_option maxRecDepth 20000 in
theorem All_bad (t n : Int) (pv : Value) (ps : List Pd) (w : World) (hp : Pds w pv ps) (hk : chk t n ps ≠ 0) :
    Calls Try.prog 45 #[.agg #[.int .i64 t, .int .i64 n, pv]] w fun e w' => e = .returned (.tuple #[.agg #[.slice none 0 0, .slice none 0 0], .int .i64 (chk t n ps)]) ∧ Below w.heap.size w w' := by
  obtain ⟨po, pc, rfl⟩ := hp.len
  have hab2 := below_alloc2 w (Obj.cells #[.int .i64 t, .int .i64 n, .slice po ps.length pc] 24) (Obj.cells #[.slice none 0 0, .slice none 0 0] 99)
  have hcall := Of_bad t n _ ps ((w.alloc (Obj.cells #[.int .i64 t, .int .i64 n, .slice po ps.length pc] 24)).alloc (Obj.cells #[.slice none 0 0, .slice none 0 0] 99)) (hp.below hab2) hk
  obtain ⟨r, HR⟩ : ∃ r, Hid (chk t n ps = r) := ⟨_, (rfl : chk t n ps = chk t n ps)⟩
  rw [HR.out] at hcall hk ⊢
  have hk2 : (r != 0) = true := by simpa using hk
  have HRC : Hid (((w.alloc (Obj.cells #[.int .i64 t, .int .i64 n, .slice po ps.length pc] 24)).alloc (Obj.cells #[.slice none 0 0, .slice none 0 0] 99)).heap[w.heap.size + 1]? = some (.cells #[.slice none 0 0, .slice none 0 0] 99)) := by
    show _ = _
    have := heap_alloc_new (w.alloc (Obj.cells #[.int .i64 t, .int .i64 n, .slice po ps.length pc] 24)) (Obj.cells #[.slice none 0 0, .slice none 0 0] 99)
    simpa using this
  have HB2 : Hid (_) := hab2
  clear hab2 hp hk
  go_enter Try.func45, Try.ntmps45
  go_wp2_with fail
  refine hcall.mono ?_
  rintro _ w1 ⟨rfl, hb1⟩
  have HBW : Hid (Below w.heap.size w w1) := HB2.out.trans (hb1.mono HB2.out.size)
  have hrc := mbox_next HRC.out hb1
  have HRC1 : Hid (_) := hrc
  clear hcall hb1 HRC HB2
  have a0 := mcell_blk ((mbox_next hrc (below_alloc w1 (Obj.cells #[.slice none 0 0, .slice none 0 0, .slice none 0 0, .slice none 0 0, .slice none 0 0] 52)))) 0
  have a1 := mcell_blk ((mbox_next hrc (below_alloc w1 (Obj.cells #[.slice none 0 0, .slice none 0 0, .slice none 0 0, .slice none 0 0, .slice none 0 0] 52)))) 1
  have z0 := mfrozen_blk ((mbox_next hrc (below_alloc w1 (Obj.cells #[.slice none 0 0, .slice none 0 0, .slice none 0 0, .slice none 0 0, .slice none 0 0] 52)))) 0
  have z1 := mfrozen_blk ((mbox_next hrc (below_alloc w1 (Obj.cells #[.slice none 0 0, .slice none 0 0, .slice none 0 0, .slice none 0 0, .slice none 0 0] 52)))) 1
  simp only [List.getElem?_toArray, List.getElem?_cons_zero, List.getElem?_cons_succ] at a0 a1
  have HBX : Hid (_) := mbox_next hrc (below_alloc w1 (Obj.cells #[.slice none 0 0, .slice none 0 0, .slice none 0 0, .slice none 0 0, .slice none 0 0] 52))
  have HBY : Hid (_) := HBW.out.trans ((below_alloc w1 (Obj.cells #[.slice none 0 0, .slice none 0 0, .slice none 0 0, .slice none 0 0, .slice none 0 0] 52)).mono HBW.out.size)
  clear hrc
  go_upto_region 2 with fail
  generalize (w1.alloc (Obj.cells #[.slice none 0 0, .slice none 0 0, .slice none 0 0, .slice none 0 0, .slice none 0 0] 52)) = w2 at HBX HBY a0 a1 z0 z1 ⊢
  have hs1 := mblock_store (i := 0) HBX.out (.slice none 0 0)
  have z2 := mfrozen_blk hs1 1
  have a2 := mcell_blk hs1 1
  simp at a2
  have hs2 := mblock_store (i := 1) hs1 (.slice none 0 0)
  have v0 := mcell_blk hs2 0
  have v1 := mcell_blk hs2 1
  simp at v0 v1
  have HFIN : Hid (Below w.heap.size w ((w2.setCell ⟨w.heap.size + 1, 0, none⟩ (.slice none 0 0)).setCell ⟨w.heap.size + 1, 1, none⟩ (.slice none 0 0))) := (HBY.out.setCell (by simp) _).setCell (by simp) _
  clear hs1 hs2
  go_wp2_with fail
  exact bodyPost_ret (v := .tuple #[.agg #[(.slice none 0 0), (.slice none 0 0)], .int .i64 r]) (by simp [results, Try.results45, go_sem, v0, v1]) rfl ⟨rfl, HFIN.out⟩
set_option maxHeartbeats 16000000 in
set_option maxRecDepth 20000 in
theorem All_ok (T n : Nat) (pv : Value) (ps : List Pd) (w : World) (hp : Pds w pv ps) (hk : chk (T : Int) (n : Int) ps = 0) :
    Calls Try.prog 45 #[.agg #[.int .i64 (T : Int), .int .i64 (n : Int), pv]] w fun e w' => AlQ w T n ps e w' := by
  obtain ⟨i1, hi1, hy0, hy1, hy2⟩ := minfo_parts info29
  have HK : Hid (chk (T : Int) (n : Int) ps = 0) := hk
  have HTN : Hid (T ≤ 30 ∧ n ≤ 20) := by have := okTN_le (chk_zero hk).1; exact ⟨by omega, by omega⟩
  obtain ⟨po, pc, rfl⟩ := hp.len
  have HGB := Gb.box hp (T : Int) (n : Int)
  have hab2 := below_alloc2 w (Obj.cells #[.int .i64 (T : Int), .int .i64 (n : Int), .slice po ps.length pc] 24) (Obj.cells #[.slice none 0 0, .slice none 0 0] 99)
  have hcall := Of_ok (T : Int) n _ ps ((w.alloc (Obj.cells #[.int .i64 (T : Int), .int .i64 (n : Int), .slice po ps.length pc] 24)).alloc (Obj.cells #[.slice none 0 0, .slice none 0 0] 99)) (hp.below hab2) hk
  have HGA : Hid (Gb w w.heap.size (T : Int) (n : Int) (.slice po ps.length pc) ps ((w.alloc (Obj.cells #[.int .i64 (T : Int), .int .i64 (n : Int), .slice po ps.length pc] 24)).alloc (Obj.cells #[.slice none 0 0, .slice none 0 0] 99))) := HGB.next (below_alloc _ _)
  have HRC : Hid (((w.alloc (Obj.cells #[.int .i64 (T : Int), .int .i64 (n : Int), .slice po ps.length pc] 24)).alloc (Obj.cells #[.slice none 0 0, .slice none 0 0] 99)).heap[w.heap.size + 1]? = some (.cells #[.slice none 0 0, .slice none 0 0] 99)) := by
    show _ = _
    have := heap_alloc_new (w.alloc (Obj.cells #[.int .i64 (T : Int), .int .i64 (n : Int), .slice po ps.length pc] 24)) (Obj.cells #[.slice none 0 0, .slice none 0 0] 99)
    simpa using this
  clear hab2 hp hk HGB
  go_enter Try.func45, Try.ntmps45
  go_wp2_with fail
  refine hcall.mono ?_
  rintro _ w1 ⟨be, bf, bw, br, bm, rfl, hb1, E, F, V, R, M, hfx, hfa⟩
  have HFA : Hid (Fa ps E F V R M) := hfa
  have HG1 : Hid (_) := HGA.out.next hb1
  have HRC1 : Hid (_) := mbox_next HRC.out hb1
  have hbf := below_alloc w1 (Obj.cells #[.slice (some ⟨be, 0, none⟩) n n, .slice (some ⟨bf, 0, none⟩) n n, .slice (some ⟨bw, 0, none⟩) n n, .slice (some ⟨br, 0, none⟩) n n, .slice (some ⟨bm, 0, none⟩) n n] 52)
  have HG2 : Hid (_) := HG1.out.next hbf
  have HRC2 : Hid (_) := mbox_next HRC1.out hbf
  have HFX : Hid (_) := hfx.next hbf
  have HFB : Hid (_) := heap_alloc_new w1 (Obj.cells #[.slice (some ⟨be, 0, none⟩) n n, .slice (some ⟨bf, 0, none⟩) n n, .slice (some ⟨bw, 0, none⟩) n n, .slice (some ⟨br, 0, none⟩) n n, .slice (some ⟨bm, 0, none⟩) n n] 52)
  clear hcall hb1 hfx hfa HGA HRC HG1 HRC1 hbf
  go_upto_region 4 with fail
  obtain ⟨fb, HFBE⟩ : ∃ z, Hid (w1.heap.size = z) := ⟨_, (rfl : w1.heap.size = _)⟩
  obtain ⟨w0, HW0⟩ : ∃ z, Hid (w1.alloc (Obj.cells #[.slice (some ⟨be, 0, none⟩) n n, .slice (some ⟨bf, 0, none⟩) n n, .slice (some ⟨bw, 0, none⟩) n n, .slice (some ⟨br, 0, none⟩) n n, .slice (some ⟨bm, 0, none⟩) n n] 52) = z) := ⟨_, (rfl : w1.alloc _ = _)⟩
  rw [HW0.out] at HG2 HRC2 HFX HFB ⊢
  rw [HFBE.out] at HFB ⊢
  clear HW0 HFBE
  have g0 := HG2.out.c0
  have g1 := HG2.out.c1
  have g2 := HG2.out.c2
  have f0 := mcell_blk HFB.out 0
  have f1 := mcell_blk HFB.out 1
  have f2 := mcell_blk HFB.out 2
  have f3 := mcell_blk HFB.out 3
  have f4 := mcell_blk HFB.out 4
  simp only [List.getElem?_toArray, List.getElem?_cons_zero, List.getElem?_cons_succ] at f0 f1 f2 f3 f4
  have HM0 : Hid (Mk w0 w0.heap.size (T : Int) (n : Int) (.slice po ps.length pc) (.slice (some ⟨be, 0, none⟩) n n) (.slice (some ⟨bf, 0, none⟩) n n) (.slice (some ⟨bw, 0, none⟩) n n) (.slice (some ⟨br, 0, none⟩) n n) (.slice (some ⟨bm, 0, none⟩) n n) (.slice none 0 0) (.slice none 0 0) (.slice none 0 0) [] [] [] [] [] [] (w0.alloc (Obj.cells #[.int .i64 (T : Int), .int .i64 (n : Int), .slice po ps.length pc, .slice (some ⟨be, 0, none⟩) n n, .slice (some ⟨bf, 0, none⟩) n n, .slice (some ⟨bw, 0, none⟩) n n, .slice (some ⟨br, 0, none⟩) n n, .slice (some ⟨bm, 0, none⟩) n n, .slice none 0 0, .slice none 0 0, .slice none 0 0] 141))) :=
    ⟨below_alloc _ _, Nat.le_refl _, heap_alloc_new _ _, World.ownsRow_nil _ _ _ _, World.ownsRow_nil _ _ _ _, World.ownsRow_nil _ _ _ _, fun q hq => by simp [Value.ownBlock] at hq, fun i l hl => by simp at hl, fun i l hl => by simp at hl, fun i l hl => by simp at hl⟩
  have HG3 : Hid (_) := HG2.out.next (below_alloc w0 (Obj.cells #[.int .i64 (T : Int), .int .i64 (n : Int), .slice po ps.length pc, .slice (some ⟨be, 0, none⟩) n n, .slice (some ⟨bf, 0, none⟩) n n, .slice (some ⟨bw, 0, none⟩) n n, .slice (some ⟨br, 0, none⟩) n n, .slice (some ⟨bm, 0, none⟩) n n, .slice none 0 0, .slice none 0 0, .slice none 0 0] 141))
  go_upto_region 5 with fail
  obtain ⟨mb, HMBE⟩ : ∃ z, Hid (w0.heap.size = z) := ⟨_, (rfl : w0.heap.size = _)⟩
  obtain ⟨w2, HW2⟩ : ∃ z, Hid (w0.alloc (Obj.cells #[.int .i64 (T : Int), .int .i64 (n : Int), .slice po ps.length pc, .slice (some ⟨be, 0, none⟩) n n, .slice (some ⟨bf, 0, none⟩) n n, .slice (some ⟨bw, 0, none⟩) n n, .slice (some ⟨br, 0, none⟩) n n, .slice (some ⟨bm, 0, none⟩) n n, .slice none 0 0, .slice none 0 0, .slice none 0 0] 141) = z) := ⟨_, (rfl : w0.alloc _ = _)⟩
  rw [HW2.out] at HM0 HG3 ⊢
  have HM1 : Hid (Mk w0 mb (T : Int) (n : Int) (.slice po ps.length pc) (.slice (some ⟨be, 0, none⟩) n n) (.slice (some ⟨bf, 0, none⟩) n n) (.slice (some ⟨bw, 0, none⟩) n n) (.slice (some ⟨br, 0, none⟩) n n) (.slice (some ⟨bm, 0, none⟩) n n) (.slice none 0 0) (.slice none 0 0) (.slice none 0 0) [] [] [] [] [] [] w2) := by
    have h0 := HM0.out
    have h1 := h0.bx
    rw [HMBE.out] at h1
    exact ⟨h0.bw, Nat.le_of_eq HMBE.out, h1, h0.kr, h0.sr, h0.nr, h0.ne, h0.ki, h0.si, h0.ni⟩
  rw [HMBE.out]
  clear HM0 HW2 g0 g1 g2 f0 f1 f2 f3 f4
  have hlt := HG3.out.lt
  have k0 : ∀ p : Kp (Sb w2), p.W.cell? ⟨w.heap.size, 0, none⟩ = some (.int .i64 (T : Int)) := fun p => (Below.cell (w := w2) p.h (p := ⟨w.heap.size, 0, none⟩) hlt).trans HG3.out.c0
  have k1 : ∀ p : Kp (Sb w2), p.W.cell? ⟨w.heap.size, 1, none⟩ = some (.int .i64 (n : Int)) := fun p => (Below.cell (w := w2) p.h (p := ⟨w.heap.size, 1, none⟩) hlt).trans HG3.out.c1
  have k2 : ∀ p : Kp (Sb w2), p.W.cell? ⟨w.heap.size, 2, none⟩ = some (.slice po ps.length pc) := fun p => (Below.cell (w := w2) p.h (p := ⟨w.heap.size, 2, none⟩) hlt).trans HG3.out.c2
  have HC1 : Hid (∀ p : Kp (Sb w2), Calls Try.prog 72 #[.agg #[.int .i64 (T : Int), .int .i64 (n : Int), .slice po ps.length pc]] p.W fun e w'' => e = .returned (.int .i64 (ps.length : Int)) ∧ ∃ q : Kp (Sb w2), w'' = q.W) := fun p => Kp.calls p Sb.next (whole_any _ _ _ _ _ _)
  have hne : Nonempty (Kp (Sb w2)) := ⟨⟨_, Sb.drew w2⟩⟩
  refine wp_region_chain (S := Sb w2) [_, _, _, _, _] [_, _] mixed (by kernel_rfl) (Sb.drew w2) ?_
  simp only [List.cons_append, List.nil_append]
  repeat (go_big_quiet_step (first | (go_at_call 72; with_reducible exact HC1.out _)))
  refine wpQuiet_nil ?_
  intro p
  have HB3 : Hid (Below w2.heap.size w2 p.W) := p.h
  generalize p.W = w3 at HB3 ⊢
  clear p k0 k1 k2 HC1 hne
  have HM3 : Hid (_) := (HM1.out.next HB3.out).next (below_alloc w3 (Obj.cells #[.int .i64 (ps.length : Int), .int .i64 0, .int .i64 (T : Int)] 145))
  have HU3 : Hid ((w3.alloc (Obj.cells #[.int .i64 (ps.length : Int), .int .i64 0, .int .i64 (T : Int)] 145)).ownsRow w0.heap.size 145 3 (.slice (some ⟨w3.heap.size, 0, none⟩) 1 1) [((ps.length, 0, T) : It)].length (ics [(ps.length, 0, T)])) := by
    refine ⟨by simp [ics], Or.inr ⟨w3.heap.size, 1, _, rfl, ?_, heap_alloc_new _ _, by simp, by unfold maxLen; omega, rfl, by simp [ics]⟩⟩
    exact Nat.le_trans HM1.out.bw.size HB3.out.size
  have HPD0 : Hid (Pds w0 (.slice po ps.length pc) ps) := HG2.out.pds
  have hcall2 := number_any w0 mb T n _ ps be bf bw br bm E F V R M _ _ _ _ _ _ [] [] [] _ HM3.out HPD0.out HK.out HFX.out _ [(ps.length, 0, T)] HU3.out (fun x hx => by simp at hx; subst hx; exact ⟨Nat.le_refl _, Nat.zero_le _, Nat.le_refl _⟩) (by simp) rfl
  clear HM3 HU3 HM1
  go_wp2_with fail
  refine hcall2.mono ?_
  rintro _ w4 ⟨z, kv, sv, us, vs, ks, ss, rfl, ⟨hto, hnm⟩, hmk, -, -, -⟩
  have HAL : Hid (AlI w0 mb T n (.slice po ps.length pc) ps be bf bw br bm E F w4) := by
    rcases hnm with ⟨h1, h2⟩ | ⟨h1, h2, h3, r, h4, h5⟩
    · exfalso
      subst h1
      rcases hto with ⟨a, -⟩ | ⟨-, i, -, a⟩
      · simp at a
      · simp at a
    · have e1 : ks = [[(ps.length, 0, T)]] := by rw [h3]; rfl
      have e2 : ss = [r] := by rw [h4]; rfl
      subst e1 e2
      exact ⟨kv, sv, _, us, vs, _, _, _, _, hmk, ⟨Sts.start h5, by simp, fun i r hi => by simp at hi⟩, by simp⟩
  clear hcall2 hto hnm hmk HG3 HB3
  go_wp2_with fail
  go_loopw [29] (fun _ wr => AlI w0 mb T n (.slice po ps.length pc) ps be bf bw br bm E F wr) (fun _ wr => 300 - lenAt wr mb)
  case atStart => exact HAL.out
  case round =>
    obtain ⟨w4, rfl⟩ : ∃ k, k = wr := ⟨_, rfl⟩
    have HI : Hid (_) := hrel
    clear hrel HAL
    obtain ⟨kv, sv, nv, us, vs, ws, ks, ss, nx, hmk, hau, hfew⟩ := HI.out
    have HMK : Hid (_) := hmk
    have HAU : Hid (_) := hau
    have HFEW : Hid (ks.length ≤ 260) := hfew
    have HSK : Hid (ss.length = ks.length) := hau.st.len
    obtain ⟨sa, sq, sc, rfl⟩ := own_form hmk.sr
    obtain rfl : sq = ss.length := by
      rcases hmk.sr.2 with ⟨h1, h2⟩ | ⟨q, cap, cur, hv, -⟩
      · cases h1; exact h2.symm
      · cases hv; rfl
    obtain ⟨na, nq, nc, rfl⟩ := own_form hmk.nr
    obtain rfl : nq = nx.length := by
      rcases hmk.nr.2 with ⟨h1, h2⟩ | ⟨q, cap, cur, hv, -⟩
      · cases h1; exact h2.symm
      · cases hv; rfl
    have c9 := mcell_blk hmk.bx 9
    have c10 := mcell_blk hmk.bx 10
    simp only [List.getElem?_toArray, List.getElem?_cons_zero, List.getElem?_cons_succ] at c9 c10
    clear HI hmk hau hfew
    by_cases hlt : nx.length < ss.length
    · by_cases hle : ss.length ≤ 200
      · have hd1 : decide (nx.length < ss.length) = true := by simpa using hlt
        have hd2 : decide ((nx.length : Int) < (ss.length : Int)) = true := by simpa using hlt
        have hk1 : (nx.length : Int) < (ss.length : Int) := by omega
        have hk2 : (ss.length : Int) ≤ 200 := by omega
        go_upto_region 7 with fail
        have HMB : Hid (mb < w4.heap.size ∧ True) := ⟨mheap_lt HMK.out.bx, trivial⟩
        have HC9 : Hid (_) := c9
        have HC10 : Hid (_) := c10
        have HNM : Hid ((Value.slice na nx.length nc).ownBlock ≠ some mb) := mown_box HMK.out.nr HMK.out.bx (by decide)
        have HBW : Hid (w0.heap.size ≤ w4.heap.size) := HMK.out.bw.size
        have HBOUND : Hid (nx.length ≤ 200 ∧ ks.length ≤ 200) := by have := HSK.out; exact ⟨by omega, by omega⟩
        have HNS : Hid (nx.length < ss.length) := hlt
        obtain ⟨sb, rfl⟩ : ∃ sb, sa = some ⟨sb, 0, none⟩ := by
          obtain ⟨fb, fcap, hfe⟩ := Go.Joins.ownsRow_form HMK.out.sr (by omega)
          cases hfe; exact ⟨fb, rfl⟩
        obtain ⟨s, HSS⟩ : ∃ s, Hid (ss[nx.length]? = some s) := ⟨_, (List.getElem?_eq_getElem hlt : ss[nx.length]? = some ss[nx.length])⟩
        obtain ⟨uv, hu1, hu2⟩ := HMK.out.si nx.length s HSS.out
        obtain ⟨uo, un, uc, rfl⟩ := own_form hu2
        have hca := HMK.out.sr.cells (g := sb) rfl nx.length _ hu1
        rw [Addr.add_lit, Nat.zero_add] at hca
        have HSB : Hid (sb < w4.heap.size ∧ w4.cell? ⟨sb, nx.length, none⟩ = some (.slice uo un uc)) := ⟨(HMK.out.sr.lt sb rfl).2, hca⟩
        have HLA : Hid (lenAt w4 mb = nx.length) := by
          show _ = _
          unfold lenAt; rw [HC10.out]
        have HCL : Hid (∀ W, Below w4.heap.size w4 W → Calls Try.prog 73 #[.pointer (some ⟨mb, 0, none⟩), .slice uo un uc] W fun e w' => ∃ rv r, e = .returned rv ∧ RwP w0 mb T n (.slice po ps.length pc) ps be bf bw br bm E F (.slice na nx.length nc) ws ks ss nx s w4 rv r w') := fun W hW =>
          row_any2 w0 mb T n _ ps be bf bw br bm E F V R M _ _ _ us vs ws ks ss nx W w4 hW (HMK.out.next hW) HPD0.out HK.out HFX.out HAU.out.st _ s (List.mem_of_getElem? HSS.out) (own_below hu2 hW) (by have := HFEW.out; omega)
        clear hu1 hu2 hca c9 c10 hd1 hd2 hk1 hk2 hlt hle HMK
        refine wp_region_free mixed (fun a0 d a W => ∃ (gb2 : Nat) (gr : Nat) (cr : Nat) (ra : Option Addr) (rn : Nat) (rc : Nat) (rl : List Int) (wc : World) (x42 x43 x44 x45 x46 x47 x48 x49 x50 x51 x52 x53 x54 x55 x56 x57 x58 : Value), a = (((((((((((((((((a0.put (some 42) x42).put (some 43) x43).put (some 44) x44).put (some 45) x45).put (some 46) x46).put (some 47) x47).put (some 48) x48).put (some 49) x49).put (some 50) x50).put (some 51) x51).put (some 52) x52).put (some 53) x53).put (some 54) x54).put (some 55) x55).put (some 56) x56).put (some 57) x57).put (some 58) x58) ∧ Hid (RAl w0 w4 mb w0.heap.size T n (.slice po ps.length pc) ps E F be bf bw br bm na nx.length nc ws sb ss.length sc uo un uc s ks ss nx gb2 gr cr ra rn rc rl wc d x42 x43 x44 x45 x46 x47 x48 x49 x50 x51 x52 x53 x54 x55 x56 x57 x58 W)) (by kernel_rfl) ⟨0, 0, 0, none, 0, 0, [], w4, u42, u43, u44, u45, u46, u47, u48, u49, u50, u51, u52, u53, u54, u55, u56, u57, u58, by first | (simp only [Act.put, List.setIfInBounds_toArray, List.set_cons_zero, List.set_cons_succ]; done) | (simp only [Act.put, List.setIfInBounds_toArray, List.set_cons_zero, List.set_cons_succ]; rfl), ?_⟩ ?_ ?_
        · exact ⟨fun h => no_way h, fun h => no_way h, fun h => no_way h, fun h => no_way h, fun h => no_way h, fun h => no_way h, fun h => no_way h, fun h => no_way h, fun h => no_way h, fun h => no_way h, fun h => no_way h, fun h => no_way h, fun h => no_way h, fun h => no_way h, fun h => no_way h, fun h => no_way h, fun h => no_way h, fun _ => trivial, fun _ _ h => no_way h, fun h => no_way h, fun h => no_way h, fun h => no_way h, fun h => no_way h, fun h => no_way h, fun h => no_way h, fun h => no_way h, fun h => no_way h, fun _ => (Below.refl _ _).drew, fun h => no_way h, fun h => no_way h, fun h => no_way h, fun h => no_way h, fun h => no_way h, fun h => no_way h, fun h => no_way h, fun h => no_way h, fun h => no_way h⟩
        · simp only [StepAll, and_true]
          refine ⟨?_, ?_, ?_, ?_, ?_, ?_, ?_, ?_, ?_, ?_, ?_, ?_, ?_, ?_, ?_, ?_, ?_, ?_⟩
          · intro d a W hI hd hdep
            obtain ⟨gb2, gr, cr, ra, rn, rc, rl, wc, x42, x43, x44, x45, x46, x47, x48, x49, x50, x51, x52, x53, x54, x55, x56, x57, x58, rfl, hF⟩ := hI
            clear hdep hd
            intro K hK
            simp only [Act.put, List.setIfInBounds_toArray, List.set_cons_zero, List.set_cons_succ]
            go_simp
            refine hK.out _ _ ⟨gb2, gr, cr, ra, rn, rc, rl, wc, (.pointer (some ⟨mb, 9, none⟩)), x43, x44, x45, x46, x47, x48, x49, x50, x51, x52, x53, x54, x55, x56, x57, x58, by first | (simp only [Act.put, List.setIfInBounds_toArray, List.set_cons_zero, List.set_cons_succ]; done) | (simp only [Act.put, List.setIfInBounds_toArray, List.set_cons_zero, List.set_cons_succ]; rfl), ?_⟩
            exact ⟨fun _ => rfl, fun h => hF.out.f1 (by simpa using h), fun h => hF.out.f2 (by simpa using h), fun h => hF.out.f3 (by simpa using h), fun h => hF.out.f4 (by simpa using h), fun h => hF.out.f5 (by simpa using h), fun h => hF.out.f6 (by simpa using h), fun h => hF.out.f7 (by simpa using h), fun h => hF.out.f8 (by simpa using h), fun h => hF.out.f9 (by simpa using h), fun h => hF.out.f10 (by simpa using h), fun h => hF.out.f11 (by simpa using h), fun h => hF.out.f12 (by simpa using h), fun h => hF.out.f13 (by simpa using h), fun h => hF.out.f14 (by simpa using h), fun h => hF.out.f15 (by simpa using h), fun h => hF.out.f16 (by simpa using h), fun h => hF.out.f17 (by simpa using h), fun i hi h => by have := hF.out.ol i hi (by simpa using h); simp [this], fun h => by have := hF.out.cA (by simpa using h); simpa using this, fun h => by have := hF.out.cB (by simpa using h); simpa using this, fun h => by have := hF.out.c12 (by simpa using h); simpa using this, fun h => by have := hF.out.c11 (by simpa using h); simpa using this, fun h => by have := hF.out.c10a (by simpa using h); simpa using this, fun h => by have := hF.out.c10b (by simpa using h); simpa using this, fun h => by have := hF.out.c9 (by simpa using h); simpa using this, fun h => by have := hF.out.cF (by simpa using h); simpa using this, fun h => hF.out.pm (by simpa using h), fun h => hF.out.qc (by simpa using h), fun h => hF.out.qlt (by simpa using h), fun h => hF.out.qsz (by simpa using h), fun h h2 => hF.out.q10 (by simpa using h) (by simpa using h2), fun h h2 => hF.out.kp (by simpa using h) (by simpa using h2), fun h h2 => hF.out.r0 (by simpa using h) (by simpa using h2), fun h h2 => hF.out.b0 (by simpa using h) (by simpa using h2), fun h h2 => hF.out.r1 (by simpa using h) (by simpa using h2), fun h => hF.out.fin (by simpa using h)⟩
          · intro d a W hI hd hdep
            obtain ⟨gb2, gr, cr, ra, rn, rc, rl, wc, x42, x43, x44, x45, x46, x47, x48, x49, x50, x51, x52, x53, x54, x55, x56, x57, x58, rfl, hF⟩ := hI
            have hd0 : d 0 = true := dep_of hdep 0 (by kernel_rfl)
            obtain rfl := hF.out.f0 hd0
            clear hdep hd hd0
            intro K hK
            simp only [Act.put, List.setIfInBounds_toArray, List.set_cons_zero, List.set_cons_succ]
            go_simp
            refine hK.out _ _ ⟨gb2, gr, cr, ra, rn, rc, rl, wc, (.pointer (some ⟨mb, 9, none⟩)), (.pointer (some ⟨mb, 10, none⟩)), x44, x45, x46, x47, x48, x49, x50, x51, x52, x53, x54, x55, x56, x57, x58, by first | (simp only [Act.put, List.setIfInBounds_toArray, List.set_cons_zero, List.set_cons_succ]; done) | (simp only [Act.put, List.setIfInBounds_toArray, List.set_cons_zero, List.set_cons_succ]; rfl), ?_⟩
            exact ⟨fun h => hF.out.f0 (by simpa using h), fun _ => rfl, fun h => hF.out.f2 (by simpa using h), fun h => hF.out.f3 (by simpa using h), fun h => hF.out.f4 (by simpa using h), fun h => hF.out.f5 (by simpa using h), fun h => hF.out.f6 (by simpa using h), fun h => hF.out.f7 (by simpa using h), fun h => hF.out.f8 (by simpa using h), fun h => hF.out.f9 (by simpa using h), fun h => hF.out.f10 (by simpa using h), fun h => hF.out.f11 (by simpa using h), fun h => hF.out.f12 (by simpa using h), fun h => hF.out.f13 (by simpa using h), fun h => hF.out.f14 (by simpa using h), fun h => hF.out.f15 (by simpa using h), fun h => hF.out.f16 (by simpa using h), fun h => hF.out.f17 (by simpa using h), fun i hi h => by have := hF.out.ol i hi (by simpa using h); simp [this], fun h => by have := hF.out.cA (by simpa using h); simpa using this, fun h => by have := hF.out.cB (by simpa using h); simpa using this, fun h => by have := hF.out.c12 (by simpa using h); simpa using this, fun h => by have := hF.out.c11 (by simpa using h); simpa using this, fun h => by have := hF.out.c10a (by simpa using h); simpa using this, fun h => by have := hF.out.c10b (by simpa using h); simpa using this, fun h => by have := hF.out.c9 (by simpa using h); simpa using this, fun h => by have := hF.out.cF (by simpa using h); simpa using this, fun h => hF.out.pm (by simpa using h), fun h => hF.out.qc (by simpa using h), fun h => hF.out.qlt (by simpa using h), fun h => hF.out.qsz (by simpa using h), fun h h2 => hF.out.q10 (by simpa using h) (by simpa using h2), fun h h2 => hF.out.kp (by simpa using h) (by simpa using h2), fun h h2 => hF.out.r0 (by simpa using h) (by simpa using h2), fun h h2 => hF.out.b0 (by simpa using h) (by simpa using h2), fun h h2 => hF.out.r1 (by simpa using h) (by simpa using h2), fun h => hF.out.fin (by simpa using h)⟩
          · intro d a W hI hd hdep
            obtain ⟨gb2, gr, cr, ra, rn, rc, rl, wc, x42, x43, x44, x45, x46, x47, x48, x49, x50, x51, x52, x53, x54, x55, x56, x57, x58, rfl, hF⟩ := hI
            have hd1 : d 1 = true := dep_of hdep 1 (by kernel_rfl)
            obtain rfl := hF.out.f1 hd1
            have HNL : Hid (d 17 = false) := no_later (hF.out.ol 2 (by omega)) hd
            have ya : W.cell? ⟨mb, 10, none⟩ = some (.slice na nx.length nc) := by
              cases e12 : d 12 with
              | false => exact ((hF.out.pm e12).cell (p := ⟨mb, 10, none⟩) HMB.out.1).trans HC10.out
              | true => exact hF.out.q10 e12 HNL.out
            clear hdep hd hd1
            intro K hK
            simp only [Act.put, List.setIfInBounds_toArray, List.set_cons_zero, List.set_cons_succ]
            go_simp
            refine hK.out _ _ ⟨gb2, gr, cr, ra, rn, rc, rl, wc, x42, (.pointer (some ⟨mb, 10, none⟩)), (.slice na nx.length nc), x45, x46, x47, x48, x49, x50, x51, x52, x53, x54, x55, x56, x57, x58, by first | (simp only [Act.put, List.setIfInBounds_toArray, List.set_cons_zero, List.set_cons_succ]; done) | (simp only [Act.put, List.setIfInBounds_toArray, List.set_cons_zero, List.set_cons_succ]; rfl), ?_⟩
            exact ⟨fun h => hF.out.f0 (by simpa using h), fun h => hF.out.f1 (by simpa using h), fun _ => rfl, fun h => hF.out.f3 (by simpa using h), fun h => hF.out.f4 (by simpa using h), fun h => hF.out.f5 (by simpa using h), fun h => hF.out.f6 (by simpa using h), fun h => hF.out.f7 (by simpa using h), fun h => hF.out.f8 (by simpa using h), fun h => hF.out.f9 (by simpa using h), fun h => hF.out.f10 (by simpa using h), fun h => hF.out.f11 (by simpa using h), fun h => hF.out.f12 (by simpa using h), fun h => hF.out.f13 (by simpa using h), fun h => hF.out.f14 (by simpa using h), fun h => hF.out.f15 (by simpa using h), fun h => hF.out.f16 (by simpa using h), fun h => hF.out.f17 (by simpa using h), fun i hi h => by have := hF.out.ol i hi (by simpa using h); simp [this], fun h => by have := hF.out.cA (by simpa using h); simpa using this, fun h => by have := hF.out.cB (by simpa using h); simpa using this, fun h => by have := hF.out.c12 (by simpa using h); simpa using this, fun h => by have := hF.out.c11 (by simpa using h); simpa using this, fun h => by have := hF.out.c10a (by simpa using h); simpa using this, fun h => by have := hF.out.c10b (by simpa using h); simpa using this, fun h => by have := hF.out.c9 (by simpa using h); simpa using this, fun h => by have := hF.out.cF (by simpa using h); simpa using this, fun h => hF.out.pm (by simpa using h), fun h => hF.out.qc (by simpa using h), fun h => hF.out.qlt (by simpa using h), fun h => hF.out.qsz (by simpa using h), fun h h2 => hF.out.q10 (by simpa using h) (by simpa using h2), fun h h2 => hF.out.kp (by simpa using h) (by simpa using h2), fun h h2 => hF.out.r0 (by simpa using h) (by simpa using h2), fun h h2 => hF.out.b0 (by simpa using h) (by simpa using h2), fun h h2 => hF.out.r1 (by simpa using h) (by simpa using h2), fun h => hF.out.fin (by simpa using h)⟩
          · intro d a W hI hd hdep
            obtain ⟨gb2, gr, cr, ra, rn, rc, rl, wc, x42, x43, x44, x45, x46, x47, x48, x49, x50, x51, x52, x53, x54, x55, x56, x57, x58, rfl, hF⟩ := hI
            clear hdep hd
            intro K hK
            simp only [Act.put, List.setIfInBounds_toArray, List.set_cons_zero, List.set_cons_succ]
            go_simp
            refine hK.out _ _ ⟨gb2, gr, cr, ra, rn, rc, rl, wc, x42, x43, x44, (.pointer (some ⟨mb, 9, none⟩)), x46, x47, x48, x49, x50, x51, x52, x53, x54, x55, x56, x57, x58, by first | (simp only [Act.put, List.setIfInBounds_toArray, List.set_cons_zero, List.set_cons_succ]; done) | (simp only [Act.put, List.setIfInBounds_toArray, List.set_cons_zero, List.set_cons_succ]; rfl), ?_⟩
            exact ⟨fun h => hF.out.f0 (by simpa using h), fun h => hF.out.f1 (by simpa using h), fun h => hF.out.f2 (by simpa using h), fun _ => rfl, fun h => hF.out.f4 (by simpa using h), fun h => hF.out.f5 (by simpa using h), fun h => hF.out.f6 (by simpa using h), fun h => hF.out.f7 (by simpa using h), fun h => hF.out.f8 (by simpa using h), fun h => hF.out.f9 (by simpa using h), fun h => hF.out.f10 (by simpa using h), fun h => hF.out.f11 (by simpa using h), fun h => hF.out.f12 (by simpa using h), fun h => hF.out.f13 (by simpa using h), fun h => hF.out.f14 (by simpa using h), fun h => hF.out.f15 (by simpa using h), fun h => hF.out.f16 (by simpa using h), fun h => hF.out.f17 (by simpa using h), fun i hi h => by have := hF.out.ol i hi (by simpa using h); simp [this], fun h => by have := hF.out.cA (by simpa using h); simpa using this, fun h => by have := hF.out.cB (by simpa using h); simpa using this, fun h => by have := hF.out.c12 (by simpa using h); simpa using this, fun h => by have := hF.out.c11 (by simpa using h); simpa using this, fun h => by have := hF.out.c10a (by simpa using h); simpa using this, fun h => by have := hF.out.c10b (by simpa using h); simpa using this, fun h => by have := hF.out.c9 (by simpa using h); simpa using this, fun h => by have := hF.out.cF (by simpa using h); simpa using this, fun h => hF.out.pm (by simpa using h), fun h => hF.out.qc (by simpa using h), fun h => hF.out.qlt (by simpa using h), fun h => hF.out.qsz (by simpa using h), fun h h2 => hF.out.q10 (by simpa using h) (by simpa using h2), fun h h2 => hF.out.kp (by simpa using h) (by simpa using h2), fun h h2 => hF.out.r0 (by simpa using h) (by simpa using h2), fun h h2 => hF.out.b0 (by simpa using h) (by simpa using h2), fun h h2 => hF.out.r1 (by simpa using h) (by simpa using h2), fun h => hF.out.fin (by simpa using h)⟩
          · intro d a W hI hd hdep
            obtain ⟨gb2, gr, cr, ra, rn, rc, rl, wc, x42, x43, x44, x45, x46, x47, x48, x49, x50, x51, x52, x53, x54, x55, x56, x57, x58, rfl, hF⟩ := hI
            have hd3 : d 3 = true := dep_of hdep 3 (by kernel_rfl)
            obtain rfl := hF.out.f3 hd3
            clear hdep hd hd3
            intro K hK
            simp only [Act.put, List.setIfInBounds_toArray, List.set_cons_zero, List.set_cons_succ]
            go_simp
            refine hK.out _ _ ⟨gb2, gr, cr, ra, rn, rc, rl, wc, x42, x43, x44, (.pointer (some ⟨mb, 9, none⟩)), (.pointer (some ⟨mb, 9, none⟩)), x47, x48, x49, x50, x51, x52, x53, x54, x55, x56, x57, x58, by first | (simp only [Act.put, List.setIfInBounds_toArray, List.set_cons_zero, List.set_cons_succ]; done) | (simp only [Act.put, List.setIfInBounds_toArray, List.set_cons_zero, List.set_cons_succ]; rfl), ?_⟩
            exact ⟨fun h => hF.out.f0 (by simpa using h), fun h => hF.out.f1 (by simpa using h), fun h => hF.out.f2 (by simpa using h), fun h => hF.out.f3 (by simpa using h), fun _ => rfl, fun h => hF.out.f5 (by simpa using h), fun h => hF.out.f6 (by simpa using h), fun h => hF.out.f7 (by simpa using h), fun h => hF.out.f8 (by simpa using h), fun h => hF.out.f9 (by simpa using h), fun h => hF.out.f10 (by simpa using h), fun h => hF.out.f11 (by simpa using h), fun h => hF.out.f12 (by simpa using h), fun h => hF.out.f13 (by simpa using h), fun h => hF.out.f14 (by simpa using h), fun h => hF.out.f15 (by simpa using h), fun h => hF.out.f16 (by simpa using h), fun h => hF.out.f17 (by simpa using h), fun i hi h => by have := hF.out.ol i hi (by simpa using h); simp [this], fun h => by have := hF.out.cA (by simpa using h); simpa using this, fun h => by have := hF.out.cB (by simpa using h); simpa using this, fun h => by have := hF.out.c12 (by simpa using h); simpa using this, fun h => by have := hF.out.c11 (by simpa using h); simpa using this, fun h => by have := hF.out.c10a (by simpa using h); simpa using this, fun h => by have := hF.out.c10b (by simpa using h); simpa using this, fun h => by have := hF.out.c9 (by simpa using h); simpa using this, fun h => by have := hF.out.cF (by simpa using h); simpa using this, fun h => hF.out.pm (by simpa using h), fun h => hF.out.qc (by simpa using h), fun h => hF.out.qlt (by simpa using h), fun h => hF.out.qsz (by simpa using h), fun h h2 => hF.out.q10 (by simpa using h) (by simpa using h2), fun h h2 => hF.out.kp (by simpa using h) (by simpa using h2), fun h h2 => hF.out.r0 (by simpa using h) (by simpa using h2), fun h h2 => hF.out.b0 (by simpa using h) (by simpa using h2), fun h h2 => hF.out.r1 (by simpa using h) (by simpa using h2), fun h => hF.out.fin (by simpa using h)⟩
          · intro d a W hI hd hdep
            obtain ⟨gb2, gr, cr, ra, rn, rc, rl, wc, x42, x43, x44, x45, x46, x47, x48, x49, x50, x51, x52, x53, x54, x55, x56, x57, x58, rfl, hF⟩ := hI
            have hd4 : d 4 = true := dep_of hdep 4 (by kernel_rfl)
            obtain rfl := hF.out.f4 hd4
            have HNC : Hid (d 12 = false) := no_later (fun h => hF.out.c10a (hF.out.c11 (hF.out.c12 h))) hd
            have ya : W.cell? ⟨mb, 9, none⟩ = some (.slice (some ⟨sb, 0, none⟩) ss.length sc) := ((hF.out.pm HNC.out).cell (p := ⟨mb, 9, none⟩) HMB.out.1).trans HC9.out
            clear hdep hd hd4
            intro K hK
            simp only [Act.put, List.setIfInBounds_toArray, List.set_cons_zero, List.set_cons_succ]
            go_simp
            refine hK.out _ _ ⟨gb2, gr, cr, ra, rn, rc, rl, wc, x42, x43, x44, x45, (.pointer (some ⟨mb, 9, none⟩)), (.slice (some ⟨sb, 0, none⟩) ss.length sc), x48, x49, x50, x51, x52, x53, x54, x55, x56, x57, x58, by first | (simp only [Act.put, List.setIfInBounds_toArray, List.set_cons_zero, List.set_cons_succ]; done) | (simp only [Act.put, List.setIfInBounds_toArray, List.set_cons_zero, List.set_cons_succ]; rfl), ?_⟩
            exact ⟨fun h => hF.out.f0 (by simpa using h), fun h => hF.out.f1 (by simpa using h), fun h => hF.out.f2 (by simpa using h), fun h => hF.out.f3 (by simpa using h), fun h => hF.out.f4 (by simpa using h), fun _ => rfl, fun h => hF.out.f6 (by simpa using h), fun h => hF.out.f7 (by simpa using h), fun h => hF.out.f8 (by simpa using h), fun h => hF.out.f9 (by simpa using h), fun h => hF.out.f10 (by simpa using h), fun h => hF.out.f11 (by simpa using h), fun h => hF.out.f12 (by simpa using h), fun h => hF.out.f13 (by simpa using h), fun h => hF.out.f14 (by simpa using h), fun h => hF.out.f15 (by simpa using h), fun h => hF.out.f16 (by simpa using h), fun h => hF.out.f17 (by simpa using h), fun i hi h => by have := hF.out.ol i hi (by simpa using h); simp [this], fun h => by have := hF.out.cA (by simpa using h); simpa using this, fun h => by have := hF.out.cB (by simpa using h); simpa using this, fun h => by have := hF.out.c12 (by simpa using h); simpa using this, fun h => by have := hF.out.c11 (by simpa using h); simpa using this, fun _ => by simp, fun h => by have := hF.out.c10b (by simpa using h); simpa using this, fun h => by have := hF.out.c9 (by simpa using h); simpa using this, fun h => by have := hF.out.cF (by simpa using h); simpa using this, fun h => hF.out.pm (by simpa using h), fun h => hF.out.qc (by simpa using h), fun h => hF.out.qlt (by simpa using h), fun h => hF.out.qsz (by simpa using h), fun h h2 => hF.out.q10 (by simpa using h) (by simpa using h2), fun h h2 => hF.out.kp (by simpa using h) (by simpa using h2), fun h h2 => hF.out.r0 (by simpa using h) (by simpa using h2), fun h h2 => hF.out.b0 (by simpa using h) (by simpa using h2), fun h h2 => hF.out.r1 (by simpa using h) (by simpa using h2), fun h => hF.out.fin (by simpa using h)⟩
          · intro d a W hI hd hdep
            obtain ⟨gb2, gr, cr, ra, rn, rc, rl, wc, x42, x43, x44, x45, x46, x47, x48, x49, x50, x51, x52, x53, x54, x55, x56, x57, x58, rfl, hF⟩ := hI
            clear hdep hd
            intro K hK
            simp only [Act.put, List.setIfInBounds_toArray, List.set_cons_zero, List.set_cons_succ]
            go_simp
            refine hK.out _ _ ⟨gb2, gr, cr, ra, rn, rc, rl, wc, x42, x43, x44, x45, x46, x47, (.pointer (some ⟨mb, 9, none⟩)), x49, x50, x51, x52, x53, x54, x55, x56, x57, x58, by first | (simp only [Act.put, List.setIfInBounds_toArray, List.set_cons_zero, List.set_cons_succ]; done) | (simp only [Act.put, List.setIfInBounds_toArray, List.set_cons_zero, List.set_cons_succ]; rfl), ?_⟩
            exact ⟨fun h => hF.out.f0 (by simpa using h), fun h => hF.out.f1 (by simpa using h), fun h => hF.out.f2 (by simpa using h), fun h => hF.out.f3 (by simpa using h), fun h => hF.out.f4 (by simpa using h), fun h => hF.out.f5 (by simpa using h), fun _ => rfl, fun h => hF.out.f7 (by simpa using h), fun h => hF.out.f8 (by simpa using h), fun h => hF.out.f9 (by simpa using h), fun h => hF.out.f10 (by simpa using h), fun h => hF.out.f11 (by simpa using h), fun h => hF.out.f12 (by simpa using h), fun h => hF.out.f13 (by simpa using h), fun h => hF.out.f14 (by simpa using h), fun h => hF.out.f15 (by simpa using h), fun h => hF.out.f16 (by simpa using h), fun h => hF.out.f17 (by simpa using h), fun i hi h => by have := hF.out.ol i hi (by simpa using h); simp [this], fun h => by have := hF.out.cA (by simpa using h); simpa using this, fun h => by have := hF.out.cB (by simpa using h); simpa using this, fun h => by have := hF.out.c12 (by simpa using h); simpa using this, fun h => by have := hF.out.c11 (by simpa using h); simpa using this, fun h => by have := hF.out.c10a (by simpa using h); simpa using this, fun h => by have := hF.out.c10b (by simpa using h); simpa using this, fun h => by have := hF.out.c9 (by simpa using h); simpa using this, fun h => by have := hF.out.cF (by simpa using h); simpa using this, fun h => hF.out.pm (by simpa using h), fun h => hF.out.qc (by simpa using h), fun h => hF.out.qlt (by simpa using h), fun h => hF.out.qsz (by simpa using h), fun h h2 => hF.out.q10 (by simpa using h) (by simpa using h2), fun h h2 => hF.out.kp (by simpa using h) (by simpa using h2), fun h h2 => hF.out.r0 (by simpa using h) (by simpa using h2), fun h h2 => hF.out.b0 (by simpa using h) (by simpa using h2), fun h h2 => hF.out.r1 (by simpa using h) (by simpa using h2), fun h => hF.out.fin (by simpa using h)⟩
          · intro d a W hI hd hdep
            obtain ⟨gb2, gr, cr, ra, rn, rc, rl, wc, x42, x43, x44, x45, x46, x47, x48, x49, x50, x51, x52, x53, x54, x55, x56, x57, x58, rfl, hF⟩ := hI
            have hd6 : d 6 = true := dep_of hdep 6 (by kernel_rfl)
            obtain rfl := hF.out.f6 hd6
            clear hdep hd hd6
            intro K hK
            simp only [Act.put, List.setIfInBounds_toArray, List.set_cons_zero, List.set_cons_succ]
            go_simp
            refine hK.out _ _ ⟨gb2, gr, cr, ra, rn, rc, rl, wc, x42, x43, x44, x45, x46, x47, (.pointer (some ⟨mb, 9, none⟩)), (.pointer (some ⟨mb, 10, none⟩)), x50, x51, x52, x53, x54, x55, x56, x57, x58, by first | (simp only [Act.put, List.setIfInBounds_toArray, List.set_cons_zero, List.set_cons_succ]; done) | (simp only [Act.put, List.setIfInBounds_toArray, List.set_cons_zero, List.set_cons_succ]; rfl), ?_⟩
            exact ⟨fun h => hF.out.f0 (by simpa using h), fun h => hF.out.f1 (by simpa using h), fun h => hF.out.f2 (by simpa using h), fun h => hF.out.f3 (by simpa using h), fun h => hF.out.f4 (by simpa using h), fun h => hF.out.f5 (by simpa using h), fun h => hF.out.f6 (by simpa using h), fun _ => rfl, fun h => hF.out.f8 (by simpa using h), fun h => hF.out.f9 (by simpa using h), fun h => hF.out.f10 (by simpa using h), fun h => hF.out.f11 (by simpa using h), fun h => hF.out.f12 (by simpa using h), fun h => hF.out.f13 (by simpa using h), fun h => hF.out.f14 (by simpa using h), fun h => hF.out.f15 (by simpa using h), fun h => hF.out.f16 (by simpa using h), fun h => hF.out.f17 (by simpa using h), fun i hi h => by have := hF.out.ol i hi (by simpa using h); simp [this], fun h => by have := hF.out.cA (by simpa using h); simpa using this, fun h => by have := hF.out.cB (by simpa using h); simpa using this, fun h => by have := hF.out.c12 (by simpa using h); simpa using this, fun h => by have := hF.out.c11 (by simpa using h); simpa using this, fun h => by have := hF.out.c10a (by simpa using h); simpa using this, fun h => by have := hF.out.c10b (by simpa using h); simpa using this, fun h => by have := hF.out.c9 (by simpa using h); simpa using this, fun h => by have := hF.out.cF (by simpa using h); simpa using this, fun h => hF.out.pm (by simpa using h), fun h => hF.out.qc (by simpa using h), fun h => hF.out.qlt (by simpa using h), fun h => hF.out.qsz (by simpa using h), fun h h2 => hF.out.q10 (by simpa using h) (by simpa using h2), fun h h2 => hF.out.kp (by simpa using h) (by simpa using h2), fun h h2 => hF.out.r0 (by simpa using h) (by simpa using h2), fun h h2 => hF.out.b0 (by simpa using h) (by simpa using h2), fun h h2 => hF.out.r1 (by simpa using h) (by simpa using h2), fun h => hF.out.fin (by simpa using h)⟩
          · intro d a W hI hd hdep
            obtain ⟨gb2, gr, cr, ra, rn, rc, rl, wc, x42, x43, x44, x45, x46, x47, x48, x49, x50, x51, x52, x53, x54, x55, x56, x57, x58, rfl, hF⟩ := hI
            have hd7 : d 7 = true := dep_of hdep 7 (by kernel_rfl)
            obtain rfl := hF.out.f7 hd7
            have HNC : Hid (d 12 = false) := no_later (fun h => hF.out.c9 (hF.out.c10b (hF.out.c11 (hF.out.c12 h)))) hd
            have ya : W.cell? ⟨mb, 10, none⟩ = some (.slice na nx.length nc) := ((hF.out.pm HNC.out).cell (p := ⟨mb, 10, none⟩) HMB.out.1).trans HC10.out
            clear hdep hd hd7
            intro K hK
            simp only [Act.put, List.setIfInBounds_toArray, List.set_cons_zero, List.set_cons_succ]
            go_simp
            refine hK.out _ _ ⟨gb2, gr, cr, ra, rn, rc, rl, wc, x42, x43, x44, x45, x46, x47, x48, (.pointer (some ⟨mb, 10, none⟩)), (.slice na nx.length nc), x51, x52, x53, x54, x55, x56, x57, x58, by first | (simp only [Act.put, List.setIfInBounds_toArray, List.set_cons_zero, List.set_cons_succ]; done) | (simp only [Act.put, List.setIfInBounds_toArray, List.set_cons_zero, List.set_cons_succ]; rfl), ?_⟩
            exact ⟨fun h => hF.out.f0 (by simpa using h), fun h => hF.out.f1 (by simpa using h), fun h => hF.out.f2 (by simpa using h), fun h => hF.out.f3 (by simpa using h), fun h => hF.out.f4 (by simpa using h), fun h => hF.out.f5 (by simpa using h), fun h => hF.out.f6 (by simpa using h), fun h => hF.out.f7 (by simpa using h), fun _ => rfl, fun h => hF.out.f9 (by simpa using h), fun h => hF.out.f10 (by simpa using h), fun h => hF.out.f11 (by simpa using h), fun h => hF.out.f12 (by simpa using h), fun h => hF.out.f13 (by simpa using h), fun h => hF.out.f14 (by simpa using h), fun h => hF.out.f15 (by simpa using h), fun h => hF.out.f16 (by simpa using h), fun h => hF.out.f17 (by simpa using h), fun i hi h => by have := hF.out.ol i hi (by simpa using h); simp [this], fun h => by have := hF.out.cA (by simpa using h); simpa using this, fun h => by have := hF.out.cB (by simpa using h); simpa using this, fun h => by have := hF.out.c12 (by simpa using h); simpa using this, fun h => by have := hF.out.c11 (by simpa using h); simpa using this, fun h => by have := hF.out.c10a (by simpa using h); simpa using this, fun h => by have := hF.out.c10b (by simpa using h); simpa using this, fun _ => by simp, fun h => by have := hF.out.cF (by simpa using h); simpa using this, fun h => hF.out.pm (by simpa using h), fun h => hF.out.qc (by simpa using h), fun h => hF.out.qlt (by simpa using h), fun h => hF.out.qsz (by simpa using h), fun h h2 => hF.out.q10 (by simpa using h) (by simpa using h2), fun h h2 => hF.out.kp (by simpa using h) (by simpa using h2), fun h h2 => hF.out.r0 (by simpa using h) (by simpa using h2), fun h h2 => hF.out.b0 (by simpa using h) (by simpa using h2), fun h h2 => hF.out.r1 (by simpa using h) (by simpa using h2), fun h => hF.out.fin (by simpa using h)⟩
          · intro d a W hI hd hdep
            obtain ⟨gb2, gr, cr, ra, rn, rc, rl, wc, x42, x43, x44, x45, x46, x47, x48, x49, x50, x51, x52, x53, x54, x55, x56, x57, x58, rfl, hF⟩ := hI
            have hd8 : d 8 = true := dep_of hdep 8 (by kernel_rfl)
            obtain rfl := hF.out.f8 hd8
            have HD8 : Hid (d 8 = true) := hd8
            clear hdep hd hd8
            intro K hK
            simp only [Act.put, List.setIfInBounds_toArray, List.set_cons_zero, List.set_cons_succ]
            go_simp
            refine hK.out _ _ ⟨gb2, gr, cr, ra, rn, rc, rl, wc, x42, x43, x44, x45, x46, x47, x48, x49, (.slice na nx.length nc), (.int .i64 (nx.length : Int)), x52, x53, x54, x55, x56, x57, x58, by first | (simp only [Act.put, List.setIfInBounds_toArray, List.set_cons_zero, List.set_cons_succ]; done) | (simp only [Act.put, List.setIfInBounds_toArray, List.set_cons_zero, List.set_cons_succ]; rfl), ?_⟩
            exact ⟨fun h => hF.out.f0 (by simpa using h), fun h => hF.out.f1 (by simpa using h), fun h => hF.out.f2 (by simpa using h), fun h => hF.out.f3 (by simpa using h), fun h => hF.out.f4 (by simpa using h), fun h => hF.out.f5 (by simpa using h), fun h => hF.out.f6 (by simpa using h), fun h => hF.out.f7 (by simpa using h), fun h => hF.out.f8 (by simpa using h), fun _ => rfl, fun h => hF.out.f10 (by simpa using h), fun h => hF.out.f11 (by simpa using h), fun h => hF.out.f12 (by simpa using h), fun h => hF.out.f13 (by simpa using h), fun h => hF.out.f14 (by simpa using h), fun h => hF.out.f15 (by simpa using h), fun h => hF.out.f16 (by simpa using h), fun h => hF.out.f17 (by simpa using h), fun i hi h => by have := hF.out.ol i hi (by simpa using h); simp [this], fun h => by have := hF.out.cA (by simpa using h); simpa using this, fun h => by have := hF.out.cB (by simpa using h); simpa using this, fun h => by have := hF.out.c12 (by simpa using h); simpa using this, fun h => by have := hF.out.c11 (by simpa using h); simpa using this, fun h => by have := hF.out.c10a (by simpa using h); simpa using this, fun _ => by simp, fun _ => by simpa using HD8.out, fun h => by have := hF.out.cF (by simpa using h); simpa using this, fun h => hF.out.pm (by simpa using h), fun h => hF.out.qc (by simpa using h), fun h => hF.out.qlt (by simpa using h), fun h => hF.out.qsz (by simpa using h), fun h h2 => hF.out.q10 (by simpa using h) (by simpa using h2), fun h h2 => hF.out.kp (by simpa using h) (by simpa using h2), fun h h2 => hF.out.r0 (by simpa using h) (by simpa using h2), fun h h2 => hF.out.b0 (by simpa using h) (by simpa using h2), fun h h2 => hF.out.r1 (by simpa using h) (by simpa using h2), fun h => hF.out.fin (by simpa using h)⟩
          · intro d a W hI hd hdep
            obtain ⟨gb2, gr, cr, ra, rn, rc, rl, wc, x42, x43, x44, x45, x46, x47, x48, x49, x50, x51, x52, x53, x54, x55, x56, x57, x58, rfl, hF⟩ := hI
            have hd5 : d 5 = true := dep_of hdep 5 (by kernel_rfl)
            have hd9 : d 9 = true := dep_of hdep 9 (by kernel_rfl)
            obtain rfl := hF.out.f5 hd5
            obtain rfl := hF.out.f9 hd9
            have HD5 : Hid (d 5 = true) := hd5
            have HD9 : Hid (d 9 = true) := hd9
            have hi0 : (0 : Int) ≤ (nx.length : Int) := by omega
            have hi1 : (nx.length : Int) < (ss.length : Int) := by have := HNS.out; omega
            clear hdep hd hd5 hd9
            intro K hK
            simp only [Act.put, List.setIfInBounds_toArray, List.set_cons_zero, List.set_cons_succ]
            go_simp
            refine hK.out _ _ ⟨gb2, gr, cr, ra, rn, rc, rl, wc, x42, x43, x44, x45, x46, (.slice (some ⟨sb, 0, none⟩) ss.length sc), x48, x49, x50, (.int .i64 (nx.length : Int)), (.pointer (some ⟨sb, nx.length, none⟩)), x53, x54, x55, x56, x57, x58, by first | (simp only [Act.put, List.setIfInBounds_toArray, List.set_cons_zero, List.set_cons_succ]; done) | (simp only [Act.put, List.setIfInBounds_toArray, List.set_cons_zero, List.set_cons_succ]; rfl), ?_⟩
            exact ⟨fun h => hF.out.f0 (by simpa using h), fun h => hF.out.f1 (by simpa using h), fun h => hF.out.f2 (by simpa using h), fun h => hF.out.f3 (by simpa using h), fun h => hF.out.f4 (by simpa using h), fun h => hF.out.f5 (by simpa using h), fun h => hF.out.f6 (by simpa using h), fun h => hF.out.f7 (by simpa using h), fun h => hF.out.f8 (by simpa using h), fun h => hF.out.f9 (by simpa using h), fun _ => rfl, fun h => hF.out.f11 (by simpa using h), fun h => hF.out.f12 (by simpa using h), fun h => hF.out.f13 (by simpa using h), fun h => hF.out.f14 (by simpa using h), fun h => hF.out.f15 (by simpa using h), fun h => hF.out.f16 (by simpa using h), fun h => hF.out.f17 (by simpa using h), fun i hi h => by have := hF.out.ol i hi (by simpa using h); simp [this], fun h => by have := hF.out.cA (by simpa using h); simpa using this, fun h => by have := hF.out.cB (by simpa using h); simpa using this, fun h => by have := hF.out.c12 (by simpa using h); simpa using this, fun _ => by simp, fun _ => by simpa using HD5.out, fun _ => by simpa using HD9.out, fun h => by have := hF.out.c9 (by simpa using h); simpa using this, fun h => by have := hF.out.cF (by simpa using h); simpa using this, fun h => hF.out.pm (by simpa using h), fun h => hF.out.qc (by simpa using h), fun h => hF.out.qlt (by simpa using h), fun h => hF.out.qsz (by simpa using h), fun h h2 => hF.out.q10 (by simpa using h) (by simpa using h2), fun h h2 => hF.out.kp (by simpa using h) (by simpa using h2), fun h h2 => hF.out.r0 (by simpa using h) (by simpa using h2), fun h h2 => hF.out.b0 (by simpa using h) (by simpa using h2), fun h h2 => hF.out.r1 (by simpa using h) (by simpa using h2), fun h => hF.out.fin (by simpa using h)⟩
          · intro d a W hI hd hdep
            obtain ⟨gb2, gr, cr, ra, rn, rc, rl, wc, x42, x43, x44, x45, x46, x47, x48, x49, x50, x51, x52, x53, x54, x55, x56, x57, x58, rfl, hF⟩ := hI
            have hd10 : d 10 = true := dep_of hdep 10 (by kernel_rfl)
            obtain rfl := hF.out.f10 hd10
            have HD10 : Hid (d 10 = true) := hd10
            have HNC : Hid (d 12 = false) := no_later hF.out.c12 hd
            have ya : W.cell? ⟨sb, nx.length, none⟩ = some (.slice uo un uc) := ((hF.out.pm HNC.out).cell (p := ⟨sb, nx.length, none⟩) HSB.out.1).trans HSB.out.2
            clear hdep hd hd10
            intro K hK
            simp only [Act.put, List.setIfInBounds_toArray, List.set_cons_zero, List.set_cons_succ]
            go_simp
            refine hK.out _ _ ⟨gb2, gr, cr, ra, rn, rc, rl, wc, x42, x43, x44, x45, x46, x47, x48, x49, x50, x51, (.pointer (some ⟨sb, nx.length, none⟩)), (.slice uo un uc), x54, x55, x56, x57, x58, by first | (simp only [Act.put, List.setIfInBounds_toArray, List.set_cons_zero, List.set_cons_succ]; done) | (simp only [Act.put, List.setIfInBounds_toArray, List.set_cons_zero, List.set_cons_succ]; rfl), ?_⟩
            exact ⟨fun h => hF.out.f0 (by simpa using h), fun h => hF.out.f1 (by simpa using h), fun h => hF.out.f2 (by simpa using h), fun h => hF.out.f3 (by simpa using h), fun h => hF.out.f4 (by simpa using h), fun h => hF.out.f5 (by simpa using h), fun h => hF.out.f6 (by simpa using h), fun h => hF.out.f7 (by simpa using h), fun h => hF.out.f8 (by simpa using h), fun h => hF.out.f9 (by simpa using h), fun h => hF.out.f10 (by simpa using h), fun _ => rfl, fun h => hF.out.f12 (by simpa using h), fun h => hF.out.f13 (by simpa using h), fun h => hF.out.f14 (by simpa using h), fun h => hF.out.f15 (by simpa using h), fun h => hF.out.f16 (by simpa using h), fun h => hF.out.f17 (by simpa using h), fun i hi h => by have := hF.out.ol i hi (by simpa using h); simp [this], fun h => by have := hF.out.cA (by simpa using h); simpa using this, fun h => by have := hF.out.cB (by simpa using h); simpa using this, fun _ => by simp, fun _ => by simpa using HD10.out, fun h => by have := hF.out.c10a (by simpa using h); simpa using this, fun h => by have := hF.out.c10b (by simpa using h); simpa using this, fun h => by have := hF.out.c9 (by simpa using h); simpa using this, fun h => by have := hF.out.cF (by simpa using h); simpa using this, fun h => hF.out.pm (by simpa using h), fun h => hF.out.qc (by simpa using h), fun h => hF.out.qlt (by simpa using h), fun h => hF.out.qsz (by simpa using h), fun h h2 => hF.out.q10 (by simpa using h) (by simpa using h2), fun h h2 => hF.out.kp (by simpa using h) (by simpa using h2), fun h h2 => hF.out.r0 (by simpa using h) (by simpa using h2), fun h h2 => hF.out.b0 (by simpa using h) (by simpa using h2), fun h h2 => hF.out.r1 (by simpa using h) (by simpa using h2), fun h => hF.out.fin (by simpa using h)⟩
          · intro d a W hI hd hdep
            obtain ⟨gb2, gr, cr, ra, rn, rc, rl, wc, x42, x43, x44, x45, x46, x47, x48, x49, x50, x51, x52, x53, x54, x55, x56, x57, x58, rfl, hF⟩ := hI
            have hd11 : d 11 = true := dep_of hdep 11 (by kernel_rfl)
            obtain rfl := hF.out.f11 hd11
            have HNL : Hid (d 17 = false) := no_later (hF.out.ol 12 (by omega)) hd
            have HD11 : Hid (d 11 = true) := hd11
            have HNB : Hid (d 13 = false) := no_later hF.out.cB hd
            have HNA : Hid (d 14 = false) := no_later hF.out.cA HNB.out
            have hcall := HCL.out W (hF.out.pm hd)
            clear hdep hd hd11
            intro K hK
            simp only [Act.put, List.setIfInBounds_toArray, List.set_cons_zero, List.set_cons_succ]
            go_simp
            refine hcall.mono ?_
            rintro _ W2 ⟨rv9, rl9, rfl, hq9⟩
            obtain ⟨ra9, rn9, rc9, rfl⟩ := own_form hq9.2.1
            obtain ⟨kv9, sv9, us9, vs9, ks9, ss9, hmk9, hrw9⟩ := id hq9.2.2
            have hc9 := mcell_blk hmk9.bx 10
            simp only [List.getElem?_toArray, List.getElem?_cons_zero, List.getElem?_cons_succ] at hc9
            have hnr9 := hmk9.nr
            have hsz9 := hmk9.bw.size
            clear hcall
            go_simp
            refine hK.out _ _ ⟨gb2, gr, cr, ra9, rn9, rc9, rl9, W2, x42, x43, x44, x45, x46, x47, x48, x49, x50, x51, x52, (.slice uo un uc), (.slice ra9 rn9 rc9), x55, x56, x57, x58, by first | (simp only [Act.put, List.setIfInBounds_toArray, List.set_cons_zero, List.set_cons_succ]; done) | (simp only [Act.put, List.setIfInBounds_toArray, List.set_cons_zero, List.set_cons_succ]; rfl), ?_⟩
            exact ⟨fun h => hF.out.f0 (by simpa using h), fun h => hF.out.f1 (by simpa using h), fun h => hF.out.f2 (by simpa using h), fun h => hF.out.f3 (by simpa using h), fun h => hF.out.f4 (by simpa using h), fun h => hF.out.f5 (by simpa using h), fun h => hF.out.f6 (by simpa using h), fun h => hF.out.f7 (by simpa using h), fun h => hF.out.f8 (by simpa using h), fun h => hF.out.f9 (by simpa using h), fun h => hF.out.f10 (by simpa using h), fun h => hF.out.f11 (by simpa using h), fun _ => rfl, fun h => by have := HNB.out; simp [this] at h, fun h => by have := HNA.out; simp [this] at h, fun h => hF.out.f15 (by simpa using h), fun h => hF.out.f16 (by simpa using h), fun h => hF.out.f17 (by simpa using h), fun i hi h => by have := hF.out.ol i hi (by simpa using h); simp [this], fun h => by have := hF.out.cA (by simpa using h); simpa using this, fun _ => by simp, fun _ => by simpa using HD11.out, fun h => by have := hF.out.c11 (by simpa using h); simpa using this, fun h => by have := hF.out.c10a (by simpa using h); simpa using this, fun h => by have := hF.out.c10b (by simpa using h); simpa using this, fun h => by have := hF.out.c9 (by simpa using h); simpa using this, fun h => by have := hF.out.cF (by simpa using h); simpa using this, fun h => by simp at h, fun _ => hq9, fun _ => mheap_lt hmk9.bx, fun _ => hsz9, fun _ _ => hc9, fun _ _ => mgb_refl _ _, fun _ _ => hnr9, fun h => by have := HNB.out; simp [this] at h, fun h => by have := HNA.out; simp [this] at h, fun h => by have := HNL.out; simp [this] at h⟩
          · intro d a W hI hd hdep
            obtain ⟨gb2, gr, cr, ra, rn, rc, rl, wc, x42, x43, x44, x45, x46, x47, x48, x49, x50, x51, x52, x53, x54, x55, x56, x57, x58, rfl, hF⟩ := hI
            have hd12 : d 12 = true := dep_of hdep 12 (by kernel_rfl)
            obtain rfl := hF.out.f12 hd12
            have HNL : Hid (d 17 = false) := no_later (hF.out.ol 13 (by omega)) hd
            have HN8 : Hid (d 14 = false) := no_later hF.out.cA hd
            have HDC : Hid (d 12 = true) := hd12
            have HLT : Hid (mb < W.heap.size) := hF.out.qlt hd12
            clear hdep hd hd12
            intro K hK
            simp only [Act.put, List.setIfInBounds_toArray, List.set_cons_zero, List.set_cons_succ]
            go_simp
            refine hK.out _ _ ⟨W.heap.size, gr, cr, ra, rn, rc, rl, wc, x42, x43, x44, x45, x46, x47, x48, x49, x50, x51, x52, x53, (.slice ra rn rc), (.slice (some ⟨W.heap.size, 0, none⟩) 1 1), x56, x57, x58, by first | (simp only [Act.put, List.setIfInBounds_toArray, List.set_cons_zero, List.set_cons_succ]; done) | (simp only [Act.put, List.setIfInBounds_toArray, List.set_cons_zero, List.set_cons_succ]; rfl), ?_⟩
            exact ⟨fun h => hF.out.f0 (by simpa using h), fun h => hF.out.f1 (by simpa using h), fun h => hF.out.f2 (by simpa using h), fun h => hF.out.f3 (by simpa using h), fun h => hF.out.f4 (by simpa using h), fun h => hF.out.f5 (by simpa using h), fun h => hF.out.f6 (by simpa using h), fun h => hF.out.f7 (by simpa using h), fun h => hF.out.f8 (by simpa using h), fun h => hF.out.f9 (by simpa using h), fun h => hF.out.f10 (by simpa using h), fun h => hF.out.f11 (by simpa using h), fun h => hF.out.f12 (by simpa using h), fun _ => rfl, fun h => by have := HN8.out; simp [this] at h, fun h => hF.out.f15 (by simpa using h), fun h => hF.out.f16 (by simpa using h), fun h => hF.out.f17 (by simpa using h), fun i hi h => by have := hF.out.ol i hi (by simpa using h); simp [this], fun _ => by simp, fun _ => by simpa using HDC.out, fun h => by have := hF.out.c12 (by simpa using h); simpa using this, fun h => by have := hF.out.c11 (by simpa using h); simpa using this, fun h => by have := hF.out.c10a (by simpa using h); simpa using this, fun h => by have := hF.out.c10b (by simpa using h); simpa using this, fun h => by have := hF.out.c9 (by simpa using h); simpa using this, fun h => by have := hF.out.cF (by simpa using h); simpa using this, fun h => by have := HDC.out; simp [this] at h, fun h => hF.out.qc (by simpa using h), fun _ => by have := HLT.out; simp; omega, fun _ => by have := hF.out.qsz HDC.out; simp; omega, fun _ _ => ((below_alloc W _).cell (p := ⟨mb, 10, none⟩) HLT.out).trans (hF.out.q10 HDC.out HNL.out), fun _ _ => mgb_alloc (hF.out.kp HDC.out HNL.out) _, fun _ _ => (hF.out.r0 HDC.out HN8.out).alloc _, fun _ _ => heap_alloc_new _ _, fun h => by have := HN8.out; simp [this] at h, fun h => by have := HNL.out; simp [this] at h⟩
          · intro d a W hI hd hdep
            obtain ⟨gb2, gr, cr, ra, rn, rc, rl, wc, x42, x43, x44, x45, x46, x47, x48, x49, x50, x51, x52, x53, x54, x55, x56, x57, x58, rfl, hF⟩ := hI
            have hd2 : d 2 = true := dep_of hdep 2 (by kernel_rfl)
            have hd13 : d 13 = true := dep_of hdep 13 (by kernel_rfl)
            have hd12 : d 12 = true := dep_of hdep 12 (by kernel_rfl)
            obtain rfl := hF.out.f2 hd2
            obtain rfl := hF.out.f13 hd13
            obtain rfl := hF.out.f12 hd12
            have HNL : Hid (d 17 = false) := no_later (hF.out.ol 14 (by omega)) hd
            have HD7 : Hid (d 13 = true) := hd13
            have HDC : Hid (d 12 = true) := hd12
            have hm := run_append_lies (P := Try.prog) W 26 26 w0.heap.size 29 i1 _ 1 24 Try.underlying26 hi1 hy0 hy1 hy2 rfl (by omega) (.slice na nx.length nc) nx.length ws (hF.out.r0 hd12 hd) ⟨gb2, 0, none⟩ 1 1 [(.slice ra rn rc)] rfl (World.news_of_block (t := 29) (fr := (0, 0)) (hF.out.b0 hd13 hd)) (by simp [Value.oneCell']) (by omega) (by unfold maxLen; have := HBOUND.out; omega) (by have := HBOUND.out; omega) (hF.out.qsz hd12) W.heap.size rfl
            have hmm := hm.choose_spec.choose_spec.choose_spec
            generalize hm.choose_spec.choose_spec.choose = W1 at hmm
            generalize hm.choose_spec.choose = cr1 at hmm
            generalize hm.choose = gr1 at hmm
            have hrun := hmm.1
            have HM : Hid (W1.ownsRow w0.heap.size 29 1 (.slice (some ⟨gr1, 0, none⟩) (nx.length + 1) cr1) (nx.length + 1) (ws ++ [(.slice ra rn rc)]) ∧ W.grownBy W1 (Value.ownBlock (.slice na nx.length nc))) := ⟨hmm.2.1, hmm.2.2.1⟩
            have HC1 : Hid (W1.cell? ⟨mb, 10, none⟩ = some (.slice na nx.length nc)) := (mgb_old HM.out.2 (p := ⟨mb, 10, none⟩) (hF.out.qlt hd12) (fun e => HNM.out e.symm)).trans (hF.out.q10 hd12 HNL.out)
            clear hmm hm
            clear hdep hd hd2 hd13 hd12
            intro K hK
            refine step_call_append (sv := (.slice na nx.length nc)) (xv := (.slice (some ⟨gb2, 0, none⟩) 1 1)) (v := (.slice (some ⟨gr1, 0, none⟩) (nx.length + 1) cr1)) (W1 := W1) (by rfl) _ _ 26 (by rfl) (by first | (simp only [Act.put, List.setIfInBounds_toArray, List.set_cons_zero, List.set_cons_succ]; done) | (simp only [Act.put, List.setIfInBounds_toArray, List.set_cons_zero, List.set_cons_succ]; rfl)) (by first | (simp only [Act.put, List.setIfInBounds_toArray, List.set_cons_zero, List.set_cons_succ]; done) | (simp only [Act.put, List.setIfInBounds_toArray, List.set_cons_zero, List.set_cons_succ]; rfl)) (by exact hrun) ?_
            simp only [Act.put, List.setIfInBounds_toArray, List.set_cons_zero, List.set_cons_succ]
            refine hK.out _ _ ⟨gb2, gr1, cr1, ra, rn, rc, rl, wc, x42, x43, (.slice na nx.length nc), x45, x46, x47, x48, x49, x50, x51, x52, x53, (.slice ra rn rc), (.slice (some ⟨gb2, 0, none⟩) 1 1), (.slice (some ⟨gr1, 0, none⟩) (nx.length + 1) cr1), x57, x58, by first | (simp only [Act.put, List.setIfInBounds_toArray, List.set_cons_zero, List.set_cons_succ]; done) | (simp only [Act.put, List.setIfInBounds_toArray, List.set_cons_zero, List.set_cons_succ]; rfl), ?_⟩
            exact ⟨fun h => hF.out.f0 (by simpa using h), fun h => hF.out.f1 (by simpa using h), fun h => hF.out.f2 (by simpa using h), fun h => hF.out.f3 (by simpa using h), fun h => hF.out.f4 (by simpa using h), fun h => hF.out.f5 (by simpa using h), fun h => hF.out.f6 (by simpa using h), fun h => hF.out.f7 (by simpa using h), fun h => hF.out.f8 (by simpa using h), fun h => hF.out.f9 (by simpa using h), fun h => hF.out.f10 (by simpa using h), fun h => hF.out.f11 (by simpa using h), fun h => hF.out.f12 (by simpa using h), fun h => hF.out.f13 (by simpa using h), fun _ => rfl, fun h => hF.out.f15 (by simpa using h), fun h => hF.out.f16 (by simpa using h), fun h => hF.out.f17 (by simpa using h), fun i hi h => by have := hF.out.ol i hi (by simpa using h); simp [this], fun _ => by simpa using HD7.out, fun h => by have := hF.out.cB (by simpa using h); simpa using this, fun h => by have := hF.out.c12 (by simpa using h); simpa using this, fun h => by have := hF.out.c11 (by simpa using h); simpa using this, fun h => by have := hF.out.c10a (by simpa using h); simpa using this, fun h => by have := hF.out.c10b (by simpa using h); simpa using this, fun h => by have := hF.out.c9 (by simpa using h); simpa using this, fun h => by have := hF.out.cF (by simpa using h); simpa using this, fun h => by have := HDC.out; simp [this] at h, fun h => hF.out.qc (by simpa using h), fun _ => Nat.lt_of_lt_of_le (hF.out.qlt HDC.out) HM.out.2.size, fun _ => Nat.le_trans (hF.out.qsz HDC.out) HM.out.2.size, fun _ _ => HC1.out, fun _ _ => mgb_then (hF.out.kp HDC.out HNL.out) HM.out.2, fun _ h => by simp at h, fun _ h => by simp at h, fun _ _ => HM.out.1, fun h => by have := HNL.out; simp [this] at h⟩
          · intro d a W hI hd hdep
            obtain ⟨gb2, gr, cr, ra, rn, rc, rl, wc, x42, x43, x44, x45, x46, x47, x48, x49, x50, x51, x52, x53, x54, x55, x56, x57, x58, rfl, hF⟩ := hI
            clear hdep hd
            intro K hK
            simp only [Act.put, List.setIfInBounds_toArray, List.set_cons_zero, List.set_cons_succ]
            go_simp
            refine hK.out _ _ ⟨gb2, gr, cr, ra, rn, rc, rl, wc, x42, x43, x44, x45, x46, x47, x48, x49, x50, x51, x52, x53, x54, x55, x56, (.pointer (some ⟨mb, 9, none⟩)), x58, by first | (simp only [Act.put, List.setIfInBounds_toArray, List.set_cons_zero, List.set_cons_succ]; done) | (simp only [Act.put, List.setIfInBounds_toArray, List.set_cons_zero, List.set_cons_succ]; rfl), ?_⟩
            exact ⟨fun h => hF.out.f0 (by simpa using h), fun h => hF.out.f1 (by simpa using h), fun h => hF.out.f2 (by simpa using h), fun h => hF.out.f3 (by simpa using h), fun h => hF.out.f4 (by simpa using h), fun h => hF.out.f5 (by simpa using h), fun h => hF.out.f6 (by simpa using h), fun h => hF.out.f7 (by simpa using h), fun h => hF.out.f8 (by simpa using h), fun h => hF.out.f9 (by simpa using h), fun h => hF.out.f10 (by simpa using h), fun h => hF.out.f11 (by simpa using h), fun h => hF.out.f12 (by simpa using h), fun h => hF.out.f13 (by simpa using h), fun h => hF.out.f14 (by simpa using h), fun _ => rfl, fun h => hF.out.f16 (by simpa using h), fun h => hF.out.f17 (by simpa using h), fun i hi h => by have := hF.out.ol i hi (by simpa using h); simp [this], fun h => by have := hF.out.cA (by simpa using h); simpa using this, fun h => by have := hF.out.cB (by simpa using h); simpa using this, fun h => by have := hF.out.c12 (by simpa using h); simpa using this, fun h => by have := hF.out.c11 (by simpa using h); simpa using this, fun h => by have := hF.out.c10a (by simpa using h); simpa using this, fun h => by have := hF.out.c10b (by simpa using h); simpa using this, fun h => by have := hF.out.c9 (by simpa using h); simpa using this, fun _ => by simp, fun h => hF.out.pm (by simpa using h), fun h => hF.out.qc (by simpa using h), fun h => hF.out.qlt (by simpa using h), fun h => hF.out.qsz (by simpa using h), fun h h2 => hF.out.q10 (by simpa using h) (by simpa using h2), fun h h2 => hF.out.kp (by simpa using h) (by simpa using h2), fun h h2 => hF.out.r0 (by simpa using h) (by simpa using h2), fun h h2 => hF.out.b0 (by simpa using h) (by simpa using h2), fun h h2 => hF.out.r1 (by simpa using h) (by simpa using h2), fun h => hF.out.fin (by simpa using h)⟩
          · intro d a W hI hd hdep
            obtain ⟨gb2, gr, cr, ra, rn, rc, rl, wc, x42, x43, x44, x45, x46, x47, x48, x49, x50, x51, x52, x53, x54, x55, x56, x57, x58, rfl, hF⟩ := hI
            have hd15 : d 15 = true := dep_of hdep 15 (by kernel_rfl)
            obtain rfl := hF.out.f15 hd15
            have HD15 : Hid (d 15 = true) := hd15
            clear hdep hd hd15
            intro K hK
            simp only [Act.put, List.setIfInBounds_toArray, List.set_cons_zero, List.set_cons_succ]
            go_simp
            refine hK.out _ _ ⟨gb2, gr, cr, ra, rn, rc, rl, wc, x42, x43, x44, x45, x46, x47, x48, x49, x50, x51, x52, x53, x54, x55, x56, (.pointer (some ⟨mb, 9, none⟩)), (.pointer (some ⟨mb, 10, none⟩)), by first | (simp only [Act.put, List.setIfInBounds_toArray, List.set_cons_zero, List.set_cons_succ]; done) | (simp only [Act.put, List.setIfInBounds_toArray, List.set_cons_zero, List.set_cons_succ]; rfl), ?_⟩
            exact ⟨fun h => hF.out.f0 (by simpa using h), fun h => hF.out.f1 (by simpa using h), fun h => hF.out.f2 (by simpa using h), fun h => hF.out.f3 (by simpa using h), fun h => hF.out.f4 (by simpa using h), fun h => hF.out.f5 (by simpa using h), fun h => hF.out.f6 (by simpa using h), fun h => hF.out.f7 (by simpa using h), fun h => hF.out.f8 (by simpa using h), fun h => hF.out.f9 (by simpa using h), fun h => hF.out.f10 (by simpa using h), fun h => hF.out.f11 (by simpa using h), fun h => hF.out.f12 (by simpa using h), fun h => hF.out.f13 (by simpa using h), fun h => hF.out.f14 (by simpa using h), fun h => hF.out.f15 (by simpa using h), fun _ => rfl, fun h => hF.out.f17 (by simpa using h), fun i hi h => by have := hF.out.ol i hi (by simpa using h); simp [this], fun h => by have := hF.out.cA (by simpa using h); simpa using this, fun h => by have := hF.out.cB (by simpa using h); simpa using this, fun h => by have := hF.out.c12 (by simpa using h); simpa using this, fun h => by have := hF.out.c11 (by simpa using h); simpa using this, fun h => by have := hF.out.c10a (by simpa using h); simpa using this, fun h => by have := hF.out.c10b (by simpa using h); simpa using this, fun h => by have := hF.out.c9 (by simpa using h); simpa using this, fun _ => by simpa using HD15.out, fun h => hF.out.pm (by simpa using h), fun h => hF.out.qc (by simpa using h), fun h => hF.out.qlt (by simpa using h), fun h => hF.out.qsz (by simpa using h), fun h h2 => hF.out.q10 (by simpa using h) (by simpa using h2), fun h h2 => hF.out.kp (by simpa using h) (by simpa using h2), fun h h2 => hF.out.r0 (by simpa using h) (by simpa using h2), fun h h2 => hF.out.b0 (by simpa using h) (by simpa using h2), fun h h2 => hF.out.r1 (by simpa using h) (by simpa using h2), fun h => hF.out.fin (by simpa using h)⟩
          · intro d a W hI hd hdep
            obtain ⟨gb2, gr, cr, ra, rn, rc, rl, wc, x42, x43, x44, x45, x46, x47, x48, x49, x50, x51, x52, x53, x54, x55, x56, x57, x58, rfl, hF⟩ := hI
            have hd16 : d 16 = true := dep_of hdep 16 (by kernel_rfl)
            have hd0 : d 0 = true := dep_of hdep 0 (by kernel_rfl)
            have hd1 : d 1 = true := dep_of hdep 1 (by kernel_rfl)
            have hd2 : d 2 = true := dep_of hdep 2 (by kernel_rfl)
            have hd3 : d 3 = true := dep_of hdep 3 (by kernel_rfl)
            have hd4 : d 4 = true := dep_of hdep 4 (by kernel_rfl)
            have hd5 : d 5 = true := dep_of hdep 5 (by kernel_rfl)
            have hd6 : d 6 = true := dep_of hdep 6 (by kernel_rfl)
            have hd7 : d 7 = true := dep_of hdep 7 (by kernel_rfl)
            have hd8 : d 8 = true := dep_of hdep 8 (by kernel_rfl)
            have hd9 : d 9 = true := dep_of hdep 9 (by kernel_rfl)
            have hd10 : d 10 = true := dep_of hdep 10 (by kernel_rfl)
            have hd11 : d 11 = true := dep_of hdep 11 (by kernel_rfl)
            have hd12 : d 12 = true := dep_of hdep 12 (by kernel_rfl)
            have hd13 : d 13 = true := dep_of hdep 13 (by kernel_rfl)
            have hd14 : d 14 = true := dep_of hdep 14 (by kernel_rfl)
            obtain rfl := hF.out.f16 hd16
            obtain rfl := hF.out.f0 hd0
            obtain rfl := hF.out.f1 hd1
            obtain rfl := hF.out.f2 hd2
            obtain rfl := hF.out.f3 hd3
            obtain rfl := hF.out.f4 hd4
            obtain rfl := hF.out.f5 hd5
            obtain rfl := hF.out.f6 hd6
            obtain rfl := hF.out.f7 hd7
            obtain rfl := hF.out.f8 hd8
            obtain rfl := hF.out.f9 hd9
            obtain rfl := hF.out.f10 hd10
            obtain rfl := hF.out.f11 hd11
            obtain rfl := hF.out.f12 hd12
            obtain rfl := hF.out.f13 hd13
            obtain rfl := hF.out.f14 hd14
            have hd15 : d 15 = true := hF.out.cF hd16
            obtain rfl := hF.out.f15 hd15
            have HD : Hid (∀ i, i < 17 → d i = true) := fun i hi => by
              have : i = 0 ∨ i = 1 ∨ i = 2 ∨ i = 3 ∨ i = 4 ∨ i = 5 ∨ i = 6 ∨ i = 7 ∨ i = 8 ∨ i = 9 ∨ i = 10 ∨ i = 11 ∨ i = 12 ∨ i = 13 ∨ i = 14 ∨ i = 15 ∨ i = 16 := by omega
              rcases this with rfl | rfl | rfl | rfl | rfl | rfl | rfl | rfl | rfl | rfl | rfl | rfl | rfl | rfl | rfl | rfl | rfl <;> assumption
            have HKP : Hid (wc.grownBy W (Value.ownBlock (.slice na nx.length nc))) := hF.out.kp hd12 hd
            have HR1 : Hid (W.ownsRow w0.heap.size 29 1 (.slice (some ⟨gr, 0, none⟩) (nx.length + 1) cr) (nx.length + 1) (ws ++ [(.slice ra rn rc)])) := hF.out.r1 hd14 hd
            have HQC := hF.out.qc hd12
            have ya : W.cell? ⟨mb, 10, none⟩ = some (.slice na nx.length nc) := hF.out.q10 hd12 hd
            have yb : W.frozen? ⟨mb, 10, none⟩ = false := by
              obtain ⟨-, -, kv9, sv9, us9, vs9, ks9, ss9, hmk9, -⟩ := HQC
              exact (World.frozen?_of_block (a := ⟨mb, 10, none⟩) (HKP.out.block mb (mheap_lt hmk9.bx) (fun e => HNM.out e.symm))).trans (mfrozen_blk hmk9.bx 10)
            clear hdep hd hd16 hd0 hd1 hd2 hd3 hd4 hd5 hd6 hd7 hd8 hd9 hd10 hd11 hd12 hd13 hd14
            intro K hK
            simp only [Act.put, List.setIfInBounds_toArray, List.set_cons_zero, List.set_cons_succ]
            go_simp
            refine hK.out _ _ ⟨gb2, gr, cr, ra, rn, rc, rl, wc, (.pointer (some ⟨mb, 9, none⟩)), (.pointer (some ⟨mb, 10, none⟩)), (.slice na nx.length nc), (.pointer (some ⟨mb, 9, none⟩)), (.pointer (some ⟨mb, 9, none⟩)), (.slice (some ⟨sb, 0, none⟩) ss.length sc), (.pointer (some ⟨mb, 9, none⟩)), (.pointer (some ⟨mb, 10, none⟩)), (.slice na nx.length nc), (.int .i64 (nx.length : Int)), (.pointer (some ⟨sb, nx.length, none⟩)), (.slice uo un uc), (.slice ra rn rc), (.slice (some ⟨gb2, 0, none⟩) 1 1), (.slice (some ⟨gr, 0, none⟩) (nx.length + 1) cr), (.pointer (some ⟨mb, 9, none⟩)), (.pointer (some ⟨mb, 10, none⟩)), by first | (simp only [Act.put, List.setIfInBounds_toArray, List.set_cons_zero, List.set_cons_succ]; done) | (simp only [Act.put, List.setIfInBounds_toArray, List.set_cons_zero, List.set_cons_succ]; rfl), ?_⟩
            exact ⟨fun h => hF.out.f0 (by simpa using h), fun h => hF.out.f1 (by simpa using h), fun h => hF.out.f2 (by simpa using h), fun h => hF.out.f3 (by simpa using h), fun h => hF.out.f4 (by simpa using h), fun h => hF.out.f5 (by simpa using h), fun h => hF.out.f6 (by simpa using h), fun h => hF.out.f7 (by simpa using h), fun h => hF.out.f8 (by simpa using h), fun h => hF.out.f9 (by simpa using h), fun h => hF.out.f10 (by simpa using h), fun h => hF.out.f11 (by simpa using h), fun h => hF.out.f12 (by simpa using h), fun h => hF.out.f13 (by simpa using h), fun h => hF.out.f14 (by simpa using h), fun h => hF.out.f15 (by simpa using h), fun h => hF.out.f16 (by simpa using h), fun _ => trivial, fun i hi _ => by have := HD.out i hi; simp [this], fun h => by have := hF.out.cA (by simpa using h); simpa using this, fun h => by have := hF.out.cB (by simpa using h); simpa using this, fun h => by have := hF.out.c12 (by simpa using h); simpa using this, fun h => by have := hF.out.c11 (by simpa using h); simpa using this, fun h => by have := hF.out.c10a (by simpa using h); simpa using this, fun h => by have := hF.out.c10b (by simpa using h); simpa using this, fun h => by have := hF.out.c9 (by simpa using h); simpa using this, fun h => by have := hF.out.cF (by simpa using h); simpa using this, fun h => by have := HD.out 12 (by omega); simp [this] at h, fun h => hF.out.qc (by simpa using h), fun _ => by have := hF.out.qlt (HD.out 12 (by omega)); simpa [World.setCell] using this, fun _ => by have := hF.out.qsz (HD.out 12 (by omega)); simpa [World.setCell] using this, fun _ h => by simp at h, fun _ h => by simp at h, fun _ h => by have := HD.out 14 (by omega); simp [this] at h, fun _ h => by have := HD.out 14 (by omega); simp [this] at h, fun _ h => by simp at h, fun _ => ⟨W, HKP.out, HR1.out, rfl⟩⟩
        · intro d a W hI hall
          obtain ⟨gb2, gr, cr, ra, rn, rc, rl, wc, x42, x43, x44, x45, x46, x47, x48, x49, x50, x51, x52, x53, x54, x55, x56, x57, x58, rfl, hF⟩ := hI
          simp only [List.length_cons, List.length_nil] at hall
          obtain rfl := hF.out.f0 (hall 0 (by omega))
          obtain rfl := hF.out.f1 (hall 1 (by omega))
          obtain rfl := hF.out.f2 (hall 2 (by omega))
          obtain rfl := hF.out.f3 (hall 3 (by omega))
          obtain rfl := hF.out.f4 (hall 4 (by omega))
          obtain rfl := hF.out.f5 (hall 5 (by omega))
          obtain rfl := hF.out.f6 (hall 6 (by omega))
          obtain rfl := hF.out.f7 (hall 7 (by omega))
          obtain rfl := hF.out.f8 (hall 8 (by omega))
          obtain rfl := hF.out.f9 (hall 9 (by omega))
          obtain rfl := hF.out.f10 (hall 10 (by omega))
          obtain rfl := hF.out.f11 (hall 11 (by omega))
          obtain rfl := hF.out.f12 (hall 12 (by omega))
          obtain rfl := hF.out.f13 (hall 13 (by omega))
          obtain rfl := hF.out.f14 (hall 14 (by omega))
          obtain rfl := hF.out.f15 (hall 15 (by omega))
          obtain rfl := hF.out.f16 (hall 16 (by omega))
          obtain ⟨V, g1, g2, rfl⟩ := hF.out.fin (hall 17 (by omega))
          obtain ⟨q1, q2, kv9, sv9, us9, vs9, ks9, ss9, q3, q4⟩ := hF.out.qc (hall 12 (by omega))
          have HNXT : Hid (AlI w0 mb T n (.slice po ps.length pc) ps be bf bw br bm E F (V.setCell ⟨mb, 10, none⟩ (.slice (some ⟨gr, 0, none⟩) (nx.length + 1) cr)) ∧ lenAt (V.setCell ⟨mb, 10, none⟩ (.slice (some ⟨gr, 0, none⟩) (nx.length + 1) cr)) mb = nx.length + 1) := by
            have hw := q3.pushN g1 g2 (mv_lower (q2.kept g1 (by
              cases e : (Value.slice ra rn rc).ownBlock with
              | none => exact Or.inl rfl
              | some q => exact Or.inr (fun e2 => mown_ne q2 q3.nr (by decide) e e2.symm))) HBW.out)
            refine ⟨⟨kv9, sv9, _, us9, vs9, _, ks9, ss9, _, hw, HAU.out.put HSS.out q4 q1, ?_⟩, ?_⟩
            · have h1 := q4.few
              have h2 := HTN.out
              have h3 := HBOUND.out
              omega
            · have := mcell_blk hw.bx 10
              simp only [List.getElem?_toArray, List.getElem?_cons_zero, List.getElem?_cons_succ] at this
              unfold lenAt
              rw [this]
          clear hF hall g1 g2 q1 q2 q3 q4
          simp only [Act.put, List.setIfInBounds_toArray, List.set_cons_zero, List.set_cons_succ]
          generalize V.setCell ⟨mb, 10, none⟩ (.slice (some ⟨gr, 0, none⟩) (nx.length + 1) cr) = w5 at HNXT ⊢
          go_wp2_with fail
          go_roundw
          case rel => exact HNXT.out.1
          case measure => have h1 := HNXT.out.2; have h2 := HLA.out; have h3 := HBOUND.out; show 300 - lenAt w5 mb < 300 - lenAt w4 mb; omega
      · have hd1 : decide (nx.length < ss.length) = true := by simpa using hlt
        have hk1 : (nx.length : Int) < (ss.length : Int) := by omega
        have hk2 : ¬ (ss.length : Int) ≤ 200 := by omega
        have hk3 : (200 : Int) < (ss.length : Int) := by omega
        have HRW : Hid (w4.heap[w.heap.size + 1]? = some (.cells #[.slice none 0 0, .slice none 0 0] 99)) := mbox_next HRC2.out HMK.out.bw
        have a0 := mcell_blk HRW.out 0
        have z0 := mfrozen_blk HRW.out 0
        have hs1 := mblock_store (i := 0) HRW.out (.slice none 0 0)
        have z2 := mfrozen_blk hs1 1
        have a2 := mcell_blk hs1 1
        simp at a0 a2
        have hs2 := mblock_store (i := 1) hs1 (.slice none 0 0)
        have v0 := mcell_blk hs2 0
        have v1 := mcell_blk hs2 1
        simp at v0 v1
        have HFIN : Hid (AlQ w T n ps (.returned (.tuple #[.agg #[.slice none 0 0, .slice none 0 0], .int .i64 8])) ((w4.setCell ⟨w.heap.size + 1, 0, none⟩ (.slice none 0 0)).setCell ⟨w.heap.size + 1, 1, none⟩ (.slice none 0 0))) :=
          ⟨((HG2.out.below.trans (HMK.out.bw.mono HG2.out.below.size)).setCell (by simp) _).setCell (by simp) _, E, F, V, R, M, ks, ss, nx, HFA.out, HAU.out, Or.inl ⟨by have := HSK.out; omega, rfl⟩⟩
        clear hs1 hs2
        go_wp2_with fail
        exact bodyPost_ret (v := .tuple #[.agg #[(.slice none 0 0), (.slice none 0 0)], .int .i64 8]) (by simp [results, Try.results45, go_sem, v0, v1]) rfl HFIN.out
    · have hd1 : decide (nx.length < ss.length) = false := by simpa using hlt
      have hk1 : ¬ (nx.length : Int) < (ss.length : Int) := by omega
      by_cases hle : ss.length ≤ 200
      · have hk3 : ¬ (200 : Int) < (ss.length : Int) := by omega
        have HRW : Hid (w4.heap[w.heap.size + 1]? = some (.cells #[.slice none 0 0, .slice none 0 0] 99)) := mbox_next HRC2.out HMK.out.bw
        have a0 := mcell_blk HRW.out 0
        have z0 := mfrozen_blk HRW.out 0
        have hs1 := mblock_store (i := 0) HRW.out (.slice sa ss.length sc)
        have z2 := mfrozen_blk hs1 1
        have a2 := mcell_blk hs1 1
        simp at a0 a2
        have hs2 := mblock_store (i := 1) hs1 (.slice na nx.length nc)
        have v0 := mcell_blk hs2 0
        have v1 := mcell_blk hs2 1
        simp at v0 v1
        have e2 : ∀ q, q ≠ w.heap.size + 1 → ((w4.setCell ⟨w.heap.size + 1, 0, none⟩ (.slice sa ss.length sc)).setCell ⟨w.heap.size + 1, 1, none⟩ (.slice na nx.length nc)).heap[q]? = w4.heap[q]? := fun q hq => (mset_ne _ 1 _ hq).trans (mset_ne _ 0 _ hq)
        have eT : ∀ (q : Nat) cur t, t ≠ 99 → w4.heap[q]? = some (Obj.cells cur t (0, 0)) → ((w4.setCell ⟨w.heap.size + 1, 0, none⟩ (.slice sa ss.length sc)).setCell ⟨w.heap.size + 1, 1, none⟩ (.slice na nx.length nc)).heap[q]? = w4.heap[q]? := fun q cur t ht hq => e2 q (fun e => by subst e; rw [HRW.out] at hq; cases hq; exact ht rfl)
        have HFIN : Hid (AlQ w T n ps (.returned (.tuple #[.agg #[.slice sa ss.length sc, .slice na nx.length nc], .int .i64 0])) ((w4.setCell ⟨w.heap.size + 1, 0, none⟩ (.slice sa ss.length sc)).setCell ⟨w.heap.size + 1, 1, none⟩ (.slice na nx.length nc))) := by
          have hb := HG2.out.below.size
          have h1 := HSK.out
          have h2 := HAU.out.le
          have h3 : nx.length = ks.length := by omega
          refine ⟨((HG2.out.below.trans (HMK.out.bw.mono hb)).setCell (by simp) _).setCell (by simp) _, E, F, V, R, M, ks, ss, nx, HFA.out, HAU.out, Or.inr ⟨by omega, h3, sa, sc, na, nc, vs, ws, by rw [h1, h3], ?_, ?_, ?_, ?_⟩⟩
          · have := mv_lower (row_keep HMK.out.sr fun q hq => by obtain ⟨cur, hc⟩ := mown_blk HMK.out.sr hq; exact eT q cur 103 (by decide) hc) hb
            rw [← h1]; exact this
          · have := mv_lower (row_keep HMK.out.nr fun q hq => by obtain ⟨cur, hc⟩ := mown_blk HMK.out.nr hq; exact eT q cur 29 (by decide) hc) hb
            rw [← h3]; exact this
          · exact (HMK.out.si.keep fun q cur hq => eT q cur 145 (by decide) hq).lower hb
          · exact (HMK.out.ni.keep fun q cur hq => eT q cur 3 (by decide) hq).lower hb
        clear hs1 hs2 e2 eT
        go_wp2_with fail
        exact bodyPost_ret (v := .tuple #[.agg #[(.slice sa ss.length sc), (.slice na nx.length nc)], .int .i64 0]) (by simp [results, Try.results45, go_sem, v0, v1]) rfl HFIN.out
      · have hk3 : (200 : Int) < (ss.length : Int) := by omega
        have HRW : Hid (w4.heap[w.heap.size + 1]? = some (.cells #[.slice none 0 0, .slice none 0 0] 99)) := mbox_next HRC2.out HMK.out.bw
        have a0 := mcell_blk HRW.out 0
        have z0 := mfrozen_blk HRW.out 0
        have hs1 := mblock_store (i := 0) HRW.out (.slice none 0 0)
        have z2 := mfrozen_blk hs1 1
        have a2 := mcell_blk hs1 1
        simp at a0 a2
        have hs2 := mblock_store (i := 1) hs1 (.slice none 0 0)
        have v0 := mcell_blk hs2 0
        have v1 := mcell_blk hs2 1
        simp at v0 v1
        have HFIN : Hid (AlQ w T n ps (.returned (.tuple #[.agg #[.slice none 0 0, .slice none 0 0], .int .i64 8])) ((w4.setCell ⟨w.heap.size + 1, 0, none⟩ (.slice none 0 0)).setCell ⟨w.heap.size + 1, 1, none⟩ (.slice none 0 0))) :=
          ⟨((HG2.out.below.trans (HMK.out.bw.mono HG2.out.below.size)).setCell (by simp) _).setCell (by simp) _, E, F, V, R, M, ks, ss, nx, HFA.out, HAU.out, Or.inl ⟨by have := HSK.out; omega, rfl⟩⟩
        clear hs1 hs2
        go_wp2_with fail
        exact bodyPost_ret (v := .tuple #[.agg #[(.slice none 0 0), (.slice none 0 0)], .int .i64 8]) (by simp [results, Try.results45, go_sem, v0, v1]) rfl HFIN.out
end Go.Proofs.Ytpbnnmfjahckmaa
