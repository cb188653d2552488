/-
  The contract of the closure of pushkeep.LlTree: each node has the production that the row tells.
-/
import Derived.Test.YtldfiofgknmcgaaTrLl
import Derived.Test.YtldfiofgknmcgaaTrRYield
import Derived.Test.YtldfiofgknmcgaaTrEq
import Derived.Test.YtldfiofgknmcgaaLlMake
import Derived.Laws.EntriesVeiled
namespace Go.Proofs.Ytldfiofgknmcgaa
open Go.RowKit
open Cg

theorem Cg.shL_drop2 {ps : List Pd} : ∀ (i : Nat) {l : List T} {ss : List Sy}, shL ps l ss = true → shL ps (l.drop i) (ss.drop i) = true
  | 0, l, ss, h => h
  | i + 1, [], ss, h => by rw [shL] at h; simp at h; subst h; simp [shL]
  | i + 1, t :: l, [], h => by rw [shL] at h; simp at h
  | i + 1, t :: l, s :: ss, h => by
    rw [shL] at h; simp at h
    simpa using shL_drop2 i h.2
theorem Cg.ylL_split2 (ps : List Pd) : ∀ (i : Nat) (l : List T) (ss : List Sy), ylL ps l ss = ylL ps (l.take i) ss ++ ylL ps (l.drop i) (ss.drop i)
  | 0, l, ss => by simp [ylL]
  | i + 1, [], ss => by simp [ylL]
  | i + 1, t :: l, ss => by
    rw [List.take_succ_cons, List.drop_succ_cons, ylL, ylL, ylL_split2 ps i l ss.tail, List.append_assoc]
    cases ss <;> simp
theorem lheap_apart {w : World} {b q i : Nat} {v : Value} {o : Obj} (h : w.heap[b]? = some o) (hn : b ≠ q) : (w.setCell ⟨q, i, none⟩ v).heap[b]? = some o := by
  rw [Below.heap_setCell _ _ _ _ (by simpa using hn)]; exact h
theorem lty_apart {w : World} {b q : Nat} {cs ds : Array Value} {s t : TypeId} {fr fs : Nat × Nat} (h : w.heap[b]? = some (.cells cs s fr)) (k : w.heap[q]? = some (.cells ds t fs)) (hn : s ≠ t) : b ≠ q := fun e => by
  subst e; rw [h] at k; simp at k; exact hn k.2.1
/-- What LlTree holds. -/
structure Ly (w0 : World) (na wb rb gb fb T n : Nat) (ga : Option Addr) (gm gc : Nat) (wa : Option Addr) (wn wc : Nat) (ra : Option Addr) (rn rc : Nat) (at0 : Nat) (W : World) : Prop where
  a : W.heap[na]? = some (.cells #[.int .i64 (at0 : Int)] 3)
  b : W.heap[wb]? = some (.cells #[.slice wa wn wc] 31)
  r : W.heap[rb]? = some (.cells #[.slice ra rn rc] 60)
  g : W.heap[gb]? = some (.cells #[.int .i64 (T : Int), .int .i64 (n : Int), .slice ga gm gc] 24)
  f : W.heap[fb]? = some (.cells #[.func (Fn.func 28) #[] #[.pointer (some ⟨gb, 0, none⟩), .pointer (some ⟨na, 0, none⟩), .pointer (some ⟨wb, 0, none⟩), .pointer (some ⟨rb, 0, none⟩), .pointer (some ⟨fb, 0, none⟩)]] 64)
  ge : w0.heap.size ≤ na
  bel : Below w0.heap.size w0 W
theorem Ly.next {w0 : World} {na wb rb gb fb T n : Nat} {ga : Option Addr} {gm gc : Nat} {wa : Option Addr} {wn wc : Nat} {ra : Option Addr} {rn rc : Nat} {at0 : Nat} {W W' : World} (h : Ly w0 na wb rb gb fb T n ga gm gc wa wn wc ra rn rc at0 W) (hb : Below W.heap.size W W') : Ly w0 na wb rb gb fb T n ga gm gc wa wn wc ra rn rc at0 W' := ⟨tbox_next h.a hb, tbox_next h.b hb, tbox_next h.r hb, tbox_next h.g hb, tbox_next h.f hb, h.ge, h.bel.trans (hb.mono h.bel.size)⟩
theorem Ly.set {w0 : World} {na wb rb gb fb T n : Nat} {ga : Option Addr} {gm gc : Nat} {wa : Option Addr} {wn wc : Nat} {ra : Option Addr} {rn rc : Nat} {at0 : Nat} {W : World} (h : Ly w0 na wb rb gb fb T n ga gm gc wa wn wc ra rn rc at0 W) (m : Nat) : Ly w0 na wb rb gb fb T n ga gm gc wa wn wc ra rn rc m (W.setCell ⟨na, 0, none⟩ (.int .i64 (m : Int))) ∧ Fy Zi W (W.setCell ⟨na, 0, none⟩ (.int .i64 (m : Int))) :=
  ⟨⟨by simpa using tblock_store (i := 0) h.a (.int .i64 (m : Int)), lheap_apart h.b (lty_apart h.b h.a (by decide)), lheap_apart h.r (lty_apart h.r h.a (by decide)), lheap_apart h.g (lty_apart h.g h.a (by decide)), lheap_apart h.f (lty_apart h.f h.a (by decide)), h.ge, h.bel.setCell h.ge _⟩, Fy.set h.a (show Zi 3 from rfl) _⟩
/-- What is the same all along. -/
structure Ld (w0 : World) (T n : Nat) (ga : Option Addr) (gm gc : Nat) (wa : Option Addr) (wn wc : Nat) (ra : Option Addr) (rn rc : Nat) (ps : List Pd) (E : Nat → Bool) (F V : Nat → Wd) (R M : Nat → Bool) (ws : List Int) : Prop where
  pds : Pds w0 (.slice ga gm gc) ps
  gml : ps.length = gm
  rg : Rg (T : Int) n ps
  fa : Fa ps E F V R M
  wd : Nms w0 (.slice wa wn wc) ws
  wnl : ws.length = wn
  wx : ∀ x ∈ ws, 0 ≤ x ∧ x < (T : Int)
  wl : wn ≤ 100000
  rows : Rws w0 (.slice ra rn rc) (rowsL ps (sts ps E F V) T n)
  cls : clsN ps (sts ps E F V) T n = []

set_option maxHeartbeats 16000000 in
set_option maxRecDepth 20000 in
theorem lltree_all (w0 : World) (na wb rb gb fb T n : Nat) (ga : Option Addr) (gm gc : Nat) (wa : Option Addr) (wn wc : Nat) (ra : Option Addr) (rn rc : Nat) (ps : List Pd) (E : Nat → Bool) (F V : Nat → Wd) (R M : Nat → Bool) (ws : List Int) (hcc : Ld w0 T n ga gm gc wa wn wc ra rn rc ps E F V R M ws) (P : Nat → Prop) (m : Nat) : ∀ (t : Cg.T), t.sz ≤ m → ∀ (v : Value) (s : Sy) (pre post : List Int) (w : World), Tx w0 P v t → sh ps t s = true → s.1 ≠ 1 → ws = pre ++ (yl ps t s ++ post) → le (nx post) (V s.2.toNat) → Ly w0 na wb rb gb fb T n ga gm gc wa wn wc ra rn rc pre.length w →
    Calls Try.prog 28 #[v, .pointer (some ⟨gb, 0, none⟩), .pointer (some ⟨na, 0, none⟩), .pointer (some ⟨wb, 0, none⟩), .pointer (some ⟨rb, 0, none⟩), .pointer (some ⟨fb, 0, none⟩)] w fun e w' => e = .returned (.bool true) ∧ Ly w0 na wb rb gb fb T n ga gm gc wa wn wc ra rn rc (pre.length + (yl ps t s).length) w' ∧ Fy Zi w w' := by
  induction m with
  | zero => intro t hm; have := t.sz_pos; omega
  | succ m ih =>
    intro t hm v s pre post w hx hsh hs hws hV hlo
    have HCC : Hid (Ld w0 T n ga gm gc wa wn wc ra rn rc ps E F V R M ws) := hcc
    have HIH : Hid _ := ih
    clear ih hcc
    obtain ⟨p, k, ao, cap, kids, vals, rfl, rfl, hkm, -, -⟩ := hx.shape
    have HX : Hid (Tx w0 P (.agg #[.int .i64 p, .int .i64 k, .slice ao kids.length cap]) (.mk p k kids)) := hx
    have HKS : Hid (∀ s ∈ kids, s.sz ≤ m) := fun s hs => by have := Cg.T.sz_lt (t := .mk p k kids) hs; omega
    obtain ⟨hpr, hhd, -, hsl⟩ := sh_node hsh hs
    have HYE : Hid (yl ps (.mk p k kids) s = ylL ps kids (bodyOf ps p)) := by show _ = _; rw [yl, if_neg hs]
    have hle := isPr_le hpr
    obtain ⟨z, rfl⟩ : ∃ z : Nat, p = (z : Int) := ⟨p.toNat, by omega⟩
    obtain ⟨b, o, bo, bcc, rfl, -, hbl, hc0, -, -⟩ := Pds.prod HCC.out.pds hpr
    simp only [Int.toNat_natCast] at hc0
    rw [hhd] at hc0
    obtain ⟨hq0, hqm, hqe, hqb⟩ := body_mem hpr
    have hrh : ∃ hd : Nat, s.2 = (hd : Int) ∧ hd < n := by
      obtain ⟨j, hj, rfl⟩ := List.mem_iff_getElem.1 hqm
      obtain ⟨m2, h1, -, h3⟩ := HCC.out.rg.hd j hj
      exact ⟨m2, by rw [← hhd, ← hqe, h1], h3⟩
    obtain ⟨hd, hde, hdn⟩ := hrh
    rw [hde] at hc0
    rw [hde, Int.toNat_natCast] at hV
    have HV0 : Hid (le (nx post) (V hd)) := hV
    have HQM : Hid (∃ qq ∈ ps, qq.1 = (hd : Int) ∧ qq.2 = bodyOf ps (z : Int)) := ⟨hq0, hqm, by rw [hqe, hhd, hde], hqb⟩
    have hz0 : (0 : Int) ≤ (z : Int) := by omega
    have hz : (z : Int) < (gm : Int) := by rw [← HCC.out.gml]; exact hle.2
    have hz2 : z < gm := by omega
    obtain ⟨col, HCOL⟩ : ∃ col, Hid (colOf T (yl ps (.mk (z : Int) k kids) s ++ post) = col) := ⟨_, (rfl : colOf T (yl ps (.mk (z : Int) k kids) s ++ post) = _)⟩
    have hxs : ∀ x ∈ yl ps (.mk (z : Int) k kids) s ++ post, 0 ≤ x ∧ x < (T : Int) := fun x hx2 => HCC.out.wx x (by rw [hws]; exact List.mem_append_right _ hx2)
    have hcT : col ≤ T := by
      rw [← HCOL.out]
      cases hy : yl ps (.mk (z : Int) k kids) s ++ post with
      | nil => exact Nat.le_refl _
      | cons x r => have := hxs x (by rw [hy]; simp); simp only [colOf]; omega
    have HROW : Hid (rowA ps (sts ps E F V) T hd col = (z : Int)) := by
      have hT : T ≤ 60 := by have := HCC.out.rg.t2; omega
      obtain ⟨h1, h2⟩ := may_node HCC.out.fa hT hsh hs hde hV hxs
      rw [HCOL.out] at h2
      exact Cg.row_one HCC.out.cls hdn (by omega) h1 h2
    obtain ⟨rcb, rco, rfl, hrb, uo, uc, HRC⟩ : ∃ rcb rco, ra = some ⟨rcb, rco, none⟩ ∧ rcb < w0.heap.size ∧ ∃ uo uc, Hid (w0.cell? ⟨rcb, rco + hd, none⟩ = some (.slice (some uo) (T + 1) uc) ∧ uo.spot = none ∧ uo.block < w0.heap.size ∧ w0.cell? ⟨uo.block, uo.off + col, none⟩ = some (.int .i64 (z : Int)) ∧ rn = n) := by
      obtain ⟨ao2, cap2, he, -, hc⟩ := HCC.out.rows
      simp only [Value.slice.injEq] at he
      have hl : hd < (rowsL ps (sts ps E F V) T n).length := by rw [rowsL_length]; exact hdn
      rcases hc with h0 | ⟨b9, o9, e1, e2, e3⟩
      · rw [h0] at hl; simp at hl
      · obtain ⟨u, hu, hi⟩ := e3 hd hl
        have hr1 : (rowsL ps (sts ps E F V) T n)[hd] = rowL ps (sts ps E F V) T hd (T + 1) := by simp [rowsL]
        rw [hr1] at hi
        obtain ⟨ao3, cap3, rfl, -, hc3⟩ := hi
        rcases hc3 with h0 | ⟨b8, o8, f1, f2, f3⟩
        · have := rowL_length ps (sts ps E F V) T hd (T + 1); rw [h0] at this; simp at this
        · have hcl : col < (rowL ps (sts ps E F V) T hd (T + 1)).length := by rw [rowL_length]; omega
          have h7 := f3 col hcl
          have h8 : (rowL ps (sts ps E F V) T hd (T + 1))[col] = (z : Int) := by rw [← HROW.out]; simp [rowL]
          rw [h8] at h7
          refine ⟨b9, o9, he.1.trans e1, e2, ⟨b8, o8, none⟩, cap3, ?_, rfl, f2, h7, by rw [he.2.1, rowsL_length]⟩
          rw [hu, f1, rowL_length]
    obtain ⟨ub, uof, usp⟩ := uo
    have HRS : Hid (w0.cell? ⟨rcb, rco + hd, none⟩ = some (.slice (some ⟨ub, uof, none⟩) (T + 1) uc) ∧ ub < w0.heap.size ∧ w0.cell? ⟨ub, uof + col, none⟩ = some (.int .i64 (z : Int))) := by
      obtain ⟨r1, r2, r3, r4, r5⟩ := HRC.out
      simp only at r2
      subst r2
      exact ⟨r1, r3, r4⟩
    have HRN : Hid (rn = n) := HRC.out.2.2.2.2
    clear HRC
    obtain ⟨body, HBD⟩ : ∃ body, Hid (bodyOf ps (z : Int) = body) := ⟨_, (rfl : bodyOf ps (z : Int) = _)⟩
    rw [HYE.out] at HCOL
    rw [HBD.out] at HYE hsl HQM HCOL
    have HSL : Hid (shL ps kids body = true) := hsl
    have HWS : Hid (ws = pre ++ (ylL ps kids body ++ post)) := by show _ = _; rw [← HYE.out]; exact hws
    have HC0 : Hid (w0.cell? ⟨b, o + z * 2, none⟩ = some (.int .i64 (hd : Int))) := hc0
    rw [HYE.out]
    have HLO : Hid (Ly w0 na wb rb gb fb T n (some ⟨b, o, none⟩) gm gc wa wn wc (some ⟨rcb, rco, none⟩) rn rc pre.length w) := hlo
    obtain ⟨kn, HKN⟩ : ∃ kn, Hid (kids.length = kn) := ⟨_, (rfl : kids.length = _)⟩
    rw [HKN.out] at HX hkm ⊢
    obtain ⟨pl, HPL⟩ : ∃ pl, Hid (pre.length = pl) := ⟨_, (rfl : pre.length = _)⟩
    rw [HPL.out] at HLO ⊢
    have HPLW : Hid (pl + (ylL ps kids body).length + post.length = wn) := by
      have h1 := HCC.out.wnl
      rw [HWS.out] at h1
      simp only [List.length_append] at h1
      rw [HPL.out] at h1
      show _ = _
      omega
    have hwl : wn ≤ 100000 := HCC.out.wl
    have HWC : Hid (pl < wn → ∃ wcb wco, wa = some ⟨wcb, wco, none⟩ ∧ wcb < w0.heap.size ∧ w0.cell? ⟨wcb, wco + pl, none⟩ = some (.int .i64 (col : Int))) := fun hlt => by
      obtain ⟨ao2, cap2, he, -, hc⟩ := HCC.out.wd
      simp only [Value.slice.injEq] at he
      have h1 := HCC.out.wnl
      rcases hc with h0 | ⟨b9, o9, e1, e2, e3⟩
      · rw [h0] at h1; simp at h1; omega
      · refine ⟨b9, o9, he.1.trans e1, e2, ?_⟩
        have h2 := e3 pl (by omega)
        cases hy : ylL ps kids body ++ post with
        | nil =>
          have h9 := congrArg List.length hy
          simp only [List.length_append, List.length_nil] at h9
          have := HPLW.out
          omega
        | cons x r =>
          have h3 : ws[pl]'(by omega) = x := by
            have h4 : ws[pl]? = some x := by rw [HWS.out, hy, List.getElem?_append_right (by rw [HPL.out]; omega), HPL.out, Nat.sub_self]; rfl
            rw [List.getElem?_eq_getElem (by omega)] at h4
            simpa using h4
          have h5 := HCC.out.wx x (by rw [HWS.out, hy]; simp)
          have h6 := HCOL.out
          rw [hy] at h6
          simp only [colOf] at h6
          rw [h3] at h2
          rw [show (col : Int) = x by omega]
          exact h2
    have HCE : Hid (¬ pl < wn → col = T) := fun hlt => by
      have : ylL ps kids body ++ post = [] := List.length_eq_zero_iff.1 (by rw [List.length_append]; have := HPLW.out; omega)
      rw [← HCOL.out, this]; rfl
    clear hx hsh hs hws hlo hle hpr hhd hsl hq0 hqm hqe hqb hde hc0 hxs hV
    have HG1 : Hid ((w.alloc (Obj.cells #[.int .i64 (z : Int), .int .i64 k, .slice ao kn cap] 27)).heap[w.heap.size]? = some (.cells #[.int .i64 (z : Int), .int .i64 k, .slice ao kn cap] 27)) := heap_alloc_new _ _
    have HL1 : Hid (Ly w0 na wb rb gb fb T n (some ⟨b, o, none⟩) gm gc wa wn wc (some ⟨rcb, rco, none⟩) rn rc pl (w.alloc (Obj.cells #[.int .i64 (z : Int), .int .i64 k, .slice ao kn cap] 27))) := HLO.out.next (below_alloc _ _)
    have HF1 : Hid (Fy Zi w (w.alloc (Obj.cells #[.int .i64 (z : Int), .int .i64 k, .slice ao kn cap] 27))) := Fy.of (below_alloc _ _)
    go_enter Try.func28, Try.ntmps28
    go_upto_region 1 with fail
    obtain ⟨g, HGG⟩ : ∃ g, Hid (w.heap.size = g) := ⟨_, (rfl : w.heap.size = _)⟩
    rw [HGG.out] at HG1 ⊢
    generalize w.alloc (Obj.cells #[.int .i64 (z : Int), .int .i64 k, .slice ao kn cap] 27) = w1 at HG1 HL1 HF1 ⊢
    clear HLO
    have t0 := tcell_blk HL1.out.g 0
    have t2 := tcell_blk HL1.out.g 2
    have a0 := tcell_blk HL1.out.a 0
    have b0 := tcell_blk HL1.out.b 0
    have r0 := tcell_blk HL1.out.r 0
    have e0 := tcell_blk HG1.out 0
    have e2 := tcell_blk HG1.out 2
    simp only [List.getElem?_toArray, List.getElem?_cons_zero, List.getElem?_cons_succ] at t0 t2 a0 b0 r0 e0 e2
    have v0 : w1.cell? ⟨b, o + z * 2, none⟩ = some (.int .i64 (hd : Int)) := (HL1.out.bel.cell (p := ⟨b, o + z * 2, none⟩) hbl).trans HC0.out
    have v1 : w1.cell? ⟨rcb, rco + hd, none⟩ = some (.slice (some ⟨ub, uof, none⟩) (T + 1) uc) := (HL1.out.bel.cell (p := ⟨rcb, rco + hd, none⟩) hrb).trans HRS.out.1
    have v2 : w1.cell? ⟨ub, uof + col, none⟩ = some (.int .i64 (z : Int)) := (HL1.out.bel.cell (p := ⟨ub, uof + col, none⟩) HRS.out.2.1).trans HRS.out.2.2
    have hdI : (hd : Int) < (rn : Int) := by rw [HRN.out]; omega
    have hdN : hd < rn := by rw [HRN.out]; exact hdn
    have hd0 : (0 : Int) ≤ (hd : Int) := by omega
    have hc1 : (col : Int) < ((T + 1 : Nat) : Int) := by omega
    have hc2 : (0 : Int) ≤ (col : Int) := by omega
    have hc3 : col < T + 1 := by omega
    have hzz : ((z : Int) != (z : Int)) = false := by simp
    obtain ⟨T1, HT1⟩ : ∃ T1, Hid (T + 1 = T1) := ⟨_, (rfl : T + 1 = _)⟩
    rw [HT1.out] at v1 hc1 hc3
    have hwl2 : pl ≤ wn := by have := HPLW.out; omega
    by_cases hlw : pl < wn
    · obtain ⟨wcb, wco, rfl, hwb, hwc⟩ := HWC.out hlw
      have b1 : w1.cell? ⟨wcb, wco + pl, none⟩ = some (.int .i64 (col : Int)) := (HL1.out.bel.cell (p := ⟨wcb, wco + pl, none⟩) hwb).trans hwc
      have hli : (pl : Int) < (wn : Int) := by omega
      have hl0 : (0 : Int) ≤ (pl : Int) := by omega
      clear hwc HWC HCE
      go_upto_region 4 with fail
      go_quiet (fail)
      have HI0 : Hid (Ly w0 na wb rb gb fb T n (some ⟨b, o, none⟩) gm gc (some ⟨wcb, wco, none⟩) wn wc (some ⟨rcb, rco, none⟩) rn rc (pl) (w1.drewN nq) ∧ Fy Zi w (w1.drewN nq) ∧ (w1.drewN nq).heap[g]? = some (.cells #[.int .i64 (z : Int), .int .i64 k, .slice ao kn cap] 27)) := ⟨HL1.out.next (Go.Joins.below_draws _ _ _), HF1.out.trans (Fy.of (Go.Joins.below_draws _ _ _)), tbox_next HG1.out (Go.Joins.below_draws _ _ _)⟩
      generalize w1.drewN nq = w2 at HI0 ⊢
      clear t0 t2 a0 b0 r0 e0 e2 v0 v1 v2 HL1 HF1 HG1 b1
      have e2 := tcell_blk HI0.out.2.2 2
      simp only [List.getElem?_toArray, List.getElem?_cons_zero, List.getElem?_cons_succ] at e2
      go_upto_region 7 with fail
      clear e2
      go_loopw [40] (fun y wr => ∃ i : Nat, i ≤ kn ∧ y = .int .i64 (i : Int) ∧ Hid (Ly w0 na wb rb gb fb T n (some ⟨b, o, none⟩) gm gc (some ⟨wcb, wco, none⟩) wn wc (some ⟨rcb, rco, none⟩) rn rc (pl + (ylL ps (kids.take i) body).length) wr ∧ Fy Zi w wr ∧ wr.heap[g]? = some (.cells #[.int .i64 (z : Int), .int .i64 k, .slice ao kn cap] 27))) (fun y _ => kn - (intOf y).toNat)
      case atStart =>
        refine ⟨0, by omega, rfl, ?_⟩
        rw [List.take_zero, ylL]
        exact HI0.out
      case round =>
        obtain ⟨i, hi, rfl, HI⟩ := hrel
        clear HI0
        by_cases hlt : i < kn
        · have hik : i < kids.length := by rw [HKN.out]; exact hlt
          have hib : i < body.length := by rw [← shL_length HSL.out]; exact hik
          obtain ⟨b2, o2, p', k', a', n', c', rfl, KD⟩ := HX.out.kid i hik
          have hsk := shL_at HSL.out i hik
          have hg : body.getD i (0, 0) = body[i] := by rw [List.getD_eq_getElem?_getD, List.getElem?_eq_getElem hib]; rfl
          rw [hg] at hsk
          have hl : (kids.take i).length = i := by rw [List.length_take]; omega
          have HT : Hid (ylL ps (kids.take (i + 1)) body = ylL ps (kids.take i) body ++ yl ps kids[i] body[i]) := by
            show _ = _
            rw [List.take_succ_eq_append_getElem hik, ylL_snoc, hl, hg]
          have hsp := ylL_split2 ps (i + 1) kids body
          have hlen : pl + (ylL ps (kids.take (i + 1)) body).length ≤ wn := by
            have := HPLW.out
            rw [hsp, List.length_append] at this
            omega
          have hneg := sh_neg hsk
          rw [← KD.pr] at hneg
          have hbel := HI.out.1.bel
          have q0 : wr.cell? ⟨b2, o2 + i * 3, none⟩ = some (.int .i64 p') := (hbel.cell (p := ⟨b2, o2 + i * 3, none⟩) KD.lt).trans KD.c0
          have q1 : wr.cell? ⟨b2, o2 + i * 3 + 1, none⟩ = some (.int .i64 k') := (hbel.cell (p := ⟨b2, o2 + i * 3 + 1, none⟩) KD.lt).trans KD.c1
          have q2 : wr.cell? ⟨b2, o2 + i * 3 + 2, none⟩ = some (.slice a' n' c') := (hbel.cell (p := ⟨b2, o2 + i * 3 + 2, none⟩) KD.lt).trans KD.c2
          have hk1 : (i : Int) < (kn : Int) := by omega
          have hk0 : (0 : Int) ≤ (i : Int) := by omega
          have HWA : Hid (Below wr.heap.size wr (wr.alloc (Obj.cells #[.int .i64 p', .int .i64 k', .slice a' n' c'] 27))) := below_alloc _ _
          have HKB : Hid ((wr.alloc (Obj.cells #[.int .i64 p', .int .i64 k', .slice a' n' c'] 27)).heap[wr.heap.size]? = some (.cells #[.int .i64 p', .int .i64 k', .slice a' n' c'] 27)) := heap_alloc_new _ _
          obtain ⟨at1, HAT⟩ : ∃ at1, Hid (pl + (ylL ps (kids.take i) body).length = at1) := ⟨_, (rfl : pl + (ylL ps (kids.take i) body).length = _)⟩
          have hI2 := HI.out
          rw [HAT.out] at hI2
          have HL2 : Hid (Ly w0 na wb rb gb fb T n (some ⟨b, o, none⟩) gm gc (some ⟨wcb, wco, none⟩) wn wc (some ⟨rcb, rco, none⟩) rn rc (at1) (wr.alloc (Obj.cells #[.int .i64 p', .int .i64 k', .slice a' n' c'] 27)) ∧ Fy Zi w (wr.alloc (Obj.cells #[.int .i64 p', .int .i64 k', .slice a' n' c'] 27)) ∧ (wr.alloc (Obj.cells #[.int .i64 p', .int .i64 k', .slice a' n' c'] 27)).heap[g]? = some (.cells #[.int .i64 (z : Int), .int .i64 k, .slice (some ⟨b2, o2, none⟩) kn cap] 27)) := ⟨hI2.1.next HWA.out, hI2.2.1.trans (Fy.of HWA.out), tbox_next hI2.2.2 HWA.out⟩
          have HAT2 : Hid (pl + (ylL ps (kids.take (i + 1)) body).length = at1 + (yl ps kids[i] body[i]).length) := by show _ = _; rw [HT.out, List.length_append, ← HAT.out]; omega
          clear hI2 HI
          go_upto_region 9 with fail
          obtain ⟨kb, HKBN⟩ : ∃ kb, Hid (wr.heap.size = kb) := ⟨_, (rfl : wr.heap.size = _)⟩
          rw [HKBN.out] at HKB ⊢
          generalize wr.alloc (Obj.cells #[.int .i64 p', .int .i64 k', .slice a' n' c'] 27) = w3 at HKB HL2 ⊢
          clear q0 q1 q2 HWA HKBN
          have e0 := tcell_blk HKB.out 0
          have e1 := tcell_blk HKB.out 1
          have e2 := tcell_blk HKB.out 2
          have a9 := tcell_blk HL2.out.1.a 0
          have f9 := tfrozen_blk HL2.out.1.a 0
          have fx := tcell_blk HL2.out.1.f 0
          simp only [List.getElem?_toArray, List.getElem?_cons_zero, List.getElem?_cons_succ] at e0 e1 e2 a9 fx
          by_cases hpn : p' < 0
          · have HY : Hid ((yl ps kids[i] body[i]).length = 1) := by
              show _ = _
              have h1 := hneg.1 hpn
              rw [sh_is_leaf hsk h1, yl, if_pos h1]; rfl
            rw [HY.out] at HAT2
            have hat : at1 + 1 ≤ 100000 := by rw [← HAT2.out]; omega
            have HR : Hid (Ly w0 na wb rb gb fb T n (some ⟨b, o, none⟩) gm gc (some ⟨wcb, wco, none⟩) wn wc (some ⟨rcb, rco, none⟩) rn rc (at1 + 1) (w3.setCell ⟨na, 0, none⟩ (.int .i64 ((at1 : Int) + 1))) ∧ Fy Zi w (w3.setCell ⟨na, 0, none⟩ (.int .i64 ((at1 : Int) + 1))) ∧ (w3.setCell ⟨na, 0, none⟩ (.int .i64 ((at1 : Int) + 1))).heap[g]? = some (.cells #[.int .i64 (z : Int), .int .i64 k, .slice (some ⟨b2, o2, none⟩) kn cap] 27)) := by
              have h1 := HL2.out.1.set (at1 + 1)
              exact ⟨h1.1, HL2.out.2.1.trans h1.2, h1.2.2 _ _ _ _ HL2.out.2.2 (by unfold Zi; omega)⟩
            clear hsk hneg KD hbel
            go_wp2_with fail
            go_roundw
            case rel => exact ⟨i + 1, by omega, by go_num, by rw [HAT2.out]; exact HR.out⟩
            case measure => simp [intOf]; omega
          · have hpd : decide (p' < 0) = false := by simp; omega
            have hs1 : body[i].1 ≠ 1 := fun e => hpn (hneg.2 e)
            have hs2 : body[i].1 = 2 := by
              obtain ⟨qq, hqm, -, hqb⟩ := HQM.out
              obtain ⟨j, hj, rfl⟩ := List.mem_iff_getElem.1 hqm
              have := HCC.out.rg.ok j hj body[i] (by rw [hqb]; exact List.getElem_mem hib)
              rcases this with h | h
              · exact absurd h.1 hs1
              · exact h.1
            have HCL : Hid (Calls Try.prog 28 #[.agg #[.int .i64 p', .int .i64 k', .slice a' n' c'], .pointer (some ⟨gb, 0, none⟩), .pointer (some ⟨na, 0, none⟩), .pointer (some ⟨wb, 0, none⟩), .pointer (some ⟨rb, 0, none⟩), .pointer (some ⟨fb, 0, none⟩)] w3 fun e w' => e = .returned (.bool true) ∧ Ly w0 na wb rb gb fb T n (some ⟨b, o, none⟩) gm gc (some ⟨wcb, wco, none⟩) wn wc (some ⟨rcb, rco, none⟩) rn rc (at1 + (yl ps kids[i] body[i]).length) w' ∧ Fy Zi w3 w') := by
              obtain ⟨qq, hqm, hqh, hqb⟩ := HQM.out
              have hpl : (pre ++ ylL ps (kids.take i) body).length = at1 := by rw [List.length_append, HPL.out]; exact HAT.out
              have hcall := HIH.out kids[i] (HKS.out _ (List.getElem_mem hik)) _ body[i] (pre ++ ylL ps (kids.take i) body) (ylL ps (kids.drop (i + 1)) (body.drop (i + 1)) ++ post) w3 KD.tx hsk hs1 (by rw [HWS.out, hsp, HT.out]; simp) ?_ (by rw [hpl]; exact HL2.out.1)
              · rw [hpl] at hcall; exact hcall
              · have h1 := HCC.out.fa.w.cl.st qq hqm i (by rw [hqb]; exact hib) (by simp only [hqb]; exact hs2)
                simp only [hqb] at h1
                rw [hqh, Int.toNat_natCast] at h1
                exact le_trans (next_shL HCC.out.fa.m.cl HCC.out.fa.e.cl HCC.out.fa.f.cl (shL_drop2 (i + 1) HSL.out) post _ (Or.inr HV0.out)) h1
            clear hsk hneg KD hbel hs1 hs2
            go_wp2_with fail
            refine HCL.out.mono ?_
            rintro _ w4 ⟨rfl, hl3, hf3⟩
            have HR : Hid (Ly w0 na wb rb gb fb T n (some ⟨b, o, none⟩) gm gc (some ⟨wcb, wco, none⟩) wn wc (some ⟨rcb, rco, none⟩) rn rc (pl + (ylL ps (kids.take (i + 1)) body).length) w4 ∧ Fy Zi w w4 ∧ w4.heap[g]? = some (.cells #[.int .i64 (z : Int), .int .i64 k, .slice (some ⟨b2, o2, none⟩) kn cap] 27)) := ⟨by rw [HAT2.out]; exact hl3, HL2.out.2.1.trans hf3, hf3.2 _ _ _ _ HL2.out.2.2 (by unfold Zi; omega)⟩
            clear hl3 hf3 e0 e1 e2 a9 f9 fx
            go_wp2_with fail
            go_roundw
            case rel => exact ⟨i + 1, by omega, by go_num, HR⟩
            case measure => simp [intOf]; omega
        · have hk1 : ¬ (i : Int) < (kn : Int) := by omega
          have hI2 := HI.out
          rw [List.take_of_length_le (by rw [HKN.out]; omega)] at hI2
          have HI2 : Hid (Ly w0 na wb rb gb fb T n (some ⟨b, o, none⟩) gm gc (some ⟨wcb, wco, none⟩) wn wc (some ⟨rcb, rco, none⟩) rn rc (pl + (ylL ps kids body).length) wr ∧ Fy Zi w wr) := ⟨hI2.1, hI2.2.1⟩
          clear hI2 HI
          go_wp2_with fail
          go_ret
          exact ⟨by simp, HI2.out.1, HI2.out.2⟩
    · have hli : ¬ (pl : Int) < (wn : Int) := by omega
      have hce := HCE.out hlw
      subst hce
      clear HCE HWC
      go_upto_region 4 with fail
      go_quiet (fail)
      have HI0 : Hid (Ly w0 na wb rb gb fb col n (some ⟨b, o, none⟩) gm gc wa wn wc (some ⟨rcb, rco, none⟩) rn rc (pl) (w1.drewN nq) ∧ Fy Zi w (w1.drewN nq) ∧ (w1.drewN nq).heap[g]? = some (.cells #[.int .i64 (z : Int), .int .i64 k, .slice ao kn cap] 27)) := ⟨HL1.out.next (Go.Joins.below_draws _ _ _), HF1.out.trans (Fy.of (Go.Joins.below_draws _ _ _)), tbox_next HG1.out (Go.Joins.below_draws _ _ _)⟩
      generalize w1.drewN nq = w2 at HI0 ⊢
      clear t0 t2 a0 b0 r0 e0 e2 v0 v1 v2 HL1 HF1 HG1
      have e2 := tcell_blk HI0.out.2.2 2
      simp only [List.getElem?_toArray, List.getElem?_cons_zero, List.getElem?_cons_succ] at e2
      go_upto_region 7 with fail
      clear e2
      go_loopw [40] (fun y wr => ∃ i : Nat, i ≤ kn ∧ y = .int .i64 (i : Int) ∧ Hid (Ly w0 na wb rb gb fb col n (some ⟨b, o, none⟩) gm gc wa wn wc (some ⟨rcb, rco, none⟩) rn rc (pl + (ylL ps (kids.take i) body).length) wr ∧ Fy Zi w wr ∧ wr.heap[g]? = some (.cells #[.int .i64 (z : Int), .int .i64 k, .slice ao kn cap] 27))) (fun y _ => kn - (intOf y).toNat)
      case atStart =>
        refine ⟨0, by omega, rfl, ?_⟩
        rw [List.take_zero, ylL]
        exact HI0.out
      case round =>
        obtain ⟨i, hi, rfl, HI⟩ := hrel
        clear HI0
        by_cases hlt : i < kn
        · have hik : i < kids.length := by rw [HKN.out]; exact hlt
          have hib : i < body.length := by rw [← shL_length HSL.out]; exact hik
          obtain ⟨b2, o2, p', k', a', n', c', rfl, KD⟩ := HX.out.kid i hik
          have hsk := shL_at HSL.out i hik
          have hg : body.getD i (0, 0) = body[i] := by rw [List.getD_eq_getElem?_getD, List.getElem?_eq_getElem hib]; rfl
          rw [hg] at hsk
          have hl : (kids.take i).length = i := by rw [List.length_take]; omega
          have HT : Hid (ylL ps (kids.take (i + 1)) body = ylL ps (kids.take i) body ++ yl ps kids[i] body[i]) := by
            show _ = _
            rw [List.take_succ_eq_append_getElem hik, ylL_snoc, hl, hg]
          have hsp := ylL_split2 ps (i + 1) kids body
          have hlen : pl + (ylL ps (kids.take (i + 1)) body).length ≤ wn := by
            have := HPLW.out
            rw [hsp, List.length_append] at this
            omega
          have hneg := sh_neg hsk
          rw [← KD.pr] at hneg
          have hbel := HI.out.1.bel
          have q0 : wr.cell? ⟨b2, o2 + i * 3, none⟩ = some (.int .i64 p') := (hbel.cell (p := ⟨b2, o2 + i * 3, none⟩) KD.lt).trans KD.c0
          have q1 : wr.cell? ⟨b2, o2 + i * 3 + 1, none⟩ = some (.int .i64 k') := (hbel.cell (p := ⟨b2, o2 + i * 3 + 1, none⟩) KD.lt).trans KD.c1
          have q2 : wr.cell? ⟨b2, o2 + i * 3 + 2, none⟩ = some (.slice a' n' c') := (hbel.cell (p := ⟨b2, o2 + i * 3 + 2, none⟩) KD.lt).trans KD.c2
          have hk1 : (i : Int) < (kn : Int) := by omega
          have hk0 : (0 : Int) ≤ (i : Int) := by omega
          have HWA : Hid (Below wr.heap.size wr (wr.alloc (Obj.cells #[.int .i64 p', .int .i64 k', .slice a' n' c'] 27))) := below_alloc _ _
          have HKB : Hid ((wr.alloc (Obj.cells #[.int .i64 p', .int .i64 k', .slice a' n' c'] 27)).heap[wr.heap.size]? = some (.cells #[.int .i64 p', .int .i64 k', .slice a' n' c'] 27)) := heap_alloc_new _ _
          obtain ⟨at1, HAT⟩ : ∃ at1, Hid (pl + (ylL ps (kids.take i) body).length = at1) := ⟨_, (rfl : pl + (ylL ps (kids.take i) body).length = _)⟩
          have hI2 := HI.out
          rw [HAT.out] at hI2
          have HL2 : Hid (Ly w0 na wb rb gb fb col n (some ⟨b, o, none⟩) gm gc wa wn wc (some ⟨rcb, rco, none⟩) rn rc (at1) (wr.alloc (Obj.cells #[.int .i64 p', .int .i64 k', .slice a' n' c'] 27)) ∧ Fy Zi w (wr.alloc (Obj.cells #[.int .i64 p', .int .i64 k', .slice a' n' c'] 27)) ∧ (wr.alloc (Obj.cells #[.int .i64 p', .int .i64 k', .slice a' n' c'] 27)).heap[g]? = some (.cells #[.int .i64 (z : Int), .int .i64 k, .slice (some ⟨b2, o2, none⟩) kn cap] 27)) := ⟨hI2.1.next HWA.out, hI2.2.1.trans (Fy.of HWA.out), tbox_next hI2.2.2 HWA.out⟩
          have HAT2 : Hid (pl + (ylL ps (kids.take (i + 1)) body).length = at1 + (yl ps kids[i] body[i]).length) := by show _ = _; rw [HT.out, List.length_append, ← HAT.out]; omega
          clear hI2 HI
          go_upto_region 9 with fail
          obtain ⟨kb, HKBN⟩ : ∃ kb, Hid (wr.heap.size = kb) := ⟨_, (rfl : wr.heap.size = _)⟩
          rw [HKBN.out] at HKB ⊢
          generalize wr.alloc (Obj.cells #[.int .i64 p', .int .i64 k', .slice a' n' c'] 27) = w3 at HKB HL2 ⊢
          clear q0 q1 q2 HWA HKBN
          have e0 := tcell_blk HKB.out 0
          have e1 := tcell_blk HKB.out 1
          have e2 := tcell_blk HKB.out 2
          have a9 := tcell_blk HL2.out.1.a 0
          have f9 := tfrozen_blk HL2.out.1.a 0
          have fx := tcell_blk HL2.out.1.f 0
          simp only [List.getElem?_toArray, List.getElem?_cons_zero, List.getElem?_cons_succ] at e0 e1 e2 a9 fx
          by_cases hpn : p' < 0
          · have HY : Hid ((yl ps kids[i] body[i]).length = 1) := by
              show _ = _
              have h1 := hneg.1 hpn
              rw [sh_is_leaf hsk h1, yl, if_pos h1]; rfl
            rw [HY.out] at HAT2
            have hat : at1 + 1 ≤ 100000 := by rw [← HAT2.out]; omega
            have HR : Hid (Ly w0 na wb rb gb fb col n (some ⟨b, o, none⟩) gm gc wa wn wc (some ⟨rcb, rco, none⟩) rn rc (at1 + 1) (w3.setCell ⟨na, 0, none⟩ (.int .i64 ((at1 : Int) + 1))) ∧ Fy Zi w (w3.setCell ⟨na, 0, none⟩ (.int .i64 ((at1 : Int) + 1))) ∧ (w3.setCell ⟨na, 0, none⟩ (.int .i64 ((at1 : Int) + 1))).heap[g]? = some (.cells #[.int .i64 (z : Int), .int .i64 k, .slice (some ⟨b2, o2, none⟩) kn cap] 27)) := by
              have h1 := HL2.out.1.set (at1 + 1)
              exact ⟨h1.1, HL2.out.2.1.trans h1.2, h1.2.2 _ _ _ _ HL2.out.2.2 (by unfold Zi; omega)⟩
            clear hsk hneg KD hbel
            go_wp2_with fail
            go_roundw
            case rel => exact ⟨i + 1, by omega, by go_num, by rw [HAT2.out]; exact HR.out⟩
            case measure => simp [intOf]; omega
          · have hpd : decide (p' < 0) = false := by simp; omega
            have hs1 : body[i].1 ≠ 1 := fun e => hpn (hneg.2 e)
            have hs2 : body[i].1 = 2 := by
              obtain ⟨qq, hqm, -, hqb⟩ := HQM.out
              obtain ⟨j, hj, rfl⟩ := List.mem_iff_getElem.1 hqm
              have := HCC.out.rg.ok j hj body[i] (by rw [hqb]; exact List.getElem_mem hib)
              rcases this with h | h
              · exact absurd h.1 hs1
              · exact h.1
            have HCL : Hid (Calls Try.prog 28 #[.agg #[.int .i64 p', .int .i64 k', .slice a' n' c'], .pointer (some ⟨gb, 0, none⟩), .pointer (some ⟨na, 0, none⟩), .pointer (some ⟨wb, 0, none⟩), .pointer (some ⟨rb, 0, none⟩), .pointer (some ⟨fb, 0, none⟩)] w3 fun e w' => e = .returned (.bool true) ∧ Ly w0 na wb rb gb fb col n (some ⟨b, o, none⟩) gm gc wa wn wc (some ⟨rcb, rco, none⟩) rn rc (at1 + (yl ps kids[i] body[i]).length) w' ∧ Fy Zi w3 w') := by
              obtain ⟨qq, hqm, hqh, hqb⟩ := HQM.out
              have hpl : (pre ++ ylL ps (kids.take i) body).length = at1 := by rw [List.length_append, HPL.out]; exact HAT.out
              have hcall := HIH.out kids[i] (HKS.out _ (List.getElem_mem hik)) _ body[i] (pre ++ ylL ps (kids.take i) body) (ylL ps (kids.drop (i + 1)) (body.drop (i + 1)) ++ post) w3 KD.tx hsk hs1 (by rw [HWS.out, hsp, HT.out]; simp) ?_ (by rw [hpl]; exact HL2.out.1)
              · rw [hpl] at hcall; exact hcall
              · have h1 := HCC.out.fa.w.cl.st qq hqm i (by rw [hqb]; exact hib) (by simp only [hqb]; exact hs2)
                simp only [hqb] at h1
                rw [hqh, Int.toNat_natCast] at h1
                exact le_trans (next_shL HCC.out.fa.m.cl HCC.out.fa.e.cl HCC.out.fa.f.cl (shL_drop2 (i + 1) HSL.out) post _ (Or.inr HV0.out)) h1
            clear hsk hneg KD hbel hs1 hs2
            go_wp2_with fail
            refine HCL.out.mono ?_
            rintro _ w4 ⟨rfl, hl3, hf3⟩
            have HR : Hid (Ly w0 na wb rb gb fb col n (some ⟨b, o, none⟩) gm gc wa wn wc (some ⟨rcb, rco, none⟩) rn rc (pl + (ylL ps (kids.take (i + 1)) body).length) w4 ∧ Fy Zi w w4 ∧ w4.heap[g]? = some (.cells #[.int .i64 (z : Int), .int .i64 k, .slice (some ⟨b2, o2, none⟩) kn cap] 27)) := ⟨by rw [HAT2.out]; exact hl3, HL2.out.2.1.trans hf3, hf3.2 _ _ _ _ HL2.out.2.2 (by unfold Zi; omega)⟩
            clear hl3 hf3 e0 e1 e2 a9 f9 fx
            go_wp2_with fail
            go_roundw
            case rel => exact ⟨i + 1, by omega, by go_num, HR⟩
            case measure => simp [intOf]; omega
        · have hk1 : ¬ (i : Int) < (kn : Int) := by omega
          have hI2 := HI.out
          rw [List.take_of_length_le (by rw [HKN.out]; omega)] at hI2
          have HI2 : Hid (Ly w0 na wb rb gb fb col n (some ⟨b, o, none⟩) gm gc wa wn wc (some ⟨rcb, rco, none⟩) rn rc (pl + (ylL ps kids body).length) wr ∧ Fy Zi w wr) := ⟨hI2.1, hI2.2.1⟩
          clear hI2 HI
          go_wp2_with fail
          go_ret
          exact ⟨by simp, HI2.out.1, HI2.out.2⟩
end Go.Proofs.Ytldfiofgknmcgaa
