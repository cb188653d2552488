/-
  The contract of chart.sums.
-/
import Derived.Test.YtpbnnmfjahckmaaChBody
namespace Go.Proofs.Ytpbnnmfjahckmaa
open Go.RowKit
open Cg

theorem info5 : (Try.prog.info? 5).map (fun i => (i.zero, i.size, i.bytes)) = some (some (.int .u8 0), 1, 1) := by kernel_rfl
def mB (ps : List Pd) (K : Nat) (M : Sy → Nat → Nat → Nat) (B : Nat → Nat → Nat → Nat → Nat) (i j m : Nat) : Nat → Nat → Nat → Nat → Nat := fun p k i' j' => if p < m ∧ i' = i ∧ j' = j ∧ k ≤ (ps.getD p (0, [])).2.length then vB ps K M p i j k else B p k i' j'
theorem mB_zero {ps : List Pd} {K : Nat} {M : Sy → Nat → Nat → Nat} {B : Nat → Nat → Nat → Nat → Nat} {i j : Nat} : mB ps K M B i j 0 = B := by
  funext p k i' j'; unfold mB; rw [if_neg (by omega)]
theorem mB_succ {ps : List Pd} {K : Nat} {M : Sy → Nat → Nat → Nat} {B : Nat → Nat → Nat → Nat → Nat} {i j m : Nat} : stB (mB ps K M B i j m) m i j (ps.getD m (0, [])).2.length (vB ps K M m i j) = mB ps K M B i j (m + 1) := by
  funext p k i' j'
  unfold stB mB
  by_cases e : p = m
  · subst e
    by_cases e2 : i' = i ∧ j' = j ∧ k ≤ (ps.getD p (0, [])).2.length
    · rw [if_pos ⟨rfl, e2⟩, if_pos ⟨by omega, e2⟩]
    · rw [if_neg (fun h => e2 h.2), if_neg (by omega), if_neg (fun h => e2 h.2)]
  · rw [if_neg (fun h => e h.1)]
    by_cases e2 : p < m
    · by_cases e3 : i' = i ∧ j' = j ∧ k ≤ (ps.getD p (0, [])).2.length
      · rw [if_pos ⟨e2, e3⟩, if_pos ⟨by omega, e3⟩]
      · rw [if_neg (fun h => e3 h.2), if_neg (fun h => e3 h.2)]
    · rw [if_neg (fun h => e2 h.1), if_neg (by omega)]
/-- The sums of the first m productions. -/
def lS (ps : List Pd) (K : Nat) (M : Sy → Nat → Nat → Nat) (i j m : Nat) (a : Int) : Nat := min 2 (sm m fun q => if (ps.getD q (0, [])).1 = a then mr K M (ps.getD q (0, [])).2 i j else 0)
theorem lS_le {ps : List Pd} {K : Nat} {M : Sy → Nat → Nat → Nat} {i j m : Nat} {a : Int} : lS ps K M i j m a ≤ 2 := Nat.min_le_left _ _
theorem lS_succ {ps : List Pd} {K : Nat} {M : Sy → Nat → Nat → Nat} {i j m : Nat} (a : Int) : lS ps K M i j (m + 1) a = if (ps.getD m (0, [])).1 = a then min 2 (lS ps K M i j m a + vB ps K M m i j (ps.getD m (0, [])).2.length) else lS ps K M i j m a := by
  unfold lS vB
  rw [sm, List.take_length]
  split
  · omega
  · omega

/-- What sums holds. -/
structure Cu (w w0 : World) (y : Lay) (t : Int) (n : Nat) (pv wv : Value) (ps : List Pd) (ws : List Int) (op : Bool) (N : TbN) (B : Nat → Nat → Nat → Nat → Nat) (g : Nat) (l : Int → Nat) (W : World) : Prop where
  ch : Ch w0 y t n pv wv ps ws op N B W
  fm : Fm (fun k => ∃ p, p < ps.length ∧ k = y.bs p) w W
  ge : w.heap.size ≤ g
  rw : W.rowIs g 5 n (fun a => .int .u8 ((l (a : Int) : Nat) : Int))
theorem Cu.next {w w0 : World} {y : Lay} {t : Int} {n : Nat} {pv wv : Value} {ps : List Pd} {ws : List Int} {op : Bool} {N : TbN} {B : Nat → Nat → Nat → Nat → Nat} {g : Nat} {l : Int → Nat} {W W' : World} (h : Cu w w0 y t n pv wv ps ws op N B g l W) (hb : Below W.heap.size W W') : Cu w w0 y t n pv wv ps ws op N B g l W' :=
  ⟨h.ch.next hb, h.fm.trans (Fm.of hb) fun _ _ h => h, h.ge, h.rw.of_block (hb.block _ h.rw.lt)⟩
structure Cv (w w0 : World) (y : Lay) (t : Int) (n : Nat) (pv wv : Value) (ps : List Pd) (ws : List Int) (op : Bool) (N : TbN) (B : Nat → Nat → Nat → Nat → Nat) (g : Nat) (l : Int → Nat) (gp : Nat) (x : Int) (u : Value) (bd : List Sy) (W : World) : Prop where
  cu : Cu w w0 y t n pv wv ps ws op N B g l W
  pb : Pb gp x u bd W
theorem Cv.next {w w0 : World} {y : Lay} {t : Int} {n : Nat} {pv wv : Value} {ps : List Pd} {ws : List Int} {op : Bool} {N : TbN} {B : Nat → Nat → Nat → Nat → Nat} {g : Nat} {l : Int → Nat} {gp : Nat} {x : Int} {u : Value} {bd : List Sy} (W W' : World) (h : Cv w w0 y t n pv wv ps ws op N B g l gp x u bd W) (hb : Below W.heap.size W W') : Cv w w0 y t n pv wv ps ws op N B g l gp x u bd W' :=
  ⟨h.cu.next hb, h.pb.next hb⟩
theorem Ch.other {w0 : World} {y : Lay} {t : Int} {n : Nat} {pv wv : Value} {ps : List Pd} {ws : List Int} {op : Bool} {N : TbN} {B : Nat → Nat → Nat → Nat → Nat} {W : World} (h : Ch w0 y t n pv wv ps ws op N B W) {a : Addr} (h0 : w0.heap.size ≤ a.block) (h1 : y.q ≠ a.block) (h2 : y.bn ≠ a.block) (h3 : y.bb ≠ a.block) (h4 : ∀ p, p < ps.length → y.bs p ≠ a.block) (v : Value) : Ch w0 y t n pv wv ps ws op N B (W.setCell a v) := by
  refine ⟨?_, ?_, h.nons.setOther h2 _, h.bods.setOther h3 _, fun p hp => (h.body p hp).setOther (h4 p hp) _, h.oq, h.on, h.ob, h.os, h.qn, h.qb, h.nb, h.qs, h.ss⟩
  · exact h.bel.trans ⟨rfl, rfl, rfl, by simp, fun k hk => Go.Deep.blk_setCell_other _ _ _ _ fun e => by have := h.bel.size; omega⟩
  · rw [Go.Deep.blk_setCell_other _ _ _ _ h1]; exact h.box
theorem Fm.more {X : Nat → Prop} {w W : World} (h : Fm X w W) {a : Addr} (ha : w.heap.size ≤ a.block) (v : Value) : Fm X w (W.setCell a v) :=
  ⟨h.os, h.tape, h.output, by simp; exact h.size, fun k hk hx => (Go.Deep.blk_setCell_other _ _ _ _ fun e => by omega).trans (h.block k hk hx)⟩

set_option maxHeartbeats 8000000 in
set_option maxRecDepth 20000 in
theorem sums_any (w0 : World) (y : Lay) (t : Int) (n : Nat) (pv wv : Value) (ps : List Pd) (ws : List Int) (op : Bool) (N : TbN) (B : Nat → Nat → Nat → Nat → Nat) (w : World) (rc : Rc w0 t n pv wv ps ws) (h : Ch w0 y t n pv wv ps ws op N B w) (hN : ∀ a i j, N a i j ≤ 2) (hlow : ∀ a i j, j < i → N a i j = 0) (i j : Nat) (hij : i ≤ j) (hj : j ≤ ws.length)
    (h0 : i = j ∨ ∀ p, p < ps.length → B p 0 i j = 0) (hB : ∀ p k c, p < ps.length → k ≤ (ps.getD p (0, [])).2.length → i ≤ c → c < j → B p k i c = vB ps (ws.length + 1) (on1 (lf op ws) N) p i c k) :
    Calls Try.prog 80 #[.pointer (some ⟨y.q, 0, none⟩), .int .i64 (i : Int), .int .i64 (j : Int)] w fun e w' => ∃ g, e = .returned (.slice (some ⟨g, 0, none⟩) n n) ∧ Cu w w0 y t n pv wv ps ws op N (mB ps (ws.length + 1) (on1 (lf op ws) N) B i j ps.length) g (fun a => stm ps (ws.length + 1) (on1 (lf op ws) N) a i j) w' := by
  have hwl := rc.wl
  have hpl := rc.pl
  have hnl := rc.nl
  have HRC : Hid (Rc w0 t n pv wv ps ws) := rc
  obtain ⟨pao, pc, rfl, hpm, -⟩ := id rc.pds
  have z1 : w.cell? ⟨y.q, 1, none⟩ = some (.int .i64 (n : Int)) := h.bcell 1
  have z2 : ∀ o, (w.alloc o).cell? ⟨y.q, 2, none⟩ = some (.slice pao ps.length pc) := fun o => (h.next (below_alloc _ _)).bcell 2
  have HC : Hid (Ch w0 y t n (.slice pao ps.length pc) wv ps ws op N B w) := h
  have HN : Hid (∀ a i j, N a i j ≤ 2) := hN
  have HL : Hid (∀ a i j, j < i → N a i j = 0) := hlow
  have H0 : Hid (i = j ∨ ∀ p, p < ps.length → B p 0 i j = 0) := h0
  have HBH : Hid (∀ p k c, p < ps.length → k ≤ (ps.getD p (0, [])).2.length → i ≤ c → c < j → B p k i c = vB ps (ws.length + 1) (on1 (lf op ws) N) p i c k) := hB
  have HU0 : Hid (Cu w w0 y t n (.slice pao ps.length pc) wv ps ws op N (mB ps (ws.length + 1) (on1 (lf op ws) N) B i j 0) w.heap.size (lS ps (ws.length + 1) (on1 (lf op ws) N) i j 0) (w.alloc (.cells (madeCells #[.int .u8 0] n) 5))) := by
    refine ⟨?_, Fm.of (below_alloc _ _), Nat.le_refl _, World.rowIs_made _ _ _ _⟩
    rw [mB_zero]; exact h.next (below_alloc _ _)
  have hmk := run_make_row' (P := Try.prog) 151 5 (.int .u8 0) 1 Try.underlying151 info5 rfl .i64 .i64 n (by omega) (by omega)
  clear h rc hN hlow h0 hB
  go_enter Try.func80, Try.ntmps80
  go_wp2_with fail
  obtain ⟨g, HG⟩ : ∃ g, Hid (w.heap.size = g) := ⟨_, (rfl : w.heap.size = w.heap.size)⟩
  rw [HG.out] at HU0 ⊢
  clear z1 z2 hmk
  go_loopw [22] (fun q wr => ∃ m : Nat, m ≤ ps.length ∧ q = .int .i64 (m : Int) ∧ Cu w w0 y t n (.slice pao ps.length pc) wv ps ws op N (mB ps (ws.length + 1) (on1 (lf op ws) N) B i j m) g (lS ps (ws.length + 1) (on1 (lf op ws) N) i j m) wr) (fun q _ => ps.length - (intOf q).toNat)
  case atStart => exact ⟨0, by omega, rfl, HU0.out⟩
  case round =>
    obtain ⟨m, hm, rfl, hcu⟩ := hrel
    by_cases hlt : m < ps.length
    · have hrc := HRC.out
      obtain ⟨pb, po, uo, uc, rfl, hpb, hc0, hc1, hsy⟩ := hrc.cell hlt
      obtain ⟨hok, hbl, hh1, hh2⟩ := hrc.at hlt
      have hcall := fun W (hW : Ch w0 y t n (.slice (some ⟨pb, po, none⟩) ps.length pc) wv ps ws op N (mB ps (ws.length + 1) (on1 (lf op ws) N) B i j m) W) => countBody_any w0 y t n _ wv ps ws op N _ W hrc hW HN.out HL.out m i j hlt hij hj (by
        rcases H0.out with h | h
        · exact Or.inl h
        · right; unfold mB; rw [if_neg (by omega)]; exact h m hlt) (fun k c h1 h2 h3 => by
          unfold mB; rw [if_neg (by omega)]; exact HBH.out m k c hlt h1 h2 h3)
      rw [mB_succ] at hcall
      have HLS : Hid (∀ a, lS ps (ws.length + 1) (on1 (lf op ws) N) i j (m + 1) a = if (ps.getD m (0, [])).1 = a then min 2 (lS ps (ws.length + 1) (on1 (lf op ws) N) i j m a + vB ps (ws.length + 1) (on1 (lf op ws) N) m i j (ps.getD m (0, [])).2.length) else lS ps (ws.length + 1) (on1 (lf op ws) N) i j m a) := fun a => lS_succ a
      have HVM : Hid (mB ps (ws.length + 1) (on1 (lf op ws) N) B i j (m + 1) m (ps.getD m (0, [])).2.length i j = vB ps (ws.length + 1) (on1 (lf op ws) N) m i j (ps.getD m (0, [])).2.length) := by
        show _ = _
        unfold mB; rw [if_pos ⟨by omega, rfl, rfl, Nat.le_refl _⟩]
      have a2 := vB_le (ps := ps) (K := ws.length + 1) (M := on1 (lf op ws) N) (p := m) (i := i) (j := j) (k := (ps.getD m (0, [])).2.length)
      obtain ⟨hd, HHD⟩ : ∃ hd : Nat, Hid ((ps.getD m (0, [])).1 = (hd : Int)) := ⟨(ps.getD m (0, [])).1.toNat, by show _ = _; omega⟩
      rw [HHD.out] at hc0 hh2 HLS
      generalize hbd : (ps.getD m (0, [])).2 = bd at hc1 hbl hsy HLS HVM a2
      have HBD : Hid ((ps.getD m (0, [])).2 = bd) := hbd
      have a1 := lS_le (ps := ps) (K := ws.length + 1) (M := on1 (lf op ws) N) (i := i) (j := j) (m := m) (a := (hd : Int))
      generalize vB ps (ws.length + 1) (on1 (lf op ws) N) m i j bd.length = xv at HLS HVM a2
      have HLT : Hid (m < ps.length) := hlt
      replace hc0 : wr.cell? ⟨pb, po + m * 2, none⟩ = some (.int .i64 (hd : Int)) := (hcu.ch.bel.cell (p := ⟨pb, po + m * 2, none⟩) hpb).trans hc0
      replace hc1 : wr.cell? ⟨pb, po + m * 2 + 1, none⟩ = some (.slice uo bd.length uc) := (hcu.ch.bel.cell (p := ⟨pb, po + m * 2 + 1, none⟩) hpb).trans hc1
      have hb2 := below_alloc wr (Obj.cells #[.int .i64 (hd : Int), .slice uo bd.length uc] 79)
      have HCU : Hid (Cu w w0 y t n (.slice (some ⟨pb, po, none⟩) ps.length pc) wv ps ws op N (mB ps (ws.length + 1) (on1 (lf op ws) N) B i j m) g (lS ps (ws.length + 1) (on1 (lf op ws) N) i j m) (wr.alloc (Obj.cells #[.int .i64 (hd : Int), .slice uo bd.length uc] 79))) := hcu.next hb2
      have HPB : Hid (Pb wr.heap.size (hd : Int) (.slice uo bd.length uc) bd (wr.alloc (Obj.cells #[.int .i64 (hd : Int), .slice uo bd.length uc] 79))) := Pb.box (hsy.below hcu.ch.bel) _
      replace hcall := hcall _ HCU.out.ch
      have hk1 : (m : Int) < (ps.length : Int) := by omega
      have HGN : Hid (wr.heap.size ≠ g) := fun e => by have := hcu.rw.lt; omega
      have HGE : Hid (w0.heap.size ≤ wr.heap.size) := hcu.ch.bel.size
      have HQS : Hid (∀ p, p < ps.length → y.bs p < wr.heap.size) := fun p hp => (hcu.ch.body p hp).lt
      have hsy0 : Hid (Syms w0 (.slice uo bd.length uc) bd) := hsy
      clear hcu hb2 hsy hok hrc hbd
      go_wp2_with fail
      obtain ⟨gp, HGP⟩ : ∃ gp, Hid (wr.heap.size = gp) := ⟨_, (rfl : wr.heap.size = wr.heap.size)⟩
      rw [HGP.out] at HPB HGN HGE HQS ⊢
      refine hcall.mono ?_
      rintro _ w2 ⟨rfl, hcb⟩
      have HW2 : Hid (Cv w w0 y t n (.slice (some ⟨pb, po, none⟩) ps.length pc) wv ps ws op N (mB ps (ws.length + 1) (on1 (lf op ws) N) B i j (m + 1)) g (lS ps (ws.length + 1) (on1 (lf op ws) N) i j m) gp (hd : Int) (.slice uo bd.length uc) bd w2) := by
        have hne : ∀ k, w0.heap.size ≤ k → k < (wr.alloc (Obj.cells #[.int .i64 (hd : Int), .slice uo bd.length uc] 79)).heap.size → k ≠ y.bs m → w2.heap[k]? = (wr.alloc (Obj.cells #[.int .i64 (hd : Int), .slice uo bd.length uc] 79)).heap[k]? := fun k _ h1 h2 => hcb.fm.block k h1 h2
        have hgm : g ≠ y.bs m := fun e => by
          have h1 := HCU.out.ge
          have h2 := (HC.out.body m HLT.out).lt
          omega
        refine ⟨⟨hcb.ch, HCU.out.fm.trans hcb.fm fun q _ e => ⟨m, HLT.out, e⟩, HCU.out.ge, HCU.out.rw.of_block (hcb.fm.block _ HCU.out.rw.lt hgm)⟩, ?_⟩
        have hpm : gp ≠ y.bs m := fun e => by have := HQS.out m HLT.out; omega
        exact ⟨Nat.lt_of_lt_of_le HPB.out.lt hcb.fm.size, (hcb.fm.cell (p := ⟨gp, 0, none⟩) HPB.out.lt hpm).trans HPB.out.c0, (hcb.fm.cell (p := ⟨gp, 1, none⟩) HPB.out.lt hpm).trans HPB.out.c1, hsy0.out.below hcb.ch.bel⟩
      clear hcall hc0 hc1 hcb HCU HPB
      go_upto_region 6 with fail
      have S1' : Cv w w0 y t n (.slice (some ⟨pb, po, none⟩) ps.length pc) wv ps ws op N (mB ps (ws.length + 1) (on1 (lf op ws) N) B i j (m + 1)) g (lS ps (ws.length + 1) (on1 (lf op ws) N) i j m) gp (hd : Int) (.slice uo bd.length uc) bd w2.drew := HW2.out.next _ _ ((Below.refl _ _).drew)
      have hne : Nonempty (Kp (Cv w w0 y t n (.slice (some ⟨pb, po, none⟩) ps.length pc) wv ps ws op N (mB ps (ws.length + 1) (on1 (lf op ws) N) B i j (m + 1)) g (lS ps (ws.length + 1) (on1 (lf op ws) N) i j m) gp (hd : Int) (.slice uo bd.length uc) bd)) := ⟨⟨_, S1'⟩⟩
      have p0 : ∀ q : Kp (Cv w w0 y t n (.slice (some ⟨pb, po, none⟩) ps.length pc) wv ps ws op N (mB ps (ws.length + 1) (on1 (lf op ws) N) B i j (m + 1)) g (lS ps (ws.length + 1) (on1 (lf op ws) N) i j m) gp (hd : Int) (.slice uo bd.length uc) bd), q.W.cell? ⟨gp, 0, none⟩ = some (.int .i64 (hd : Int)) := fun q => q.h.pb.c0
      have p1 : ∀ q : Kp (Cv w w0 y t n (.slice (some ⟨pb, po, none⟩) ps.length pc) wv ps ws op N (mB ps (ws.length + 1) (on1 (lf op ws) N) B i j (m + 1)) g (lS ps (ws.length + 1) (on1 (lf op ws) N) i j m) gp (hd : Int) (.slice uo bd.length uc) bd), q.W.cell? ⟨gp, 1, none⟩ = some (.slice uo bd.length uc) := fun q => q.h.pb.c1
      have hdn : hd < n := by omega
      have p2 : ∀ q : Kp (Cv w w0 y t n (.slice (some ⟨pb, po, none⟩) ps.length pc) wv ps ws op N (mB ps (ws.length + 1) (on1 (lf op ws) N) B i j (m + 1)) g (lS ps (ws.length + 1) (on1 (lf op ws) N) i j m) gp (hd : Int) (.slice uo bd.length uc) bd), q.W.cell? ⟨g, hd, none⟩ = some (.int .u8 ((lS ps (ws.length + 1) (on1 (lf op ws) N) i j m (hd : Int) : Nat) : Int)) := fun q => q.h.cu.rw.cell hdn
      have p3 : ∀ q : Kp (Cv w w0 y t n (.slice (some ⟨pb, po, none⟩) ps.length pc) wv ps ws op N (mB ps (ws.length + 1) (on1 (lf op ws) N) B i j (m + 1)) g (lS ps (ws.length + 1) (on1 (lf op ws) N) i j m) gp (hd : Int) (.slice uo bd.length uc) bd), q.W.cell? ⟨y.q, 6, none⟩ = some (.slice (some ⟨y.bb, 0, none⟩) ps.length ps.length) := fun q => q.h.cu.ch.bcell 6
      have p4 : ∀ q : Kp (Cv w w0 y t n (.slice (some ⟨pb, po, none⟩) ps.length pc) wv ps ws op N (mB ps (ws.length + 1) (on1 (lf op ws) N) B i j (m + 1)) g (lS ps (ws.length + 1) (on1 (lf op ws) N) i j m) gp (hd : Int) (.slice uo bd.length uc) bd), q.W.cell? ⟨y.bb, m, none⟩ = some (.slice (some ⟨y.bs m, 0, none⟩) (bd.length + 1) (bd.length + 1)) := fun q => by
        have := q.h.cu.ch.bods.cell HLT.out
        rw [HBD.out] at this; exact this
      have p5 : ∀ q : Kp (Cv w w0 y t n (.slice (some ⟨pb, po, none⟩) ps.length pc) wv ps ws op N (mB ps (ws.length + 1) (on1 (lf op ws) N) B i j (m + 1)) g (lS ps (ws.length + 1) (on1 (lf op ws) N) i j m) gp (hd : Int) (.slice uo bd.length uc) bd), q.W.cell? ⟨y.bs m, bd.length * 441 + i * 21 + j, none⟩ = some (.int .u8 (xv : Int)) := fun q => by
        have := q.h.cu.ch.scell HLT.out (k := bd.length) (i := i) (j := j) (by rw [HBD.out]; omega) (by omega) (by omega)
        rw [HVM.out] at this; exact this
      have HPL : Hid (∀ W, Calls Try.prog 90 #[.int .u8 ((lS ps (ws.length + 1) (on1 (lf op ws) N) i j m (hd : Int) : Nat) : Int), .int .u8 (xv : Int)] W fun e w' => e = .returned (.int .u8 ((min 2 (lS ps (ws.length + 1) (on1 (lf op ws) N) i j m (hd : Int) + xv) : Nat) : Int)) ∧ Below W.heap.size W w') := fun W => plus_any _ xv (by omega) (by omega) W
      obtain ⟨xn, HXN⟩ : ∃ xn, Hid (min 2 (lS ps (ws.length + 1) (on1 (lf op ws) N) i j m (hd : Int) + xv) = xn) := ⟨_, (rfl : min 2 (lS ps (ws.length + 1) (on1 (lf op ws) N) i j m (hd : Int) + xv) = _)⟩
      rw [HXN.out] at HPL
      obtain ⟨xo, HXO⟩ : ∃ xo, Hid (lS ps (ws.length + 1) (on1 (lf op ws) N) i j m (hd : Int) = xo) := ⟨_, (rfl : lS ps (ws.length + 1) (on1 (lf op ws) N) i j m (hd : Int) = _)⟩
      rw [HXO.out] at HPL p2
      have k2 : (i : Int) < 21 := by omega
      have k3 : (j : Int) < 21 := by omega
      have k4 : (hd : Int) < (n : Int) := by omega
      have k5 : (bd.length : Int) < (bd.length : Int) + 1 := by omega
      clear a1 a2 HW2
      refine wp_region_tail [_, _, _, _, _, _, _, _, _, _, _, _, _, _, _, _, _, _, _, _, _, _, _, _, _, _] _ rfl mixed (by kernel_rfl) S1' ?_
      simp only [List.cons_append, List.nil_append]
      repeat (go_big_quiet_step (first | (go_at_call 90; with_reducible exact Kp.calls _ Cv.next (HPL.out _))))
      refine wpQuiet_nil ?_
      intro k
      have HK : Hid (Cv w w0 y t n (.slice (some ⟨pb, po, none⟩) ps.length pc) wv ps ws op N (mB ps (ws.length + 1) (on1 (lf op ws) N) B i j (m + 1)) g (lS ps (ws.length + 1) (on1 (lf op ws) N) i j m) gp (hd : Int) (.slice uo bd.length uc) bd k.W) := k.h
      have f0 := World.rowIs.frozen k.h.cu.rw hd
      have f1 := p2 k
      generalize k.W = W6 at HK f0 f1 ⊢
      clear k p0 p1 p2 p3 p4 p5 hne S1'
      have HW7 : Hid (Cu w w0 y t n (.slice (some ⟨pb, po, none⟩) ps.length pc) wv ps ws op N (mB ps (ws.length + 1) (on1 (lf op ws) N) B i j (m + 1)) g (lS ps (ws.length + 1) (on1 (lf op ws) N) i j (m + 1)) (W6.setCell ⟨g, hd, none⟩ (.int .u8 (xn : Int)))) := by
        have hgo : w.heap.size ≤ g := HK.out.cu.ge
        have hch := HC.out
        refine ⟨HK.out.cu.ch.other (Nat.le_trans hch.bel.size hgo) ?_ ?_ ?_ ?_ _, HK.out.cu.fm.more hgo _, hgo, ?_⟩
        · show y.q ≠ g; have := hch.ps_lt.1; omega
        · show y.bn ≠ g; have := hch.ps_lt.2.1; omega
        · show y.bb ≠ g; have := hch.ps_lt.2.2; omega
        · intro p hp; show y.bs p ≠ g; have := (hch.body p hp).lt; omega
        · refine (HK.out.cu.rw.set hd _).congr fun a ha => ?_
          rw [HLS.out]
          by_cases e : a = hd
          · subst e; rw [if_pos rfl, if_pos rfl, HXN.out]
          · rw [if_neg e, if_neg (by omega)]
      go_simp
      go_wp2_with fail
      go_roundw
      case rel => exact ⟨m + 1, by omega, by go_num, HW7.out⟩
      case measure => simp [intOf]; omega
    · obtain rfl : m = ps.length := by omega
      go_wp2_with fail
      go_ret
      exact ⟨g, by simp, hcu⟩
end Go.Proofs.Ytpbnnmfjahckmaa
