/-
  The contract of ll.takenAt. The contract of ll.choose. What ll.Make holds in memory: the grammar's box, the sets, the rows made so far, the clashes told so far. No function is walked here. The contract of ll.Make. The contract of pushkeep.able: the rows of a grammar, and whether it has no clash.
-/
import Derived.Test.YtpfehghicaaghaaLlA
import Derived.Test.YtpfehghicaaghaaFcW
import Derived.Test.YtpfehghicaaghaaFcBeg
import Derived.Test.YtpfehghicaaghaaTrA
namespace Go.Proofs.Ytpfehghicaaghaa
open Go.RowKit
open Cg

theorem begErr_body {t : Int} {n : Nat} {ps : List Pd} (hk : chk t n ps = 0) {i : Nat} (hi : i < ps.length) : begErr t n ps ps[i].2 = 0 := by
  obtain ⟨h1, h2, h3⟩ := chkP_zero ((chk_zero hk).2.2 _ (List.getElem_mem hi))
  unfold begErr; rw [if_pos hk, if_neg (by omega), if_pos h3]
/-- Begin's answer, where the facts are known. -/
theorem Begin_at (t : Int) (n : Nat) (pv : Value) (ps : List Pd) (v : Value) (l : List Sy) (x : Wd) (w : World) (hp : Pds w pv ps) (hs : Syms w v l) (hk : begErr t n ps l = 0) {E M : Nat → Bool} {F : Nat → Wd} (hE : Mk ps false E) (hM : Mk ps true M) (hF : Fi ps M E F) :
    Calls Try.prog 99 #[.agg #[.int .i64 t, .int .i64 (n : Int), pv], v, .int .u64 (x.toNat : Int)] w fun e w' => e = .returned (.tuple #[.int .u64 ((bg E F l x).toNat : Int), .int .i64 0]) ∧ Below w.heap.size w w' := by
  refine (Begin_ok t n pv ps v l x w hp hs hk).mono ?_
  rintro _ w' ⟨y, rfl, ⟨E', F', M', i1, i2, i3, i4⟩, hb⟩
  obtain rfl := i1.uniq hE
  obtain rfl := i2.uniq hM
  obtain rfl := i3.uniq hF
  rw [i4]
  exact ⟨rfl, hb⟩
set_option maxHeartbeats 3200000 in
set_option maxRecDepth 20000 in
theorem takenAt_bad (t n : Int) (pv : Value) (ps : List Pd) (w : World) (hp : Pds w pv ps) (hk : chk t n ps ≠ 0) :
    Calls Try.prog 82 #[.agg #[.int .i64 t, .int .i64 n, pv]] w fun e w' => e = .returned (.tuple #[.slice none 0 0, .int .i64 (chk t n ps)]) ∧ Below w.heap.size w w' := by
  have HGB := Gb.box hp t n
  obtain ⟨ao, c, rfl, hm, -⟩ := hp
  have HG0 : Hid (Gb w w.heap.size t n (.slice ao ps.length c) ps (w.alloc (Obj.cells #[.int .i64 t, .int .i64 n, .slice ao ps.length c] 24))) := HGB
  clear HGB
  have hcall := Of_bad t n _ ps _ HG0.out.pds hk
  obtain ⟨r, HR⟩ : ∃ r, Hid (chk t n ps = r) := ⟨_, (rfl : chk t n ps = chk t n ps)⟩
  rw [HR.out] at hcall hk ⊢
  have b0 : (r != 0) = true := by simpa using hk
  clear hk
  go_enter Try.func82, Try.ntmps82
  go_wp2_with fail
  refine hcall.mono ?_
  rintro _ w1 ⟨rfl, hb1⟩
  have HB1 : Hid (Below w.heap.size w w1) := HG0.out.below.trans (hb1.mono HG0.out.below.size)
  clear hb1 hcall HG0
  go_wp2_with fail
  go_ret2
  exact ⟨by simp, HB1.out.trans ((below_alloc _ _).mono HB1.out.size)⟩
theorem Gb.other {w0 : World} {g : Nat} {t n : Int} {pv : Value} {ps : List Pd} {W W' : World} {x : Nat} (h : Gb w0 g t n pv ps W) (h0 : Pds w0 pv ps) (hf : Fm (fun k => k = x) W W') (h1 : g ≠ x) (h2 : w0.heap.size ≤ x) : Gb w0 g t n pv ps W' :=
  have hb : Below w0.heap.size w0 W' := h.below.trans (hf.below h.below.size fun k hk => by omega)
  ⟨hb, Nat.lt_of_lt_of_le h.lt hf.size, h.ge, (hf.cell (p := ⟨g, 0, none⟩) h.lt h1).trans h.c0, (hf.cell (p := ⟨g, 1, none⟩) h.lt h1).trans h.c1, (hf.cell (p := ⟨g, 2, none⟩) h.lt h1).trans h.c2, h0.below hb⟩
/-- What takenAt holds: q productions are done. -/
structure TI (w : World) (t : Int) (n : Nat) (pv : Value) (ps : List Pd) (be bf bw br bm cf bs : Nat) (E : Nat → Bool) (F V : Nat → Wd) (R M : Nat → Bool) (q : Nat) (W : World) : Prop where
  gb : Gb w w.heap.size t n pv ps W
  fx : Fx n be bf bw br bm E F V R M W
  bx : W.rowIs cf 82 5 (fv (.slice (some ⟨be, 0, none⟩) n n) (.slice (some ⟨bf, 0, none⟩) n n) (.slice (some ⟨bw, 0, none⟩) n n) (.slice (some ⟨br, 0, none⟩) n n) (.slice (some ⟨bm, 0, none⟩) n n))
  rs : Rw W bs ps.length (fun i => if i < q then sts ps E F V i else 0#64)
  ne : bf ≠ bs ∧ bw ≠ bs ∧ w.heap.size ≠ bs
  ge : w.heap.size ≤ bs
theorem TI.next {w : World} {t : Int} {n : Nat} {pv : Value} {ps : List Pd} {be bf bw br bm cf bs : Nat} {E : Nat → Bool} {F V : Nat → Wd} {R M : Nat → Bool} {q : Nat} {W W' : World} (h : TI w t n pv ps be bf bw br bm cf bs E F V R M q W) (hb : Below W.heap.size W W') : TI w t n pv ps be bf bw br bm cf bs E F V R M q W' :=
  ⟨h.gb.next hb, h.fx.next hb, h.bx.of_block (hb.block _ h.bx.lt), h.rs.next hb, h.ne, h.ge⟩
theorem TI.put {w : World} {t : Int} {n : Nat} {pv : Value} {ps : List Pd} {be bf bw br bm cf bs : Nat} {E : Nat → Bool} {F V : Nat → Wd} {R M : Nat → Bool} {q : Nat} {W : World} (h : TI w t n pv ps be bf bw br bm cf bs E F V R M q W) (h0 : Pds w pv ps) :
    TI w t n pv ps be bf bw br bm cf bs E F V R M (q + 1) (W.setCell ⟨bs, q, none⟩ (.int .u64 ((sts ps E F V q).toNat : Int))) := by
  have hf : Fm (fun k => k = bs) W (W.setCell ⟨bs, q, none⟩ (.int .u64 ((sts ps E F V q).toNat : Int))) := Fm.set (X := fun k => k = bs) (b := bs) (i := q) _ rfl
  refine ⟨h.gb.other h0 hf h.ne.2.2 h.ge, ⟨h.fx.e.of (hf.block _ h.fx.e.lt (row_ne h.fx.e h.rs (by decide))), h.fx.f.of (hf.block _ h.fx.f.lt h.ne.1), h.fx.v.of (hf.block _ h.fx.v.lt h.ne.2.1), h.fx.r.of (hf.block _ h.fx.r.lt (row_ne h.fx.r h.rs (by decide))), h.fx.m.of (hf.block _ h.fx.m.lt (row_ne h.fx.m h.rs (by decide)))⟩, h.bx.of_block (hf.block _ h.bx.lt (row_ne h.bx h.rs (by decide))), ?_, h.ne, h.ge⟩
  refine World.rowIs.congr (h.rs.set q _) fun i _ => ?_
  unfold upd
  show Value.int .u64 ((if i = q then sts ps E F V q else (if i < q then sts ps E F V i else 0#64)).toNat : Int) = Value.int .u64 ((if i < q + 1 then sts ps E F V i else 0#64).toNat : Int)
  by_cases e : i = q
  · subst e; rw [if_pos rfl, if_pos (by omega)]
  · rw [if_neg e]
    by_cases e2 : i < q
    · rw [if_pos e2, if_pos (by omega)]
    · rw [if_neg e2, if_neg (by omega)]
theorem TI.fm {w : World} {t : Int} {n : Nat} {pv : Value} {ps : List Pd} {be bf bw br bm cf bs : Nat} {E : Nat → Bool} {F V : Nat → Wd} {R M : Nat → Bool} {q q' : Nat} {W W' : World} (h : TI w t n pv ps be bf bw br bm cf bs E F V R M q W) (h0 : Pds w pv ps) (hf : Fm (fun k => k = bs) W W') (hr : Rw W' bs ps.length (fun i => if i < q' then sts ps E F V i else 0#64)) :
    TI w t n pv ps be bf bw br bm cf bs E F V R M q' W' :=
  ⟨h.gb.other h0 hf h.ne.2.2 h.ge, ⟨h.fx.e.of (hf.block _ h.fx.e.lt (row_ne h.fx.e h.rs (by decide))), h.fx.f.of (hf.block _ h.fx.f.lt h.ne.1), h.fx.v.of (hf.block _ h.fx.v.lt h.ne.2.1), h.fx.r.of (hf.block _ h.fx.r.lt (row_ne h.fx.r h.rs (by decide))), h.fx.m.of (hf.block _ h.fx.m.lt (row_ne h.fx.m h.rs (by decide)))⟩, h.bx.of_block (hf.block _ h.bx.lt (row_ne h.bx h.rs (by decide))), hr, h.ne, h.ge⟩
structure RTa (w wb wr : World) (t : Int) (n : Nat) (ps : List Pd) (b2 o c bs bw cf : Nat) (uo : Option Addr) (l : List Sy) (uc h q : Nat) (x vh : Wd) (E : Nat → Bool) (F V : Nat → Wd) (d : Nat → Bool) (x5 x29 x30 x31 x32 x33 x34 x35 x36 x37 x38 x39 x40 x41 x42 x43 x44 : Value) (W : World) : Prop where
  f0 : d 0 = true → x30 = (.slice (some ⟨bs, 0, none⟩) ps.length ps.length)
  f1 : d 1 = true → x31 = (.int .i64 (q : Int))
  f2 : d 2 = true → x32 = (.agg #[.int .i64 t, .int .i64 (n : Int), .slice (some ⟨b2, o, none⟩) ps.length c])
  f3 : d 3 = true → x33 = (.pointer (some ⟨wr.heap.size, 1, none⟩))
  f4 : d 4 = true → x34 = (.slice uo l.length uc)
  f5 : d 5 = true → x35 = (.pointer (some ⟨cf, 2, none⟩))
  f6 : d 6 = true → x36 = (.slice (some ⟨bw, 0, none⟩) n n)
  f7 : d 7 = true → x37 = (.pointer (some ⟨wr.heap.size, 0, none⟩))
  f8 : d 8 = true → x38 = (.int .i64 (h : Int))
  f9 : d 9 = true → x39 = (.pointer (some ⟨bw, h, none⟩))
  f10 : d 10 = true → x40 = (.int .u64 (vh.toNat : Int))
  f11 : d 11 = true → x41 = (.tuple #[.int .u64 (x.toNat : Int), .int .i64 0])
  f12 : d 12 = true → x29 = (.tuple #[.int .u64 (x.toNat : Int), .int .i64 0])
  f13 : d 13 = true → x42 = (.int .u64 (x.toNat : Int))
  f14 : d 14 = true → x43 = (.int .i64 0)
  f15 : d 15 = true → x44 = (.pointer (some ⟨bs, q, none⟩))
  f16 : d 16 = true → True
  f17 : d 17 = true → x5 = (.int .i64 0)
  kp : Fm (fun k => k = bs) wb W
  r0 : d 16 = false → Rw W bs ps.length (fun i => if i < q then sts ps E F V i else 0#64)
  r1 : d 16 = true → Rw W bs ps.length (fun i => if i < q + 1 then sts ps E F V i else 0#64)
/-- What takenAt leaves. -/
def TKW (w : World) (ps : List Pd) (bs : Nat) (S : Nat → Wd) (w' : World) : Prop := Below w.heap.size w w' ∧ w.heap.size ≤ bs ∧ Rw w' bs ps.length S ∧ TK ps S
set_option maxHeartbeats 6400000 in
set_option maxRecDepth 20000 in
theorem takenAt_ok (t : Int) (n : Nat) (pv : Value) (ps : List Pd) (w : World) (hp : Pds w pv ps) (hk : chk t n ps = 0) :
    Calls Try.prog 82 #[.agg #[.int .i64 t, .int .i64 (n : Int), pv]] w fun e w' => ∃ bs S, e = .returned (.tuple #[.slice (some ⟨bs, 0, none⟩) ps.length ps.length, .int .i64 0]) ∧ TKW w ps bs S w' := by
  have HP : Hid (Pds w pv ps) := hp
  have HGB := Gb.box hp t (n : Int)
  obtain ⟨ao, c, rfl, hm, hcs⟩ := hp
  have HG0 : Hid (Gb w w.heap.size t (n : Int) (.slice ao ps.length c) ps (w.alloc (Obj.cells #[.int .i64 t, .int .i64 (n : Int), .slice ao ps.length c] 24))) := HGB
  have HK : Hid (chk t n ps = 0) := hk
  have HRG : Hid (Rg t n ps) := rg_of hk
  have HPL : Hid (ps.length ≤ 40) := HRG.out.ln
  have hcall := Of_ok t n _ ps _ HG0.out.pds hk
  have hmk := run_make_row' (P := Try.prog) 80 131 (.int .u64 0) 8 Try.underlying80 info131 rfl .i64 .i64 ps.length (by have := HPL.out; omega) (by have := HPL.out; omega)
  clear HGB hk
  go_enter Try.func82, Try.ntmps82
  go_wp2_with fail
  refine hcall.mono ?_
  rintro _ w1 ⟨be, bf, bw, br, bm, rfl, hb1, E, F, V, R, M, hfx, hfa⟩
  have hbx := row_vals5 w1 (.slice (some ⟨be, 0, none⟩) n n) (.slice (some ⟨bf, 0, none⟩) n n) (.slice (some ⟨bw, 0, none⟩) n n) (.slice (some ⟨br, 0, none⟩) n n) (.slice (some ⟨bm, 0, none⟩) n n)
  have hba := below_alloc w1 (Obj.cells #[.slice (some ⟨be, 0, none⟩) n n, .slice (some ⟨bf, 0, none⟩) n n, .slice (some ⟨bw, 0, none⟩) n n, .slice (some ⟨br, 0, none⟩) n n, .slice (some ⟨bm, 0, none⟩) n n] 82)
  obtain ⟨w2, HW2⟩ : ∃ w2, Hid (w1.alloc (Obj.cells #[.slice (some ⟨be, 0, none⟩) n n, .slice (some ⟨bf, 0, none⟩) n n, .slice (some ⟨bw, 0, none⟩) n n, .slice (some ⟨br, 0, none⟩) n n, .slice (some ⟨bm, 0, none⟩) n n] 82) = w2) := ⟨_, (rfl : _ = _)⟩
  rw [HW2.out] at hbx hba
  have hmr := World.rowIs_made w2 (.int .u64 0) ps.length 131
  have hbm := below_alloc w2 (Obj.cells (madeCells #[Value.int .u64 0] ps.length) 131)
  have HTI0 : Hid (TI w t n (.slice ao ps.length c) ps be bf bw br bm w1.heap.size w2.heap.size E F V R M 0 (w2.alloc (Obj.cells (madeCells #[Value.int .u64 0] ps.length) 131))) := by
    have hg := ((HG0.out.next hb1).next hba).next hbm
    have hx := (hfx.next hba)
    refine ⟨hg, hx.next hbm, hbx.of_block (hbm.block _ hbx.lt), World.rowIs.congr hmr fun i _ => by simp, ⟨?_, ?_, ?_⟩, ?_⟩
    · have := hx.f.lt; omega
    · have := hx.v.lt; omega
    · have := ((HG0.out.next hb1).next hba).lt; omega
    · have := ((HG0.out.next hb1).next hba).below.size; omega
  have HFA : Hid (Fa ps E F V R M) := hfa
  have k2 := ((HG0.out.next hb1).next hba).c2
  clear hb1 hcall HG0 hfx hbx hba hmr hbm hfa
  obtain ⟨cf, HCF⟩ : ∃ cf, Hid (w1.heap.size = cf) := ⟨_, (rfl : w1.heap.size = w1.heap.size)⟩
  rw [HCF.out] at HTI0
  rw [← HW2.out] at k2
  go_upto_region 4 with (fail)
  rw [HW2.out, HCF.out]
  rw [HW2.out] at k2
  clear HCF HW2
  go_upto_region 5 with (fail)
  obtain ⟨bs, HBS⟩ : ∃ bs, Hid (w2.heap.size = bs) := ⟨_, (rfl : w2.heap.size = w2.heap.size)⟩
  obtain ⟨w3, HW3⟩ : ∃ w3, Hid (w2.alloc (Obj.cells (madeCells #[Value.int .u64 0] ps.length) 131) = w3) := ⟨_, (rfl : _ = _)⟩
  rw [HBS.out, HW3.out] at HTI0
  rw [HBS.out, HW3.out]
  clear HBS HW3 hmk k2
  have k2 := HTI0.out.gb.c2
  go_wp2_with fail
  clear k2
  go_loopw [24] (fun i wr => ∃ q : Nat, q ≤ ps.length ∧ i = .int .i64 (q : Int) ∧ Hid (TI w t n (.slice ao ps.length c) ps be bf bw br bm cf bs E F V R M q wr)) (fun i _ => ps.length - (intOf i).toNat)
  case atStart => exact ⟨0, by omega, rfl, HTI0⟩
  case round =>
    obtain ⟨q, hq, rfl, HT⟩ := hrel
    clear HTI0
    by_cases hlt : q < ps.length
    · obtain ⟨b2, o, rfl, hb, hc⟩ := hcs.resolve_left (by intro e; subst e; simp at hlt)
      obtain ⟨c0, u, c1, hu⟩ := hc q hlt
      obtain ⟨h, hh, hhn⟩ : ∃ h : Nat, ps[q].1 = (h : Int) ∧ h < n := by
        obtain ⟨m, e1, e2, e3⟩ := HRG.out.hd q hlt
        exact ⟨m, e1, e3⟩
      have HBE : Hid (begErr t n ps ps[q].2 = 0) := begErr_body HK.out hlt
      have HST : Hid (sts ps E F V q = bg E F ps[q].2 (V h)) := by show _ = _; rw [sts_at hlt, hh]; rfl
      rw [hh] at c0
      generalize ps[q].2 = l at hu HBE HST
      obtain ⟨uo, uc, rfl, hul, huc⟩ := hu
      have HU : Hid (Syms w (.slice uo l.length uc) l) := ⟨uo, uc, rfl, hul, huc⟩
      replace c0 : wr.cell? ⟨b2, o + q * 2, none⟩ = some (.int .i64 (h : Int)) := (HT.out.gb.below.cell (p := ⟨b2, o + q * 2, none⟩) hb).trans c0
      replace c1 : wr.cell? ⟨b2, o + q * 2 + 1, none⟩ = some (.slice uo l.length uc) := (HT.out.gb.below.cell (p := ⟨b2, o + q * 2 + 1, none⟩) hb).trans c1
      have hk1 : (q : Int) < (ps.length : Int) := by omega
      have hk0 : (0 : Int) ≤ (q : Int) := by omega
      have g0 := cell_new wr #[.int .i64 (h : Int), .slice uo l.length uc] 88
      have hb0 := below_alloc wr (Obj.cells #[.int .i64 (h : Int), .slice uo l.length uc] 88)
      obtain ⟨wb, HWB⟩ : ∃ wb, Hid (wr.alloc (Obj.cells #[.int .i64 (h : Int), .slice uo l.length uc] 88) = wb) := ⟨_, (rfl : _ = _)⟩
      rw [HWB.out] at g0 hb0
      have HSZ : Hid (wr.heap.size < wb.heap.size) := by show _ < _; rw [← HWB.out]; simp
      have HT2 : Hid (TI w t n (.slice (some ⟨b2, o, none⟩) ps.length c) ps be bf bw br bm cf bs E F V R M q wb) := HT.out.next hb0
      have HLT : Hid (q < ps.length) := hlt
      have HC0 : Hid (w.heap.size < wb.heap.size ∧ ¬ w.heap.size = bs ∧ wb.cell? ⟨w.heap.size, 0, none⟩ = some (.int .i64 t)) := ⟨HT2.out.gb.lt, HT2.out.ne.2.2, HT2.out.gb.c0⟩
      have HC1 : Hid (w.heap.size < wb.heap.size ∧ ¬ w.heap.size = bs ∧ wb.cell? ⟨w.heap.size, 1, none⟩ = some (.int .i64 (n : Int))) := ⟨HT2.out.gb.lt, HT2.out.ne.2.2, HT2.out.gb.c1⟩
      have HC2 : Hid (w.heap.size < wb.heap.size ∧ ¬ w.heap.size = bs ∧ wb.cell? ⟨w.heap.size, 2, none⟩ = some (.slice (some ⟨b2, o, none⟩) ps.length c)) := ⟨HT2.out.gb.lt, HT2.out.ne.2.2, HT2.out.gb.c2⟩
      have HC3 : Hid (wr.heap.size < wb.heap.size ∧ ¬ wr.heap.size = bs ∧ wb.cell? ⟨wr.heap.size, 1, none⟩ = some (.slice uo l.length uc)) := ⟨HSZ.out, by have := HT.out.rs.lt; omega, g0 1⟩
      have HC4 : Hid (cf < wb.heap.size ∧ ¬ cf = bs ∧ wb.cell? ⟨cf, 2, none⟩ = some (.slice (some ⟨bw, 0, none⟩) n n)) := ⟨HT2.out.bx.lt, row_ne HT2.out.bx HT2.out.rs (by decide), HT2.out.bx.cell (i := 2) (by omega)⟩
      have HC5 : Hid (wr.heap.size < wb.heap.size ∧ ¬ wr.heap.size = bs ∧ wb.cell? ⟨wr.heap.size, 0, none⟩ = some (.int .i64 (h : Int))) := ⟨HSZ.out, by have := HT.out.rs.lt; omega, g0 0⟩
      have HC6 : Hid (bw < wb.heap.size ∧ ¬ bw = bs ∧ wb.cell? ⟨bw, h, none⟩ = some (.int .u64 ((V h).toNat : Int))) := ⟨HT2.out.fx.v.lt, HT2.out.ne.2.1, HT2.out.fx.v.cell hhn⟩
      have hh1 : (h : Int) < (n : Int) := by omega
      have hh0 : (0 : Int) ≤ (h : Int) := by omega
      obtain ⟨x, HX⟩ : ∃ x, Hid (sts ps E F V q = x) := ⟨_, (rfl : _ = _)⟩
      obtain ⟨vh, HVH⟩ : ∃ x, Hid (V h = x) := ⟨_, (rfl : _ = _)⟩
      have HC : Hid (∀ W, Fm (fun k => k = bs) wb W → Calls Try.prog 99 #[.agg #[.int .i64 t, .int .i64 (n : Int), .slice (some ⟨b2, o, none⟩) ps.length c], .slice uo l.length uc, .int .u64 (vh.toNat : Int)] W fun e w'' => e = .returned (.tuple #[.int .u64 (x.toNat : Int), .int .i64 0]) ∧ Below W.heap.size W w'') := fun W hW => by
        have hg := HT2.out.gb.other HP.out hW HT2.out.ne.2.2 HT2.out.ge
        have := Begin_at t n _ ps _ l vh W hg.pds (HU.out.below hg.below) HBE.out HFA.out.e HFA.out.m HFA.out.f
        rw [← HVH.out, ← HST.out, HX.out, HVH.out] at this
        exact this
      have HPUT : Hid (∀ W, Rw W bs ps.length (fun i => if i < q then sts ps E F V i else 0#64) → Rw (W.setCell ⟨bs, q, none⟩ (.int .u64 (x.toNat : Int))) bs ps.length (fun i => if i < q + 1 then sts ps E F V i else 0#64)) := fun W hW => by
        rw [← HX.out]
        refine World.rowIs.congr (hW.set q _) fun i _ => ?_
        unfold upd
        show Value.int .u64 ((if i = q then sts ps E F V q else (if i < q then sts ps E F V i else 0#64)).toNat : Int) = Value.int .u64 ((if i < q + 1 then sts ps E F V i else 0#64).toNat : Int)
        by_cases e : i = q
        · subst e; rw [if_pos rfl, if_pos (by omega)]
        · rw [if_neg e]
          by_cases e2 : i < q
          · rw [if_pos e2, if_pos (by omega)]
          · rw [if_neg e2, if_neg (by omega)]
      have HRS : Hid (Rw wb bs ps.length (fun i => if i < q then sts ps E F V i else 0#64)) := HT2.out.rs
      rw [HVH.out] at HC6
      clear hcs hc hb0 g0 HT HX HVH HST huc hh hlt
      go_upto_region 8 with (fail)
      rw [HWB.out]
      clear c0 c1
      refine wp_region_free mixed (fun a0 d a W => ∃ (x5 x29 x30 x31 x32 x33 x34 x35 x36 x37 x38 x39 x40 x41 x42 x43 x44 : Value), a = (((((((((((((((((a0.put (some 5) x5).put (some 29) x29).put (some 30) x30).put (some 31) x31).put (some 32) x32).put (some 33) x33).put (some 34) x34).put (some 35) x35).put (some 36) x36).put (some 37) x37).put (some 38) x38).put (some 39) x39).put (some 40) x40).put (some 41) x41).put (some 42) x42).put (some 43) x43).put (some 44) x44) ∧ Hid (RTa w wb wr t n ps b2 o c bs bw cf uo l uc h q x vh E F V d x5 x29 x30 x31 x32 x33 x34 x35 x36 x37 x38 x39 x40 x41 x42 x43 x44 W)) (by kernel_rfl) ⟨u5, u29, u30, u31, u32, u33, u34, u35, u36, u37, u38, u39, u40, u41, u42, u43, u44, by simp only [Act.put, List.setIfInBounds_toArray, List.set_cons_zero, List.set_cons_succ], ?_⟩ ?_ ?_
      · exact ⟨fun h => no_way h, fun h => no_way h, fun h => no_way h, fun h => no_way h, fun h => no_way h, fun h => no_way h, fun h => no_way h, fun h => no_way h, fun h => no_way h, fun h => no_way h, fun h => no_way h, fun h => no_way h, fun h => no_way h, fun h => no_way h, fun h => no_way h, fun h => no_way h, fun _ => trivial, fun h => no_way h, Fm.of ⟨rfl, rfl, rfl, Nat.le_refl _, fun _ _ => rfl⟩, fun _ => HRS.out, fun h => no_way h⟩
      · simp only [StepAll, and_true]
        refine ⟨?_, ?_, ?_, ?_, ?_, ?_, ?_, ?_, ?_, ?_, ?_, ?_, ?_, ?_, ?_, ?_, ?_, ?_⟩
        · intro d a W hI hd hdep
          obtain ⟨x5, x29, x30, x31, x32, x33, x34, x35, x36, x37, x38, x39, x40, x41, x42, x43, x44, rfl, hF⟩ := hI
          clear hdep hd
          intro K hK
          simp only [Act.put, List.setIfInBounds_toArray, List.set_cons_zero, List.set_cons_succ]
          go_simp
          refine hK.out _ _ ⟨x5, x29, (.slice (some ⟨bs, 0, none⟩) ps.length ps.length), x31, x32, x33, x34, x35, x36, x37, x38, x39, x40, x41, x42, x43, x44, by simp only [Act.put, List.setIfInBounds_toArray, List.set_cons_zero, List.set_cons_succ], ?_⟩
          exact ⟨fun _ => rfl, fun h => hF.out.f1 (by simpa using h), fun h => hF.out.f2 (by simpa using h), fun h => hF.out.f3 (by simpa using h), fun h => hF.out.f4 (by simpa using h), fun h => hF.out.f5 (by simpa using h), fun h => hF.out.f6 (by simpa using h), fun h => hF.out.f7 (by simpa using h), fun h => hF.out.f8 (by simpa using h), fun h => hF.out.f9 (by simpa using h), fun h => hF.out.f10 (by simpa using h), fun h => hF.out.f11 (by simpa using h), fun h => hF.out.f12 (by simpa using h), fun h => hF.out.f13 (by simpa using h), fun h => hF.out.f14 (by simpa using h), fun h => hF.out.f15 (by simpa using h), fun h => hF.out.f16 (by simpa using h), fun h => hF.out.f17 (by simpa using h), hF.out.kp, fun h => hF.out.r0 (by simpa using h), fun h => hF.out.r1 (by simpa using h)⟩
        · intro d a W hI hd hdep
          obtain ⟨x5, x29, x30, x31, x32, x33, x34, x35, x36, x37, x38, x39, x40, x41, x42, x43, x44, rfl, hF⟩ := hI
          clear hdep hd
          intro K hK
          simp only [Act.put, List.setIfInBounds_toArray, List.set_cons_zero, List.set_cons_succ]
          go_simp
          refine hK.out _ _ ⟨x5, x29, x30, (.int .i64 (q : Int)), x32, x33, x34, x35, x36, x37, x38, x39, x40, x41, x42, x43, x44, by simp only [Act.put, List.setIfInBounds_toArray, List.set_cons_zero, List.set_cons_succ], ?_⟩
          exact ⟨fun h => hF.out.f0 (by simpa using h), fun _ => rfl, fun h => hF.out.f2 (by simpa using h), fun h => hF.out.f3 (by simpa using h), fun h => hF.out.f4 (by simpa using h), fun h => hF.out.f5 (by simpa using h), fun h => hF.out.f6 (by simpa using h), fun h => hF.out.f7 (by simpa using h), fun h => hF.out.f8 (by simpa using h), fun h => hF.out.f9 (by simpa using h), fun h => hF.out.f10 (by simpa using h), fun h => hF.out.f11 (by simpa using h), fun h => hF.out.f12 (by simpa using h), fun h => hF.out.f13 (by simpa using h), fun h => hF.out.f14 (by simpa using h), fun h => hF.out.f15 (by simpa using h), fun h => hF.out.f16 (by simpa using h), fun h => hF.out.f17 (by simpa using h), hF.out.kp, fun h => hF.out.r0 (by simpa using h), fun h => hF.out.r1 (by simpa using h)⟩
        · intro d a W hI hd hdep
          obtain ⟨x5, x29, x30, x31, x32, x33, x34, x35, x36, x37, x38, x39, x40, x41, x42, x43, x44, rfl, hF⟩ := hI
          have hkp := hF.out.kp
          have a0 := (hkp.cell (p := ⟨w.heap.size, 0, none⟩) HC0.out.1 HC0.out.2.1).trans HC0.out.2.2
          have a1 := (hkp.cell (p := ⟨w.heap.size, 1, none⟩) HC1.out.1 HC1.out.2.1).trans HC1.out.2.2
          have a2 := (hkp.cell (p := ⟨w.heap.size, 2, none⟩) HC2.out.1 HC2.out.2.1).trans HC2.out.2.2
          clear hkp
          clear hdep hd
          intro K hK
          simp only [Act.put, List.setIfInBounds_toArray, List.set_cons_zero, List.set_cons_succ]
          go_simp
          refine hK.out _ _ ⟨x5, x29, x30, x31, (.agg #[.int .i64 t, .int .i64 (n : Int), .slice (some ⟨b2, o, none⟩) ps.length c]), x33, x34, x35, x36, x37, x38, x39, x40, x41, x42, x43, x44, by simp only [Act.put, List.setIfInBounds_toArray, List.set_cons_zero, List.set_cons_succ], ?_⟩
          exact ⟨fun h => hF.out.f0 (by simpa using h), fun h => hF.out.f1 (by simpa using h), fun _ => rfl, fun h => hF.out.f3 (by simpa using h), fun h => hF.out.f4 (by simpa using h), fun h => hF.out.f5 (by simpa using h), fun h => hF.out.f6 (by simpa using h), fun h => hF.out.f7 (by simpa using h), fun h => hF.out.f8 (by simpa using h), fun h => hF.out.f9 (by simpa using h), fun h => hF.out.f10 (by simpa using h), fun h => hF.out.f11 (by simpa using h), fun h => hF.out.f12 (by simpa using h), fun h => hF.out.f13 (by simpa using h), fun h => hF.out.f14 (by simpa using h), fun h => hF.out.f15 (by simpa using h), fun h => hF.out.f16 (by simpa using h), fun h => hF.out.f17 (by simpa using h), hF.out.kp, fun h => hF.out.r0 (by simpa using h), fun h => hF.out.r1 (by simpa using h)⟩
        · intro d a W hI hd hdep
          obtain ⟨x5, x29, x30, x31, x32, x33, x34, x35, x36, x37, x38, x39, x40, x41, x42, x43, x44, rfl, hF⟩ := hI
          clear hdep hd
          intro K hK
          simp only [Act.put, List.setIfInBounds_toArray, List.set_cons_zero, List.set_cons_succ]
          go_simp
          refine hK.out _ _ ⟨x5, x29, x30, x31, x32, (.pointer (some ⟨wr.heap.size, 1, none⟩)), x34, x35, x36, x37, x38, x39, x40, x41, x42, x43, x44, by simp only [Act.put, List.setIfInBounds_toArray, List.set_cons_zero, List.set_cons_succ], ?_⟩
          exact ⟨fun h => hF.out.f0 (by simpa using h), fun h => hF.out.f1 (by simpa using h), fun h => hF.out.f2 (by simpa using h), fun _ => rfl, fun h => hF.out.f4 (by simpa using h), fun h => hF.out.f5 (by simpa using h), fun h => hF.out.f6 (by simpa using h), fun h => hF.out.f7 (by simpa using h), fun h => hF.out.f8 (by simpa using h), fun h => hF.out.f9 (by simpa using h), fun h => hF.out.f10 (by simpa using h), fun h => hF.out.f11 (by simpa using h), fun h => hF.out.f12 (by simpa using h), fun h => hF.out.f13 (by simpa using h), fun h => hF.out.f14 (by simpa using h), fun h => hF.out.f15 (by simpa using h), fun h => hF.out.f16 (by simpa using h), fun h => hF.out.f17 (by simpa using h), hF.out.kp, fun h => hF.out.r0 (by simpa using h), fun h => hF.out.r1 (by simpa using h)⟩
        · intro d a W hI hd hdep
          obtain ⟨x5, x29, x30, x31, x32, x33, x34, x35, x36, x37, x38, x39, x40, x41, x42, x43, x44, rfl, hF⟩ := hI
          have hd3 : d 3 = true := dep_of hdep 3 (by kernel_rfl)
          obtain rfl := hF.out.f3 hd3
          have hkp := hF.out.kp
          have a0 := (hkp.cell (p := ⟨wr.heap.size, 1, none⟩) HC3.out.1 HC3.out.2.1).trans HC3.out.2.2
          clear hkp
          clear hdep hd hd3
          intro K hK
          simp only [Act.put, List.setIfInBounds_toArray, List.set_cons_zero, List.set_cons_succ]
          go_simp
          refine hK.out _ _ ⟨x5, x29, x30, x31, x32, (.pointer (some ⟨wr.heap.size, 1, none⟩)), (.slice uo l.length uc), x35, x36, x37, x38, x39, x40, x41, x42, x43, x44, by simp only [Act.put, List.setIfInBounds_toArray, List.set_cons_zero, List.set_cons_succ], ?_⟩
          exact ⟨fun h => hF.out.f0 (by simpa using h), fun h => hF.out.f1 (by simpa using h), fun h => hF.out.f2 (by simpa using h), fun h => hF.out.f3 (by simpa using h), fun _ => rfl, fun h => hF.out.f5 (by simpa using h), fun h => hF.out.f6 (by simpa using h), fun h => hF.out.f7 (by simpa using h), fun h => hF.out.f8 (by simpa using h), fun h => hF.out.f9 (by simpa using h), fun h => hF.out.f10 (by simpa using h), fun h => hF.out.f11 (by simpa using h), fun h => hF.out.f12 (by simpa using h), fun h => hF.out.f13 (by simpa using h), fun h => hF.out.f14 (by simpa using h), fun h => hF.out.f15 (by simpa using h), fun h => hF.out.f16 (by simpa using h), fun h => hF.out.f17 (by simpa using h), hF.out.kp, fun h => hF.out.r0 (by simpa using h), fun h => hF.out.r1 (by simpa using h)⟩
        · intro d a W hI hd hdep
          obtain ⟨x5, x29, x30, x31, x32, x33, x34, x35, x36, x37, x38, x39, x40, x41, x42, x43, x44, rfl, hF⟩ := hI
          clear hdep hd
          intro K hK
          simp only [Act.put, List.setIfInBounds_toArray, List.set_cons_zero, List.set_cons_succ]
          go_simp
          refine hK.out _ _ ⟨x5, x29, x30, x31, x32, x33, x34, (.pointer (some ⟨cf, 2, none⟩)), x36, x37, x38, x39, x40, x41, x42, x43, x44, by simp only [Act.put, List.setIfInBounds_toArray, List.set_cons_zero, List.set_cons_succ], ?_⟩
          exact ⟨fun h => hF.out.f0 (by simpa using h), fun h => hF.out.f1 (by simpa using h), fun h => hF.out.f2 (by simpa using h), fun h => hF.out.f3 (by simpa using h), fun h => hF.out.f4 (by simpa using h), fun _ => rfl, fun h => hF.out.f6 (by simpa using h), fun h => hF.out.f7 (by simpa using h), fun h => hF.out.f8 (by simpa using h), fun h => hF.out.f9 (by simpa using h), fun h => hF.out.f10 (by simpa using h), fun h => hF.out.f11 (by simpa using h), fun h => hF.out.f12 (by simpa using h), fun h => hF.out.f13 (by simpa using h), fun h => hF.out.f14 (by simpa using h), fun h => hF.out.f15 (by simpa using h), fun h => hF.out.f16 (by simpa using h), fun h => hF.out.f17 (by simpa using h), hF.out.kp, fun h => hF.out.r0 (by simpa using h), fun h => hF.out.r1 (by simpa using h)⟩
        · intro d a W hI hd hdep
          obtain ⟨x5, x29, x30, x31, x32, x33, x34, x35, x36, x37, x38, x39, x40, x41, x42, x43, x44, rfl, hF⟩ := hI
          have hd5 : d 5 = true := dep_of hdep 5 (by kernel_rfl)
          obtain rfl := hF.out.f5 hd5
          have hkp := hF.out.kp
          have a0 := (hkp.cell (p := ⟨cf, 2, none⟩) HC4.out.1 HC4.out.2.1).trans HC4.out.2.2
          clear hkp
          clear hdep hd hd5
          intro K hK
          simp only [Act.put, List.setIfInBounds_toArray, List.set_cons_zero, List.set_cons_succ]
          go_simp
          refine hK.out _ _ ⟨x5, x29, x30, x31, x32, x33, x34, (.pointer (some ⟨cf, 2, none⟩)), (.slice (some ⟨bw, 0, none⟩) n n), x37, x38, x39, x40, x41, x42, x43, x44, by simp only [Act.put, List.setIfInBounds_toArray, List.set_cons_zero, List.set_cons_succ], ?_⟩
          exact ⟨fun h => hF.out.f0 (by simpa using h), fun h => hF.out.f1 (by simpa using h), fun h => hF.out.f2 (by simpa using h), fun h => hF.out.f3 (by simpa using h), fun h => hF.out.f4 (by simpa using h), fun h => hF.out.f5 (by simpa using h), fun _ => rfl, fun h => hF.out.f7 (by simpa using h), fun h => hF.out.f8 (by simpa using h), fun h => hF.out.f9 (by simpa using h), fun h => hF.out.f10 (by simpa using h), fun h => hF.out.f11 (by simpa using h), fun h => hF.out.f12 (by simpa using h), fun h => hF.out.f13 (by simpa using h), fun h => hF.out.f14 (by simpa using h), fun h => hF.out.f15 (by simpa using h), fun h => hF.out.f16 (by simpa using h), fun h => hF.out.f17 (by simpa using h), hF.out.kp, fun h => hF.out.r0 (by simpa using h), fun h => hF.out.r1 (by simpa using h)⟩
        · intro d a W hI hd hdep
          obtain ⟨x5, x29, x30, x31, x32, x33, x34, x35, x36, x37, x38, x39, x40, x41, x42, x43, x44, rfl, hF⟩ := hI
          clear hdep hd
          intro K hK
          simp only [Act.put, List.setIfInBounds_toArray, List.set_cons_zero, List.set_cons_succ]
          go_simp
          refine hK.out _ _ ⟨x5, x29, x30, x31, x32, x33, x34, x35, x36, (.pointer (some ⟨wr.heap.size, 0, none⟩)), x38, x39, x40, x41, x42, x43, x44, by simp only [Act.put, List.setIfInBounds_toArray, List.set_cons_zero, List.set_cons_succ], ?_⟩
          exact ⟨fun h => hF.out.f0 (by simpa using h), fun h => hF.out.f1 (by simpa using h), fun h => hF.out.f2 (by simpa using h), fun h => hF.out.f3 (by simpa using h), fun h => hF.out.f4 (by simpa using h), fun h => hF.out.f5 (by simpa using h), fun h => hF.out.f6 (by simpa using h), fun _ => rfl, fun h => hF.out.f8 (by simpa using h), fun h => hF.out.f9 (by simpa using h), fun h => hF.out.f10 (by simpa using h), fun h => hF.out.f11 (by simpa using h), fun h => hF.out.f12 (by simpa using h), fun h => hF.out.f13 (by simpa using h), fun h => hF.out.f14 (by simpa using h), fun h => hF.out.f15 (by simpa using h), fun h => hF.out.f16 (by simpa using h), fun h => hF.out.f17 (by simpa using h), hF.out.kp, fun h => hF.out.r0 (by simpa using h), fun h => hF.out.r1 (by simpa using h)⟩
        · intro d a W hI hd hdep
          obtain ⟨x5, x29, x30, x31, x32, x33, x34, x35, x36, x37, x38, x39, x40, x41, x42, x43, x44, rfl, hF⟩ := hI
          have hd7 : d 7 = true := dep_of hdep 7 (by kernel_rfl)
          obtain rfl := hF.out.f7 hd7
          have hkp := hF.out.kp
          have a0 := (hkp.cell (p := ⟨wr.heap.size, 0, none⟩) HC5.out.1 HC5.out.2.1).trans HC5.out.2.2
          clear hkp
          clear hdep hd hd7
          intro K hK
          simp only [Act.put, List.setIfInBounds_toArray, List.set_cons_zero, List.set_cons_succ]
          go_simp
          refine hK.out _ _ ⟨x5, x29, x30, x31, x32, x33, x34, x35, x36, (.pointer (some ⟨wr.heap.size, 0, none⟩)), (.int .i64 (h : Int)), x39, x40, x41, x42, x43, x44, by simp only [Act.put, List.setIfInBounds_toArray, List.set_cons_zero, List.set_cons_succ], ?_⟩
          exact ⟨fun h => hF.out.f0 (by simpa using h), fun h => hF.out.f1 (by simpa using h), fun h => hF.out.f2 (by simpa using h), fun h => hF.out.f3 (by simpa using h), fun h => hF.out.f4 (by simpa using h), fun h => hF.out.f5 (by simpa using h), fun h => hF.out.f6 (by simpa using h), fun h => hF.out.f7 (by simpa using h), fun _ => rfl, fun h => hF.out.f9 (by simpa using h), fun h => hF.out.f10 (by simpa using h), fun h => hF.out.f11 (by simpa using h), fun h => hF.out.f12 (by simpa using h), fun h => hF.out.f13 (by simpa using h), fun h => hF.out.f14 (by simpa using h), fun h => hF.out.f15 (by simpa using h), fun h => hF.out.f16 (by simpa using h), fun h => hF.out.f17 (by simpa using h), hF.out.kp, fun h => hF.out.r0 (by simpa using h), fun h => hF.out.r1 (by simpa using h)⟩
        · intro d a W hI hd hdep
          obtain ⟨x5, x29, x30, x31, x32, x33, x34, x35, x36, x37, x38, x39, x40, x41, x42, x43, x44, rfl, hF⟩ := hI
          have hd6 : d 6 = true := dep_of hdep 6 (by kernel_rfl)
          have hd8 : d 8 = true := dep_of hdep 8 (by kernel_rfl)
          obtain rfl := hF.out.f6 hd6
          obtain rfl := hF.out.f8 hd8
          clear hdep hd hd6 hd8
          intro K hK
          simp only [Act.put, List.setIfInBounds_toArray, List.set_cons_zero, List.set_cons_succ]
          go_simp
          refine hK.out _ _ ⟨x5, x29, x30, x31, x32, x33, x34, x35, (.slice (some ⟨bw, 0, none⟩) n n), x37, (.int .i64 (h : Int)), (.pointer (some ⟨bw, h, none⟩)), x40, x41, x42, x43, x44, by simp only [Act.put, List.setIfInBounds_toArray, List.set_cons_zero, List.set_cons_succ], ?_⟩
          exact ⟨fun h => hF.out.f0 (by simpa using h), fun h => hF.out.f1 (by simpa using h), fun h => hF.out.f2 (by simpa using h), fun h => hF.out.f3 (by simpa using h), fun h => hF.out.f4 (by simpa using h), fun h => hF.out.f5 (by simpa using h), fun h => hF.out.f6 (by simpa using h), fun h => hF.out.f7 (by simpa using h), fun h => hF.out.f8 (by simpa using h), fun _ => rfl, fun h => hF.out.f10 (by simpa using h), fun h => hF.out.f11 (by simpa using h), fun h => hF.out.f12 (by simpa using h), fun h => hF.out.f13 (by simpa using h), fun h => hF.out.f14 (by simpa using h), fun h => hF.out.f15 (by simpa using h), fun h => hF.out.f16 (by simpa using h), fun h => hF.out.f17 (by simpa using h), hF.out.kp, fun h => hF.out.r0 (by simpa using h), fun h => hF.out.r1 (by simpa using h)⟩
        · intro d a W hI hd hdep
          obtain ⟨x5, x29, x30, x31, x32, x33, x34, x35, x36, x37, x38, x39, x40, x41, x42, x43, x44, rfl, hF⟩ := hI
          have hd9 : d 9 = true := dep_of hdep 9 (by kernel_rfl)
          obtain rfl := hF.out.f9 hd9
          have hkp := hF.out.kp
          have a0 := (hkp.cell (p := ⟨bw, h, none⟩) HC6.out.1 HC6.out.2.1).trans HC6.out.2.2
          clear hkp
          clear hdep hd hd9
          intro K hK
          simp only [Act.put, List.setIfInBounds_toArray, List.set_cons_zero, List.set_cons_succ]
          go_simp
          refine hK.out _ _ ⟨x5, x29, x30, x31, x32, x33, x34, x35, x36, x37, x38, (.pointer (some ⟨bw, h, none⟩)), (.int .u64 (vh.toNat : Int)), x41, x42, x43, x44, by simp only [Act.put, List.setIfInBounds_toArray, List.set_cons_zero, List.set_cons_succ], ?_⟩
          exact ⟨fun h => hF.out.f0 (by simpa using h), fun h => hF.out.f1 (by simpa using h), fun h => hF.out.f2 (by simpa using h), fun h => hF.out.f3 (by simpa using h), fun h => hF.out.f4 (by simpa using h), fun h => hF.out.f5 (by simpa using h), fun h => hF.out.f6 (by simpa using h), fun h => hF.out.f7 (by simpa using h), fun h => hF.out.f8 (by simpa using h), fun h => hF.out.f9 (by simpa using h), fun _ => rfl, fun h => hF.out.f11 (by simpa using h), fun h => hF.out.f12 (by simpa using h), fun h => hF.out.f13 (by simpa using h), fun h => hF.out.f14 (by simpa using h), fun h => hF.out.f15 (by simpa using h), fun h => hF.out.f16 (by simpa using h), fun h => hF.out.f17 (by simpa using h), hF.out.kp, fun h => hF.out.r0 (by simpa using h), fun h => hF.out.r1 (by simpa using h)⟩
        · intro d a W hI hd hdep
          obtain ⟨x5, x29, x30, x31, x32, x33, x34, x35, x36, x37, x38, x39, x40, x41, x42, x43, x44, rfl, hF⟩ := hI
          have hd2 : d 2 = true := dep_of hdep 2 (by kernel_rfl)
          have hd4 : d 4 = true := dep_of hdep 4 (by kernel_rfl)
          have hd10 : d 10 = true := dep_of hdep 10 (by kernel_rfl)
          obtain rfl := hF.out.f2 hd2
          obtain rfl := hF.out.f4 hd4
          obtain rfl := hF.out.f10 hd10
          have HKP : Hid (Fm (fun k => k = bs) wb W) := hF.out.kp
          have hcl := HC.out W HKP.out
          clear hdep hd hd2 hd4 hd10
          intro K hK
          simp only [Act.put, List.setIfInBounds_toArray, List.set_cons_zero, List.set_cons_succ]
          go_simp
          refine hcl.mono ?_
          rintro _ W1 ⟨rfl, hb1⟩
          have HB1 : Hid (Below W.heap.size W W1) := hb1
          clear hb1 hcl
          go_simp
          refine hK.out _ _ ⟨x5, x29, x30, x31, (.agg #[.int .i64 t, .int .i64 (n : Int), .slice (some ⟨b2, o, none⟩) ps.length c]), x33, (.slice uo l.length uc), x35, x36, x37, x38, x39, (.int .u64 (vh.toNat : Int)), (.tuple #[.int .u64 (x.toNat : Int), .int .i64 0]), x42, x43, x44, by simp only [Act.put, List.setIfInBounds_toArray, List.set_cons_zero, List.set_cons_succ], ?_⟩
          exact ⟨fun h => hF.out.f0 (by simpa using h), fun h => hF.out.f1 (by simpa using h), fun h => hF.out.f2 (by simpa using h), fun h => hF.out.f3 (by simpa using h), fun h => hF.out.f4 (by simpa using h), fun h => hF.out.f5 (by simpa using h), fun h => hF.out.f6 (by simpa using h), fun h => hF.out.f7 (by simpa using h), fun h => hF.out.f8 (by simpa using h), fun h => hF.out.f9 (by simpa using h), fun h => hF.out.f10 (by simpa using h), fun _ => rfl, fun h => hF.out.f12 (by simpa using h), fun h => hF.out.f13 (by simpa using h), fun h => hF.out.f14 (by simpa using h), fun h => hF.out.f15 (by simpa using h), fun h => hF.out.f16 (by simpa using h), fun h => hF.out.f17 (by simpa using h), HKP.out.trans (Fm.of HB1.out) (fun _ _ e => e), fun h => (hF.out.r0 (by simpa using h)).next HB1.out, fun h => (hF.out.r1 (by simpa using h)).next HB1.out⟩
        · intro d a W hI hd hdep
          obtain ⟨x5, x29, x30, x31, x32, x33, x34, x35, x36, x37, x38, x39, x40, x41, x42, x43, x44, rfl, hF⟩ := hI
          have hd11 : d 11 = true := dep_of hdep 11 (by kernel_rfl)
          obtain rfl := hF.out.f11 hd11
          clear hdep hd hd11
          intro K hK
          simp only [Act.put, List.setIfInBounds_toArray, List.set_cons_zero, List.set_cons_succ]
          go_simp
          refine hK.out _ _ ⟨x5, (.tuple #[.int .u64 (x.toNat : Int), .int .i64 0]), x30, x31, x32, x33, x34, x35, x36, x37, x38, x39, x40, (.tuple #[.int .u64 (x.toNat : Int), .int .i64 0]), x42, x43, x44, by simp only [Act.put, List.setIfInBounds_toArray, List.set_cons_zero, List.set_cons_succ], ?_⟩
          exact ⟨fun h => hF.out.f0 (by simpa using h), fun h => hF.out.f1 (by simpa using h), fun h => hF.out.f2 (by simpa using h), fun h => hF.out.f3 (by simpa using h), fun h => hF.out.f4 (by simpa using h), fun h => hF.out.f5 (by simpa using h), fun h => hF.out.f6 (by simpa using h), fun h => hF.out.f7 (by simpa using h), fun h => hF.out.f8 (by simpa using h), fun h => hF.out.f9 (by simpa using h), fun h => hF.out.f10 (by simpa using h), fun h => hF.out.f11 (by simpa using h), fun _ => rfl, fun h => hF.out.f13 (by simpa using h), fun h => hF.out.f14 (by simpa using h), fun h => hF.out.f15 (by simpa using h), fun h => hF.out.f16 (by simpa using h), fun h => hF.out.f17 (by simpa using h), hF.out.kp, fun h => hF.out.r0 (by simpa using h), fun h => hF.out.r1 (by simpa using h)⟩
        · intro d a W hI hd hdep
          obtain ⟨x5, x29, x30, x31, x32, x33, x34, x35, x36, x37, x38, x39, x40, x41, x42, x43, x44, rfl, hF⟩ := hI
          have hd12 : d 12 = true := dep_of hdep 12 (by kernel_rfl)
          obtain rfl := hF.out.f12 hd12
          clear hdep hd hd12
          intro K hK
          simp only [Act.put, List.setIfInBounds_toArray, List.set_cons_zero, List.set_cons_succ]
          go_simp
          refine hK.out _ _ ⟨x5, (.tuple #[.int .u64 (x.toNat : Int), .int .i64 0]), x30, x31, x32, x33, x34, x35, x36, x37, x38, x39, x40, x41, (.int .u64 (x.toNat : Int)), x43, x44, by simp only [Act.put, List.setIfInBounds_toArray, List.set_cons_zero, List.set_cons_succ], ?_⟩
          exact ⟨fun h => hF.out.f0 (by simpa using h), fun h => hF.out.f1 (by simpa using h), fun h => hF.out.f2 (by simpa using h), fun h => hF.out.f3 (by simpa using h), fun h => hF.out.f4 (by simpa using h), fun h => hF.out.f5 (by simpa using h), fun h => hF.out.f6 (by simpa using h), fun h => hF.out.f7 (by simpa using h), fun h => hF.out.f8 (by simpa using h), fun h => hF.out.f9 (by simpa using h), fun h => hF.out.f10 (by simpa using h), fun h => hF.out.f11 (by simpa using h), fun h => hF.out.f12 (by simpa using h), fun _ => rfl, fun h => hF.out.f14 (by simpa using h), fun h => hF.out.f15 (by simpa using h), fun h => hF.out.f16 (by simpa using h), fun h => hF.out.f17 (by simpa using h), hF.out.kp, fun h => hF.out.r0 (by simpa using h), fun h => hF.out.r1 (by simpa using h)⟩
        · intro d a W hI hd hdep
          obtain ⟨x5, x29, x30, x31, x32, x33, x34, x35, x36, x37, x38, x39, x40, x41, x42, x43, x44, rfl, hF⟩ := hI
          have hd12 : d 12 = true := dep_of hdep 12 (by kernel_rfl)
          obtain rfl := hF.out.f12 hd12
          clear hdep hd hd12
          intro K hK
          simp only [Act.put, List.setIfInBounds_toArray, List.set_cons_zero, List.set_cons_succ]
          go_simp
          refine hK.out _ _ ⟨x5, (.tuple #[.int .u64 (x.toNat : Int), .int .i64 0]), x30, x31, x32, x33, x34, x35, x36, x37, x38, x39, x40, x41, x42, (.int .i64 0), x44, by simp only [Act.put, List.setIfInBounds_toArray, List.set_cons_zero, List.set_cons_succ], ?_⟩
          exact ⟨fun h => hF.out.f0 (by simpa using h), fun h => hF.out.f1 (by simpa using h), fun h => hF.out.f2 (by simpa using h), fun h => hF.out.f3 (by simpa using h), fun h => hF.out.f4 (by simpa using h), fun h => hF.out.f5 (by simpa using h), fun h => hF.out.f6 (by simpa using h), fun h => hF.out.f7 (by simpa using h), fun h => hF.out.f8 (by simpa using h), fun h => hF.out.f9 (by simpa using h), fun h => hF.out.f10 (by simpa using h), fun h => hF.out.f11 (by simpa using h), fun h => hF.out.f12 (by simpa using h), fun h => hF.out.f13 (by simpa using h), fun _ => rfl, fun h => hF.out.f15 (by simpa using h), fun h => hF.out.f16 (by simpa using h), fun h => hF.out.f17 (by simpa using h), hF.out.kp, fun h => hF.out.r0 (by simpa using h), fun h => hF.out.r1 (by simpa using h)⟩
        · intro d a W hI hd hdep
          obtain ⟨x5, x29, x30, x31, x32, x33, x34, x35, x36, x37, x38, x39, x40, x41, x42, x43, x44, rfl, hF⟩ := hI
          have hd0 : d 0 = true := dep_of hdep 0 (by kernel_rfl)
          have hd1 : d 1 = true := dep_of hdep 1 (by kernel_rfl)
          obtain rfl := hF.out.f0 hd0
          obtain rfl := hF.out.f1 hd1
          clear hdep hd hd0 hd1
          intro K hK
          simp only [Act.put, List.setIfInBounds_toArray, List.set_cons_zero, List.set_cons_succ]
          go_simp
          refine hK.out _ _ ⟨x5, x29, (.slice (some ⟨bs, 0, none⟩) ps.length ps.length), (.int .i64 (q : Int)), x32, x33, x34, x35, x36, x37, x38, x39, x40, x41, x42, x43, (.pointer (some ⟨bs, q, none⟩)), by simp only [Act.put, List.setIfInBounds_toArray, List.set_cons_zero, List.set_cons_succ], ?_⟩
          exact ⟨fun h => hF.out.f0 (by simpa using h), fun h => hF.out.f1 (by simpa using h), fun h => hF.out.f2 (by simpa using h), fun h => hF.out.f3 (by simpa using h), fun h => hF.out.f4 (by simpa using h), fun h => hF.out.f5 (by simpa using h), fun h => hF.out.f6 (by simpa using h), fun h => hF.out.f7 (by simpa using h), fun h => hF.out.f8 (by simpa using h), fun h => hF.out.f9 (by simpa using h), fun h => hF.out.f10 (by simpa using h), fun h => hF.out.f11 (by simpa using h), fun h => hF.out.f12 (by simpa using h), fun h => hF.out.f13 (by simpa using h), fun h => hF.out.f14 (by simpa using h), fun _ => rfl, fun h => hF.out.f16 (by simpa using h), fun h => hF.out.f17 (by simpa using h), hF.out.kp, fun h => hF.out.r0 (by simpa using h), fun h => hF.out.r1 (by simpa using h)⟩
        · intro d a W hI hd hdep
          obtain ⟨x5, x29, x30, x31, x32, x33, x34, x35, x36, x37, x38, x39, x40, x41, x42, x43, x44, rfl, hF⟩ := hI
          have hd15 : d 15 = true := dep_of hdep 15 (by kernel_rfl)
          have hd13 : d 13 = true := dep_of hdep 13 (by kernel_rfl)
          obtain rfl := hF.out.f15 hd15
          obtain rfl := hF.out.f13 hd13
          have HKP : Hid (Fm (fun k => k = bs) wb W) := hF.out.kp
          have HR0 : Hid (Rw W bs ps.length (fun i => if i < q then sts ps E F V i else 0#64)) := hF.out.r0 hd
          have a0 := HR0.out.cell HLT.out
          have a1 := World.rowIs.frozen HR0.out q
          clear hdep hd hd15 hd13
          intro K hK
          simp only [Act.put, List.setIfInBounds_toArray, List.set_cons_zero, List.set_cons_succ]
          go_simp
          refine hK.out _ _ ⟨x5, x29, x30, x31, x32, x33, x34, x35, x36, x37, x38, x39, x40, x41, (.int .u64 (x.toNat : Int)), x43, (.pointer (some ⟨bs, q, none⟩)), by simp only [Act.put, List.setIfInBounds_toArray, List.set_cons_zero, List.set_cons_succ], ?_⟩
          exact ⟨fun h => hF.out.f0 (by simpa using h), fun h => hF.out.f1 (by simpa using h), fun h => hF.out.f2 (by simpa using h), fun h => hF.out.f3 (by simpa using h), fun h => hF.out.f4 (by simpa using h), fun h => hF.out.f5 (by simpa using h), fun h => hF.out.f6 (by simpa using h), fun h => hF.out.f7 (by simpa using h), fun h => hF.out.f8 (by simpa using h), fun h => hF.out.f9 (by simpa using h), fun h => hF.out.f10 (by simpa using h), fun h => hF.out.f11 (by simpa using h), fun h => hF.out.f12 (by simpa using h), fun h => hF.out.f13 (by simpa using h), fun h => hF.out.f14 (by simpa using h), fun h => hF.out.f15 (by simpa using h), fun _ => trivial, fun h => hF.out.f17 (by simpa using h), HKP.out.trans (Fm.set (X := fun k => k = bs) (b := bs) (i := q) _ rfl) (fun _ _ e => e), fun h => by simp at h, fun _ => HPUT.out W HR0.out⟩
        · intro d a W hI hd hdep
          obtain ⟨x5, x29, x30, x31, x32, x33, x34, x35, x36, x37, x38, x39, x40, x41, x42, x43, x44, rfl, hF⟩ := hI
          have hd14 : d 14 = true := dep_of hdep 14 (by kernel_rfl)
          have hd16 : d 16 = true := dep_of hdep 16 (by kernel_rfl)
          obtain rfl := hF.out.f14 hd14
          have e16 := hd16
          clear hdep hd hd14 hd16
          intro K hK
          simp only [Act.put, List.setIfInBounds_toArray, List.set_cons_zero, List.set_cons_succ]
          go_simp
          refine hK.out _ _ ⟨(.int .i64 0), x29, x30, x31, x32, x33, x34, x35, x36, x37, x38, x39, x40, x41, x42, (.int .i64 0), x44, by simp only [Act.put, List.setIfInBounds_toArray, List.set_cons_zero, List.set_cons_succ], ?_⟩
          exact ⟨fun h => hF.out.f0 (by simpa using h), fun h => hF.out.f1 (by simpa using h), fun h => hF.out.f2 (by simpa using h), fun h => hF.out.f3 (by simpa using h), fun h => hF.out.f4 (by simpa using h), fun h => hF.out.f5 (by simpa using h), fun h => hF.out.f6 (by simpa using h), fun h => hF.out.f7 (by simpa using h), fun h => hF.out.f8 (by simpa using h), fun h => hF.out.f9 (by simpa using h), fun h => hF.out.f10 (by simpa using h), fun h => hF.out.f11 (by simpa using h), fun h => hF.out.f12 (by simpa using h), fun h => hF.out.f13 (by simpa using h), fun h => hF.out.f14 (by simpa using h), fun h => hF.out.f15 (by simpa using h), fun h => hF.out.f16 (by simpa using h), fun _ => rfl, hF.out.kp, fun h => hF.out.r0 (by simpa using h), fun h => hF.out.r1 (by simpa using h)⟩
      · intro d a W hI hall
        obtain ⟨x5, x29, x30, x31, x32, x33, x34, x35, x36, x37, x38, x39, x40, x41, x42, x43, x44, rfl, hF⟩ := hI
        simp only [List.length_cons, List.length_nil] at hall
        obtain rfl := hF.out.f0 (hall 0 (by omega))
        obtain rfl := hF.out.f1 (hall 1 (by omega))
        obtain rfl := hF.out.f2 (hall 2 (by omega))
        obtain rfl := hF.out.f3 (hall 3 (by omega))
        obtain rfl := hF.out.f4 (hall 4 (by omega))
        obtain rfl := hF.out.f5 (hall 5 (by omega))
        obtain rfl := hF.out.f6 (hall 6 (by omega))
        obtain rfl := hF.out.f7 (hall 7 (by omega))
        obtain rfl := hF.out.f8 (hall 8 (by omega))
        obtain rfl := hF.out.f9 (hall 9 (by omega))
        obtain rfl := hF.out.f10 (hall 10 (by omega))
        obtain rfl := hF.out.f11 (hall 11 (by omega))
        obtain rfl := hF.out.f12 (hall 12 (by omega))
        obtain rfl := hF.out.f13 (hall 13 (by omega))
        obtain rfl := hF.out.f14 (hall 14 (by omega))
        obtain rfl := hF.out.f15 (hall 15 (by omega))
        obtain rfl := hF.out.f17 (hall 17 (by omega))
        have HT5 : Hid (TI w t n (.slice (some ⟨b2, o, none⟩) ps.length c) ps be bf bw br bm cf bs E F V R M (q + 1) W) := HT2.out.fm HP.out hF.out.kp (hF.out.r1 (hall 16 (by omega)))
        clear hF hall
        simp only [Act.put, List.setIfInBounds_toArray, List.set_cons_zero, List.set_cons_succ]
        go_wp2_with fail
        go_roundw
        case rel => exact ⟨q + 1, by omega, by go_num, HT5⟩
        case measure => simp [intOf]; omega
    · clear hcs
      have HTE : Hid (TKW w ps bs (sts ps E F V) wr) := by
        refine ⟨HT.out.gb.below, HT.out.ge, World.rowIs.congr HT.out.rs fun i hi => ?_, E, F, V, R, M, HFA.out, rfl⟩
        have : i < q := by omega
        simp [this]
      clear HT
      go_wp2_with fail
      go_ret2
      exact ⟨bs, sts ps E F V, by simp, HTE.out⟩
end Go.Proofs.Ytpfehghicaaghaa

namespace Go.Proofs.Ytpfehghicaaghaa
open Go.RowKit
open Cg

theorem info_parts3 : ∃ i, Try.prog.info? 3 = some i ∧ i.zero = some (.int .i64 0) ∧ i.size = 1 ∧ i.bytes = 8 := by
  have h := info3
  cases e : Try.prog.info? 3 with
  | none => rw [e] at h; cases h
  | some i => rw [e] at h; simp at h; exact ⟨i, rfl, h.1, h.2.1, h.2.2⟩
/-- What choose holds: L may be taken so far. -/
structure CH (w : World) (T : Nat) (n : Int) (pv : Value) (ps : List Pd) (bs : Nat) (S : Nat → Wd) (v : Value) (L : List Int) (W : World) : Prop where
  gb : Gb w w.heap.size (T : Int) n pv ps W
  rs : Rw W bs ps.length S
  ow : W.ownsRow (w.heap.size + 1) 3 1 v L.tail.length (L.tail.map (Value.int .i64))
theorem CH.next {w : World} {T : Nat} {n : Int} {pv : Value} {ps : List Pd} {bs : Nat} {S : Nat → Wd} {v : Value} {L : List Int} {W W' : World} (h : CH w T n pv ps bs S v L W) (hb : Below W.heap.size W W') : CH w T n pv ps bs S v L W' :=
  ⟨h.gb.next hb, h.rs.next hb, own_below h.ow hb⟩
set_option maxHeartbeats 6400000 in
set_option maxRecDepth 20000 in
theorem choose_any (T : Nat) (n : Int) (hT : T ≤ 30) (pv : Value) (ps : List Pd) (hpl : ps.length ≤ 40) (bs : Nat) (S : Nat → Wd) (non col : Nat) (hcol : col ≤ T) (w : World) (hp : Pds w pv ps) (hs : Rw w bs ps.length S) :
    Calls Try.prog 83 #[.agg #[.int .i64 (T : Int), .int .i64 n, pv], .slice (some ⟨bs, 0, none⟩) ps.length ps.length, .int .i64 (non : Int), .int .i64 (col : Int)] w fun e w' => ∃ fo fl fc, e = .returned (.tuple #[.int .i64 (hdI (mayL ps S T non col)), .slice fo fl fc]) ∧ fl = (mayL ps S T non col).tail.length ∧ w'.ownsRow w.heap.size 3 1 (.slice fo fl fc) (mayL ps S T non col).tail.length ((mayL ps S T non col).tail.map (Value.int .i64)) ∧ Below w.heap.size w w' := by
  obtain ⟨i0, hi, hz0, hz1, hz2⟩ := info_parts3
  have HP : Hid (Pds w pv ps) := hp
  have HGB := Gb.box hp (T : Int) n
  obtain ⟨ao, c, rfl, hm, hcs⟩ := hp
  have hb0 := below_alloc w (Obj.cells #[.int .i64 (T : Int), .int .i64 n, .slice ao ps.length c] 24)
  have HCH0 : Hid (CH w T n (.slice ao ps.length c) ps bs S (.slice none 0 0) [] (w.alloc (Obj.cells #[.int .i64 (T : Int), .int .i64 n, .slice ao ps.length c] 24))) := ⟨HGB, hs.next hb0, World.ownsRow_nil _ _ _ _⟩
  have k2 := HGB.c2
  have HBS : Hid (bs < w.heap.size) := hs.lt
  have HPL : Hid (ps.length ≤ 40) := hpl
  have HBC : Hid (bc T col < 64) := by show _ < _; unfold bc; split <;> omega
  clear HGB hb0 hs
  go_enter Try.func83, Try.ntmps83
  go_wp2_with fail
  clear k2
  go_loopw [10, 11, 17] (fun ls fs i wr => ∃ (q : Nat) (L : List Int) (vo : Option Addr) (ln vc : Nat), q ≤ ps.length ∧ ls = .int .i64 (hdI L) ∧ fs = .slice vo ln vc ∧ i = .int .i64 (q : Int) ∧ Hid (ln = L.tail.length) ∧ Hid (mayQ ps S T non col q = L) ∧ Hid (CH w T n (.slice ao ps.length c) ps bs S (.slice vo ln vc) L wr)) (fun _ _ i _ => ps.length - (intOf i).toNat)
  case atStart => exact ⟨0, [], none, 0, 0, by omega, rfl, rfl, rfl, rfl, rfl, HCH0⟩
  case round =>
    obtain ⟨q, L, vo, ln, vc, hq, rfl, rfl, rfl, HLN, HL, HCHr⟩ := hrel
    clear HCH0
    by_cases hlt : q < ps.length
    · obtain ⟨b2, o, rfl, hb, hc⟩ := hcs.resolve_left (by intro e; subst e; simp at hlt)
      obtain ⟨c0, u, c1, hu⟩ := hc q hlt
      obtain ⟨uo, uc, rfl, -, -⟩ := hu
      have HMB : Hid (mayB ps S T non col q = (decide (ps[q].1 = (non : Int)) && (S q).getLsbD (bc T col))) := mayB_at hlt
      generalize ps[q].2.length = ul at c1
      generalize ps[q].1 = h at c0 HMB
      replace c0 : wr.cell? ⟨b2, o + q * 2, none⟩ = some (.int .i64 h) := (HCHr.out.gb.below.cell (p := ⟨b2, o + q * 2, none⟩) hb).trans c0
      replace c1 : wr.cell? ⟨b2, o + q * 2 + 1, none⟩ = some (.slice uo ul uc) := (HCHr.out.gb.below.cell (p := ⟨b2, o + q * 2 + 1, none⟩) hb).trans c1
      have hk1 : (q : Int) < (ps.length : Int) := by omega
      have hk0 : (0 : Int) ≤ (q : Int) := by omega
      have g0 := cell_new wr #[.int .i64 h, .slice uo ul uc] 88
      have hb0 := below_alloc wr (Obj.cells #[.int .i64 h, .slice uo ul uc] 88)
      obtain ⟨wb, HWB⟩ : ∃ wb, Hid (wr.alloc (Obj.cells #[.int .i64 h, .slice uo ul uc] 88) = wb) := ⟨_, (rfl : _ = _)⟩
      rw [HWB.out] at g0 hb0
      have HSZ : Hid (wr.heap.size < wb.heap.size) := by show _ < _; rw [← HWB.out]; simp
      have HCH : Hid (CH w T n (.slice (some ⟨b2, o, none⟩) ps.length c) ps bs S (.slice vo ln vc) L wb) := HCHr.out.next hb0
      have hne : Nonempty (Kp (Sb wb)) := ⟨⟨_, Sb.drew wb⟩⟩
      have y0 : ∀ p : Kp (Sb wb), p.W.cell? ⟨wr.heap.size, 0, none⟩ = some (.int .i64 h) := fun p => (Below.cell p.h (p := ⟨wr.heap.size, 0, none⟩) HSZ.out).trans (g0 0)
      have y1 : ∀ p : Kp (Sb wb), p.W.cell? ⟨bs, q, none⟩ = some (.int .u64 ((S q).toNat : Int)) := fun p => (HCH.out.next p.h).rs.cell hlt
      have k0 : ∀ p : Kp (Sb wb), p.W.cell? ⟨w.heap.size, 0, none⟩ = some (.int .i64 (T : Int)) := fun p => (HCH.out.next p.h).gb.c0
      have k1 : ∀ p : Kp (Sb wb), p.W.cell? ⟨w.heap.size, 1, none⟩ = some (.int .i64 n) := fun p => (HCH.out.next p.h).gb.c1
      have k2 : ∀ p : Kp (Sb wb), p.W.cell? ⟨w.heap.size, 2, none⟩ = some (.slice (some ⟨b2, o, none⟩) ps.length c) := fun p => (HCH.out.next p.h).gb.c2
      obtain ⟨kb, HKB⟩ : ∃ kb, Hid (bc T col = kb) := ⟨_, (rfl : _ = _)⟩
      have k3 : kb < 64 := by rw [← HKB.out]; exact HBC.out
      have HC : Hid (∀ p : Kp (Sb wb), Calls Try.prog 100 #[.agg #[.int .i64 (T : Int), .int .i64 n, .slice (some ⟨b2, o, none⟩) ps.length c], .int .i64 (col : Int)] p.W fun e w'' => e = .returned (.int .i64 (kb : Int)) ∧ ∃ q : Kp (Sb wb), w'' = q.W) := fun p => by
        have := bitOf_any T col n (.slice (some ⟨b2, o, none⟩) ps.length c) p.W ⟨_, _, _, rfl⟩
        rw [HKB.out] at this
        exact Kp.calls p Sb.next this
      obtain ⟨x, HX⟩ : ∃ x, Hid (S q = x) := ⟨_, (rfl : _ = _)⟩
      rw [HX.out] at y1
      rw [HX.out, HKB.out] at HMB
      have hbit := and_wd x kb
      clear hcs hc hb0 g0 HCHr HX HKB hlt
      by_cases hh : h = (non : Int)
      · have b0 : (h != (non : Int)) = false := by simp [hh]
        have HM2 : Hid (mayB ps S T non col q = x.getLsbD kb) := by show _ = _; rw [HMB.out, decide_eq_true hh, Bool.true_and]
        clear hh HMB
        cases hx : x.getLsbD kb with
        | false =>
          have HNX : Hid (mayQ ps S T non col (q + 1) = L) := by show _ = _; rw [mayQ_false (HM2.out.trans hx), HL.out]
          rw [hx] at hbit
          simp only [Bool.not_false] at hbit
          clear hx HM2 HL
          go_upto_region 7 with (fail)
          rw [HWB.out]
          refine wp_region_kept mixed (by kernel_rfl) (Sb.drew wb) ?_
          repeat (go_big_quiet_step (first | (go_at_call 100; with_reducible exact HC.out _)))
          refine wpQuiet_nil ?_
          intro W2 hw2
          obtain ⟨p2, rfl⟩ := hw2
          have HCH2 : Hid (CH w T n (.slice (some ⟨b2, o, none⟩) ps.length c) ps bs S (.slice vo ln vc) L p2.W) := HCH.out.next p2.h
          generalize p2.W = w2 at HCH2 ⊢
          clear y0 y1 k0 k1 k2 k3 HC hne HCH p2
          go_wp2_with fail
          go_roundw
          case rel => exact ⟨q + 1, L, vo, ln, vc, by omega, rfl, rfl, by go_num, HLN, HNX, HCH2⟩
          case measure => simp [intOf]; omega
        | true =>
          have HNX : Hid (mayQ ps S T non col (q + 1) = L ++ [(q : Int)]) := by show _ = _; rw [mayQ_true (HM2.out.trans hx), HL.out]
          rw [hx] at hbit
          simp only [Bool.not_true] at hbit
          have HGE : Hid (∀ x ∈ L, 0 ≤ x) := by show ∀ x ∈ L, 0 ≤ x; rw [← HL.out]; exact mayQ_ge
          have HLE : Hid (L.length ≤ q) := by show _ ≤ _; rw [← HL.out]; exact mayQ_length _ _ _ _ _ _
          clear hx HM2 HL
          by_cases hL : L = []
          · subst hL
            have b1 : (hdI [] == -1) = true := rfl
            obtain rfl : ln = 0 := HLN.out
            go_upto_region 7 with (fail)
            rw [HWB.out]
            refine wp_region_kept mixed (by kernel_rfl) (Sb.drew wb) ?_
            repeat (go_big_quiet_step (first | (go_at_call 100; with_reducible exact HC.out _)))
            refine wpQuiet_nil ?_
            intro W2 hw2
            obtain ⟨p2, rfl⟩ := hw2
            have HCH2 : Hid (CH w T n (.slice (some ⟨b2, o, none⟩) ps.length c) ps bs S (.slice vo 0 vc) [] p2.W) := HCH.out.next p2.h
            generalize p2.W = w2 at HCH2 ⊢
            clear y0 y1 k0 k1 k2 k3 HC hne HCH p2
            go_wp2_with fail
            go_roundw
            case rel => exact ⟨q + 1, [(q : Int)], vo, 0, vc, by omega, rfl, rfl, by go_num, rfl, HNX, ⟨HCH2.out.gb, HCH2.out.rs, HCH2.out.ow⟩⟩
            case measure => simp [intOf]; omega
          · have b1 : (hdI L == -1) = false := by
              cases e : (hdI L == -1) with
              | false => rfl
              | true => exact absurd ((hdI_neg HGE.out).1 e) hL
            have HE : Hid (hdI (L ++ [(q : Int)]) = hdI L ∧ (L ++ [(q : Int)]).tail = L.tail ++ [(q : Int)]) := ⟨hdI_app hL _, tl_app hL _⟩
            generalize hdI L = hd at b1 HE
            clear hL
            go_upto_region 7 with (fail)
            rw [HWB.out]
            refine wp_region_kept mixed (by kernel_rfl) (Sb.drew wb) ?_
            repeat (go_big_quiet_step (first | (go_at_call 100; with_reducible exact HC.out _)))
            refine wpQuiet_nil ?_
            intro W2 hw2
            obtain ⟨p2, rfl⟩ := hw2
            have HCH2 : Hid (CH w T n (.slice (some ⟨b2, o, none⟩) ps.length c) ps bs S (.slice vo ln vc) L p2.W) := HCH.out.next p2.h
            generalize p2.W = w2 at HCH2 ⊢
            clear y0 y1 k0 k1 k2 k3 HC hne HCH p2
            obtain ⟨M, HM⟩ : ∃ M, Hid (L.tail = M) := ⟨_, (rfl : _ = _)⟩
            have HO : Hid (w2.ownsRow (w.heap.size + 1) 3 1 (.slice vo ln vc) M.length (M.map (Value.int .i64))) := by rw [← HM.out]; exact HCH2.out.ow
            have HSW : Hid (w.heap.size + 1 ≤ w2.heap.size) := by have := HCH2.out.gb.lt; exact this
            have hsw := HSW.out
            have hll : M.length ≤ 40 := by have := HLE.out; rw [← HM.out, List.length_tail]; omega
            go_wp2_with (at_builtin; refine wpList_append_own _ rfl _ _ 25 rfl (w.heap.size + 1) 3 i0 (.int .i64 0) 1 8 Try.underlying25 hi hz0 hz1 hz2 rfl (by decide) _ _ _ rfl (HO.out.alloc _) ⟨w2.heap.size, 0, none⟩ 1 1 [.int .i64 (q : Int)] rfl rfl (World.news_of_block (t := 3) (fr := (0, 0)) (heap_alloc_new w2 _)) (by simp [Value.oneCell']) (by unfold maxLen; omega) (by omega) (by simp; omega) ?_)
            intro v' w4 hown' hgrow _
            have HCH4 : Hid (CH w T n (.slice (some ⟨b2, o, none⟩) ps.length c) ps bs S v' (L ++ [(q : Int)]) w4) := by
              have hfm : ∀ k, k < w2.heap.size → (Value.slice vo ln vc).ownBlock ≠ some k → w4.heap[k]? = w2.heap[k]? := fun k hk hn => (hgrow.block k (by simp; omega) (fun e => hn e.symm)).trans ((below_alloc w2 _).block k hk)
              have hlo := HO.out.lt
              have hbw : Below w.heap.size w w4 := Below.grown (HCH2.out.gb.below.trans ((below_alloc w2 _).mono HCH2.out.gb.below.size)) hgrow (by simp; omega) (fun k hk => by have := (hlo k hk).1; omega)
              have hgc : ∀ j, w4.cell? ⟨w.heap.size, j, none⟩ = w2.cell? ⟨w.heap.size, j, none⟩ := fun j => World.cell?_of_block (hfm w.heap.size (by omega) (fun e => by have := (hlo _ e).1; omega))
              refine ⟨⟨hbw, by have := hgrow.size; simp at this; omega, Nat.le_refl _, (hgc 0).trans HCH2.out.gb.c0, (hgc 1).trans HCH2.out.gb.c1, (hgc 2).trans HCH2.out.gb.c2, HP.out.below hbw⟩, HCH2.out.rs.of (hfm bs (by have := HBS.out; omega) (fun e => by have := (hlo _ e).1; have := HBS.out; omega)), ?_⟩
              rw [HE.out.2, HM.out, List.length_append, List.map_append]
              exact hown'
            obtain ⟨v'a, v'n, v'c, rfl⟩ := own_form hown'
            have HN4 : Hid (v'n = (L ++ [(q : Int)]).tail.length) := by
              rcases HCH4.out.ow.2 with ⟨he, h0⟩ | ⟨g, cap, cur, he, -⟩
              · cases he; exact h0.symm
              · cases he; rfl
            clear hown' hgrow HCH2 HO HSW hsw
            go_wp2_with fail
            go_roundw
            case rel => exact ⟨q + 1, L ++ [(q : Int)], v'a, v'n, v'c, by omega, by rw [HE.out.1], rfl, by go_num, HN4, HNX, HCH4⟩
            case measure => simp [intOf]; omega
      · have b0 : (h != (non : Int)) = true := by simp [hh]
        have HNX : Hid (mayQ ps S T non col (q + 1) = L) := by
          show _ = _
          rw [mayQ_false (by rw [HMB.out, decide_eq_false hh, Bool.false_and]), HL.out]
        clear hh HMB HL hbit
        go_upto_region 7 with (fail)
        rw [HWB.out]
        refine wp_region_kept mixed (by kernel_rfl) (Sb.drew wb) ?_
        repeat (go_big_quiet_step (first | (go_at_call 100; with_reducible exact HC.out _)))
        refine wpQuiet_nil ?_
        intro W2 hw2
        obtain ⟨p2, rfl⟩ := hw2
        have HCH2 : Hid (CH w T n (.slice (some ⟨b2, o, none⟩) ps.length c) ps bs S (.slice vo ln vc) L p2.W) := HCH.out.next p2.h
        generalize p2.W = w2 at HCH2 ⊢
        clear y0 y1 k0 k1 k2 k3 HC hne HCH p2
        go_wp2_with fail
        go_roundw
        case rel => exact ⟨q + 1, L, vo, ln, vc, by omega, rfl, rfl, by go_num, HLN, HNX, HCH2⟩
        case measure => simp [intOf]; omega
    · have HQL : Hid (mayL ps S T non col = L) := by show _ = _; rw [← HL.out, show q = ps.length by omega]; rfl
      clear hcs HL
      go_wp2_with fail
      go_ret2
      rw [HQL.out]
      exact ⟨vo, ln, vc, by simp, HLN.out, Go.Joins.ownsRow_le HCHr.out.ow (by omega), HCHr.out.gb.below⟩
end Go.Proofs.Ytpfehghicaaghaa

namespace Go.Proofs.Ytpfehghicaaghaa
open Go.RowKit
open Cg

theorem row_own_ne {W : World} {a n base size m : Nat} {t e : TypeId} {f : Nat → Value} {v : Value} {xs : List Value} (h : W.rowIs a t n f) (k : W.ownsRow base e size v m xs) (hte : t ≠ e) : v.ownBlock ≠ some a := fun he => by
  obtain ⟨c, fz, h2⟩ := Go.Lib.ownsRow_kind k a he
  obtain ⟨c', h1, _⟩ := h
  rw [h1] at h2
  cases h2
  exact hte rfl
structure LM (w : World) (T n : Nat) (pv : Value) (ps : List Pd) (bs : Nat) (S : Nat → Wd) (br k : Nat) (rb : Nat → Nat) (A : Nat → Nat → Int) (cv : Value) (C : List Cl) (W : World) : Prop where
  gb : Gb w w.heap.size (T : Int) (n : Int) pv ps W
  rs : Rw W bs ps.length S
  rr : W.rowIs br 25 n (fun i => if i < k then .slice (some ⟨rb i, 0, none⟩) (T + 1) (T + 1) else .slice none 0 0)
  ri : ∀ i, i < k → W.rowIs (rb i) 3 (T + 1) (fun j => .int .i64 (A i j))
  gi : ∀ i, i < k → w.heap.size < rb i
  ne : ∀ i j, i < k → j < i → rb j ≠ rb i
  ge : w.heap.size < br ∧ w.heap.size < bs
  cl : W.ownsRow (w.heap.size + 1) 146 4 cv C.length (ccs C)
  p0 : Pds w pv ps
section
variable {w : World} {T n : Nat} {pv : Value} {ps : List Pd} {bs : Nat} {S : Nat → Wd} {br k : Nat} {rb : Nat → Nat} {A : Nat → Nat → Int} {cv : Value} {C : List Cl} {W W' : World}
theorem LM.next (h : LM w T n pv ps bs S br k rb A cv C W) (hb : Below W.heap.size W W') : LM w T n pv ps bs S br k rb A cv C W' :=
  ⟨h.gb.next hb, h.rs.next hb, h.rr.of_block (hb.block _ h.rr.lt), fun i hi => (h.ri i hi).of_block (hb.block _ (h.ri i hi).lt), h.gi, h.ne, h.ge, own_below h.cl hb, h.p0⟩
theorem LM.congr {A' : Nat → Nat → Int} (h : LM w T n pv ps bs S br k rb A cv C W) (he : ∀ i j, i < k → j < T + 1 → A i j = A' i j) : LM w T n pv ps bs S br k rb A' cv C W :=
  ⟨h.gb, h.rs, h.rr, fun i hi => (h.ri i hi).congr fun j hj => by rw [he i j hi hj], h.gi, h.ne, h.ge, h.cl, h.p0⟩
theorem LM.grow {cv' : Value} {C' : List Cl} (h : LM w T n pv ps bs S br k rb A cv C W) (hg : W.grownBy W' cv.ownBlock) (ho : W'.ownsRow (w.heap.size + 1) 146 4 cv' C'.length (ccs C')) : LM w T n pv ps bs S br k rb A cv' C' W' := by
  have hlo := h.cl.lt
  have hbw : Below w.heap.size w W' := Below.grown h.gb.below hg h.gb.below.size (fun q hq => by have := (hlo q hq).1; omega)
  have hgc : ∀ j, W'.cell? ⟨w.heap.size, j, none⟩ = W.cell? ⟨w.heap.size, j, none⟩ := fun j => World.cell?_of_block (hg.block w.heap.size h.gb.lt (fun e => by have := (hlo _ e.symm).1; omega))
  exact ⟨⟨hbw, Nat.lt_of_lt_of_le h.gb.lt hg.size, Nat.le_refl _, (hgc 0).trans h.gb.c0, (hgc 1).trans h.gb.c1, (hgc 2).trans h.gb.c2, h.p0.below hbw⟩,
    h.rs.of (hg.block _ h.rs.lt (fun e => row_own_ne h.rs h.cl (by decide) e.symm)), h.rr.of_block (hg.block _ h.rr.lt (fun e => row_own_ne h.rr h.cl (by decide) e.symm)),
    fun i hi => (h.ri i hi).of_block (hg.block _ (h.ri i hi).lt (fun e => row_own_ne (h.ri i hi) h.cl (by decide) e.symm)), h.gi, h.ne, h.ge, ho, h.p0⟩
theorem own_fm {X : Nat → Prop} {base e size m : Nat} {v : Value} {xs : List Value} (h : W.ownsRow base e size v m xs) (hf : Fm X W W') (hx : ∀ q, v.ownBlock = some q → ¬ X q) : W'.ownsRow base e size v m xs := by
  obtain ⟨h1, h2 | ⟨g, cap, cur, hv, hg, hh, h3⟩⟩ := h
  · exact ⟨h1, Or.inl h2⟩
  · subst hv
    refine ⟨h1, Or.inr ⟨g, cap, cur, rfl, hg, ?_, h3⟩⟩
    have hlt : g < W.heap.size := by
      rcases Nat.lt_or_ge g W.heap.size with h' | h'
      · exact h'
      · rw [Array.getElem?_eq_none h'] at hh; cases hh
    rw [hf.block g hlt (hx g rfl)]; exact hh
/-- A new row is laid. -/
theorem LM.row (h : LM w T n pv ps bs S br k rb A cv C W) (hk : k < n) : LM w T n pv ps bs S br (k + 1) (upd rb k W.heap.size) (upd A k (fun _ => 0)) cv C ((W.alloc (Obj.cells (madeCells #[Value.int .i64 0] (T + 1)) 3)).setCell ⟨br, k, none⟩ (.slice (some ⟨W.heap.size, 0, none⟩) (T + 1) (T + 1))) := by
  have hb := below_alloc W (Obj.cells (madeCells #[Value.int .i64 0] (T + 1)) 3)
  have h1 := h.next hb
  have hnew := World.rowIs_made W (.int .i64 0) (T + 1) 3
  generalize W.alloc (Obj.cells (madeCells #[Value.int .i64 0] (T + 1)) 3) = W1 at hb h1 hnew ⊢
  have hf : Fm (fun q => q = br) W1 (W1.setCell ⟨br, k, none⟩ (.slice (some ⟨W.heap.size, 0, none⟩) (T + 1) (T + 1))) := Fm.set (X := fun q => q = br) (b := br) (i := k) _ rfl
  have hs := h.gb.below.size
  refine ⟨h1.gb.other h.p0 hf (by have := h.ge; omega) (by have := h.ge; omega), h1.rs.of (hf.block _ h1.rs.lt (row_ne h1.rs h1.rr (by decide))), ?_, fun i hi => ?_, fun i hi => ?_, fun i j hi hj => ?_, h.ge, own_fm h1.cl hf (fun q hq e => by subst e; exact row_own_ne h1.rr h1.cl (by decide) hq), h.p0⟩
  · refine (h1.rr.set k _).congr fun i hi => ?_
    by_cases e : i = k
    · subst e; rw [if_pos rfl, if_pos (by omega)]; simp only [upd, if_true]
    · rw [if_neg e]
      by_cases e2 : i < k
      · rw [if_pos e2, if_pos (by omega)]; simp only [upd, if_neg e]
      · rw [if_neg e2, if_neg (by omega)]
  · by_cases e : i = k
    · subst e
      rw [upd_at, upd_at]
      exact hnew.of_block (hf.block _ hnew.lt (row_ne hnew h1.rr (by decide)))
    · rw [upd_ne _ _ e, upd_ne _ _ e]
      have := h1.ri i (by omega)
      exact this.of_block (hf.block _ this.lt (row_ne this h1.rr (by decide)))
  · by_cases e : i = k
    · subst e; rw [upd_at]; have := h.gb.lt; omega
    · rw [upd_ne _ _ e]; exact h.gi i (by omega)
  · by_cases e : i = k
    · subst e
      rw [upd_at, upd_ne _ _ (by omega)]
      have := (h.ri j hj).lt; omega
    · rw [upd_ne _ _ e, upd_ne _ _ (by omega)]; exact h.ne i j (by omega) hj
/-- A number is put into the last row. -/
theorem LM.put (h : LM w T n pv ps bs S br (k + 1) rb A cv C W) (j : Nat) (z : Int) : LM w T n pv ps bs S br (k + 1) rb (upd A k (upd (A k) j z)) cv C (W.setCell ⟨rb k, j, none⟩ (.int .i64 z)) := by
  have hrk := h.ri k (by omega)
  have hgk := h.gi k (by omega)
  have hf : Fm (fun q => q = rb k) W (W.setCell ⟨rb k, j, none⟩ (.int .i64 z)) := Fm.set (X := fun q => q = rb k) (b := rb k) (i := j) _ rfl
  refine ⟨h.gb.other h.p0 hf (by omega) (by omega), h.rs.of (hf.block _ h.rs.lt (row_ne h.rs hrk (by decide))), h.rr.of_block (hf.block _ h.rr.lt (row_ne h.rr hrk (by decide))), fun i hi => ?_, h.gi, h.ne, h.ge, own_fm h.cl hf (fun q hq e => by subst e; exact row_own_ne hrk h.cl (by decide) hq), h.p0⟩
  by_cases e : i = k
  · subst e
    refine (hrk.set j _).congr fun q _ => ?_
    rw [upd_at]; unfold upd; split <;> rfl
  · rw [upd_ne _ _ e]
    exact (h.ri i hi).of_block (hf.block _ (h.ri i hi).lt (h.ne k i (by omega) (by omega)))
end
/-- Rows that are all there so far: k whole ones, and col numbers of the next. -/
def Ap (R : Nat → Nat → Int) (k col i j : Nat) : Int := if i < k ∨ (i = k ∧ j < col) then R i j else 0
theorem Ap_row (R : Nat → Nat → Int) (k T i j : Nat) (hi : i < k + 1) (hj : j < T + 1) : Ap R k (T + 1) i j = Ap R (k + 1) 0 i j := by
  unfold Ap
  rw [if_pos (by omega), if_pos (by omega)]
theorem Ap_new (R : Nat → Nat → Int) (k i j : Nat) : upd (Ap R k 0) k (fun _ => 0) i j = Ap R k 0 i j := by
  unfold upd
  by_cases e : i = k
  · rw [if_pos e]; unfold Ap; rw [if_neg (by omega)]
  · rw [if_neg e]
theorem Ap_put (R : Nat → Nat → Int) (k col i j : Nat) (hi : i < k + 1) : upd (Ap R k col) k (upd (Ap R k col k) col (R k col)) i j = Ap R k (col + 1) i j := by
  unfold upd
  by_cases e : i = k
  · subst e
    rw [if_pos rfl]
    by_cases e2 : j = col
    · subst e2; rw [if_pos rfl]; unfold Ap; rw [if_pos (by omega)]
    · rw [if_neg e2]; unfold Ap
      by_cases e3 : j < col
      · rw [if_pos (by omega), if_pos (by omega)]
      · rw [if_neg (by omega), if_neg (by omega)]
  · rw [if_neg e]; unfold Ap; rw [if_pos (by omega), if_pos (by omega)]
theorem rws_of {w : World} {T n : Nat} {pv : Value} {ps : List Pd} {bs : Nat} {S : Nat → Wd} {br : Nat} {rb : Nat → Nat} {cv : Value} {C : List Cl} {W : World} (h : LM w T n pv ps bs S br n rb (Ap (rowA ps S T) n 0) cv C W) (hn : n ≤ 20) (hT : T ≤ 30) : Rws W (.slice (some ⟨br, 0, none⟩) n n) (rowsL ps S T n) := by
  refine ⟨some ⟨br, 0, none⟩, n, by rw [rowsL_length], by rw [rowsL_length]; omega, Or.inr ⟨br, 0, rfl, h.rr.lt, fun i hi => ?_⟩⟩
  rw [rowsL_length] at hi
  have h1 := h.rr.cell hi
  rw [if_pos hi] at h1
  refine ⟨_, by rw [Nat.zero_add]; exact h1, some ⟨rb i, 0, none⟩, T + 1, ?_, ?_, Or.inr ⟨rb i, 0, rfl, (h.ri i hi).lt, fun j hj => ?_⟩⟩
  · simp [rowsL, rowL]
  · simp [rowsL, rowL]; omega
  · have hj2 : j < T + 1 := by simpa [rowsL, rowL] using hj
    rw [Nat.zero_add, (h.ri i hi).cell hj2]
    simp [rowsL, rowL, Ap, hi]
end Go.Proofs.Ytpfehghicaaghaa

namespace Go.Proofs.Ytpfehghicaaghaa
open Go.RowKit
open Cg

theorem info_parts39 : ∃ i, Try.prog.info? 146 = some i ∧ i.zero = some (.agg #[.int .i64 0, .int .i64 0, .int .i64 0, .int .i64 0]) ∧ i.size = 4 ∧ i.bytes = 32 := by
  have h := info146
  cases e : Try.prog.info? 146 with
  | none => rw [e] at h; cases h
  | some i => rw [e] at h; simp at h; exact ⟨i, rfl, h.1, h.2.1, h.2.2⟩
/-- What Make leaves. -/
def LO (w : World) (T n : Nat) (ps : List Pd) (av cv : Value) (w' : World) : Prop := Below w.heap.size w w' ∧ ∃ S, TK ps S ∧ Rws w' av (rowsL ps S T n) ∧ Cls w' cv (clsN ps S T n)
/-- The clashes so far. -/
def clsF (ps : List Pd) (S : Nat → Wd) (T k col j : Nat) : List Cl := (clsN ps S T k ++ clsR ps S T k col) ++ (clsC ps S T k col).take j
theorem clsF_zero (ps : List Pd) (S : Nat → Wd) (T k col : Nat) : clsF ps S T k col 0 = clsN ps S T k ++ clsR ps S T k col := by simp [clsF]
theorem clsF_next (ps : List Pd) (S : Nat → Wd) (T k col j : Nat) (hj : j < (mayL ps S T k col).tail.length) : clsF ps S T k col (j + 1) = clsF ps S T k col j ++ [((k : Int), (col : Int), rowA ps S T k col, (mayL ps S T k col).tail[j])] := by
  have h2 : j < (clsC ps S T k col).length := by unfold clsC; rw [List.length_map]; exact hj
  unfold clsF
  rw [List.take_succ_eq_append_getElem h2, ← List.append_assoc]
  congr 2
  simp [clsC, rowA]
theorem clsF_end (ps : List Pd) (S : Nat → Wd) (T k col j : Nat) (hj : (mayL ps S T k col).tail.length ≤ j) : clsF ps S T k col j = clsN ps S T k ++ clsR ps S T k (col + 1) := by
  have h2 : (clsC ps S T k col).length ≤ j := by unfold clsC; rw [List.length_map]; exact hj
  unfold clsF
  rw [List.take_of_length_le h2, List.append_assoc]; rfl
theorem clsF_few {ps : List Pd} {S : Nat → Wd} {T k col : Nat} (hp : ps.length ≤ 40) (hT : T ≤ 30) (hn : k ≤ 20) (hc : col ≤ T) (j : Nat) : (clsF ps S T k col j).length ≤ 40000 := by
  unfold clsF
  rw [List.length_append, List.length_take]
  have h1 := cls_few (S := S) (T := T) (non := k) hp hT hn col (by omega)
  have h2 := clsC_le ps S T k col
  omega
set_option maxHeartbeats 3200000 in
set_option maxRecDepth 20000 in
theorem Make_bad (t n : Int) (pv : Value) (ps : List Pd) (w : World) (hp : Pds w pv ps) (hk : chk t n ps ≠ 0) :
    Calls Try.prog 59 #[.agg #[.int .i64 t, .int .i64 n, pv]] w fun e w' => e = .returned (.tuple #[.slice none 0 0, .slice none 0 0, .int .i64 (chk t n ps)]) ∧ Below w.heap.size w w' := by
  have HGB := Gb.box hp t n
  obtain ⟨ao, c, rfl, hm, -⟩ := hp
  have HG0 : Hid (Gb w w.heap.size t n (.slice ao ps.length c) ps (w.alloc (Obj.cells #[.int .i64 t, .int .i64 n, .slice ao ps.length c] 24))) := HGB
  clear HGB
  have hcall := takenAt_bad t n _ ps _ HG0.out.pds hk
  obtain ⟨r, HR⟩ : ∃ r, Hid (chk t n ps = r) := ⟨_, (rfl : chk t n ps = chk t n ps)⟩
  rw [HR.out] at hcall hk ⊢
  have b0 : (r != 0) = true := by simpa using hk
  clear hk
  go_enter Try.func59, Try.ntmps59
  go_wp2_with fail
  refine hcall.mono ?_
  rintro _ w1 ⟨rfl, hb1⟩
  have HB1 : Hid (Below w.heap.size w w1) := HG0.out.below.trans (hb1.mono HG0.out.below.size)
  clear hb1 hcall HG0
  go_wp2_with fail
  go_ret3
  exact ⟨by simp, HB1.out⟩
set_option maxHeartbeats 6400000 in
set_option maxRecDepth 20000 in
theorem Make_ok (T n : Nat) (pv : Value) (ps : List Pd) (w : World) (hp : Pds w pv ps) (hk : chk (T : Int) (n : Int) ps = 0) :
    Calls Try.prog 59 #[.agg #[.int .i64 (T : Int), .int .i64 (n : Int), pv]] w fun e w' => ∃ ra rn rc vo vn vc, e = .returned (.tuple #[.slice ra rn rc, .slice vo vn vc, .int .i64 0]) ∧ LO w T n ps (.slice ra rn rc) (.slice vo vn vc) w' := by
  obtain ⟨i0, hi, hz0, hz1, hz2⟩ := info_parts39
  have HP : Hid (Pds w pv ps) := hp
  have HGB := Gb.box hp (T : Int) (n : Int)
  obtain ⟨ao, c, rfl, hm, -⟩ := hp
  have HG0 : Hid (Gb w w.heap.size (T : Int) (n : Int) (.slice ao ps.length c) ps (w.alloc (Obj.cells #[.int .i64 (T : Int), .int .i64 (n : Int), (.slice ao ps.length c)] 24))) := HGB
  have HRG : Hid (Rg (T : Int) n ps) := rg_of hk
  have HT : Hid (T ≤ 30 ∧ n ≤ 20 ∧ ps.length ≤ 40) := ⟨by have := HRG.out.t2; omega, HRG.out.n2, HRG.out.ln⟩
  have hcall := takenAt_ok (T : Int) n _ ps _ HG0.out.pds hk
  have hmk := run_make_row' (P := Try.prog) 40 25 (.slice none 0 0) 24 Try.underlying40 info25 rfl .i64 .i64 n (by have := HT.out; omega) (by have := HT.out; omega)
  clear HGB hk
  go_enter Try.func59, Try.ntmps59
  go_wp2_with fail
  refine hcall.mono ?_
  rintro _ w1 ⟨bs, S, rfl, hb1, hbs, hrs, htk⟩
  have HTK : Hid (TK ps S) := htk
  have hg1 := HG0.out.next hb1
  have hbm := below_alloc w1 (Obj.cells (madeCells #[Value.slice none 0 0] n) 25)
  have hmr := World.rowIs_made w1 (.slice none 0 0) n 25
  have HLM0 : Hid (LM w T n (.slice ao ps.length c) ps bs S w1.heap.size 0 (fun _ => 0) (Ap (rowA ps S T) 0 0) (.slice none 0 0) [] (w1.alloc (Obj.cells (madeCells #[Value.slice none 0 0] n) 25))) :=
    ⟨hg1.next hbm, hrs.next hbm, hmr.congr fun i _ => by rw [if_neg (by omega)], fun i hi => by omega, fun i hi => by omega, fun i j hi => by omega, ⟨hg1.lt, by simp at hbs; omega⟩, World.ownsRow_nil _ _ _ _, HP.out⟩
  have k1 := hg1.c1
  clear hb1 hcall HG0 hg1 hbm hmr hrs hbs htk
  go_upto_region 6 with (fail)
  obtain ⟨br, HBR⟩ : ∃ br, Hid (w1.heap.size = br) := ⟨_, (rfl : w1.heap.size = w1.heap.size)⟩
  obtain ⟨w3, HW3⟩ : ∃ w3, Hid (w1.alloc (Obj.cells (madeCells #[Value.slice none 0 0] n) 25) = w3) := ⟨_, (rfl : _ = _)⟩
  rw [HBR.out, HW3.out] at HLM0
  rw [HBR.out, HW3.out]
  clear HBR HW3 hmk k1
  go_wp2_with fail
  go_loopw [8, 28] (fun cs i wr => ∃ (k : Nat) (vo : Option Addr) (vn vc : Nat), k ≤ n ∧ cs = .slice vo vn vc ∧ i = .int .i64 (k : Int) ∧ Hid (∃ rb, LM w T n (.slice ao ps.length c) ps bs S br k rb (Ap (rowA ps S T) k 0) (.slice vo vn vc) (clsN ps S T k) wr)) (fun _ i _ => n - (intOf i).toNat)
  case atStart => exact ⟨0, none, 0, 0, by omega, rfl, rfl, _, HLM0.out⟩
  case round =>
    obtain ⟨k, vo, vn, vc, hk, rfl, rfl, HLK⟩ := hrel
    clear HLM0
    by_cases hlt : k < n
    · obtain ⟨rb0, hlm⟩ := HLK.out
      have HLN : Hid (LM w T n (.slice ao ps.length c) ps bs S br (k + 1) (upd rb0 k wr.heap.size) (Ap (rowA ps S T) k 0) (.slice vo vn vc) (clsN ps S T k) ((wr.alloc (Obj.cells (madeCells #[Value.int .i64 0] (T + 1)) 3)).setCell ⟨br, k, none⟩ (.slice (some ⟨wr.heap.size, 0, none⟩) (T + 1) (T + 1)))) := (hlm.row hlt).congr fun i j _ _ => Ap_new _ _ _ _
      have HRB : Hid (upd rb0 k wr.heap.size k = wr.heap.size) := upd_at _ _ _
      have hmk2 := run_make_row' (P := Try.prog) 25 3 (.int .i64 0) 8 Try.underlying25 info3 rfl .i64 .i64 (T + 1) (by have := HT.out; omega) (by have := HT.out; omega)
      have ea : (((T + 1 : Nat)) : Int) = (T : Int) + 1 := by omega
      rw [ea] at hmk2
      have k0 := hlm.gb.c0
      have hbm := below_alloc wr (Obj.cells (madeCells #[Value.int .i64 0] (T + 1)) 3)
      have kr := ((hlm.next hbm).rr.cell hlt)
      have kf := World.rowIs.frozen (hlm.next hbm).rr k
      have hk0 : (0 : Int) ≤ (k : Int) := by omega
      have hk1 : (k : Int) < (n : Int) := by omega
      have hT30 : (T : Int) ≤ 30 := by have := HT.out; omega
      clear hlm HLK hbm
      go_upto_region 10 with (fail)
      clear kr kf k0 hmk2
      obtain ⟨w4, HW4⟩ : ∃ w4, Hid (((wr.alloc (Obj.cells (madeCells #[Value.int .i64 0] (T + 1)) 3)).setCell ⟨br, k, none⟩ (.slice (some ⟨wr.heap.size, 0, none⟩) (T + 1) (T + 1))) = w4) := ⟨_, (rfl : _ = _)⟩
      obtain ⟨rk, HRK⟩ : ∃ rk, Hid (wr.heap.size = rk) := ⟨_, (rfl : wr.heap.size = wr.heap.size)⟩
      obtain ⟨rb, HRBE⟩ : ∃ rb, Hid (upd rb0 k wr.heap.size = rb) := ⟨_, (rfl : _ = _)⟩
      rw [HW4.out, HRBE.out] at HLN
      rw [HRBE.out, HRK.out] at HRB
      rw [HW4.out, HRK.out]
      clear HW4 HRK HRBE
      have kr := HLN.out.rr.cell hlt
      rw [if_pos (by omega), HRB.out] at kr
      have HLT : Hid (k < n) := hlt
      clear hlt
      go_wp2_with fail
      clear kr
      go_loopw [8, 43] (fun cs i wr => ∃ (col : Nat) (vo : Option Addr) (vn vc : Nat), col ≤ T + 1 ∧ cs = .slice vo vn vc ∧ i = .int .i64 (col : Int) ∧ Hid (LM w T n (.slice ao ps.length c) ps bs S br (k + 1) rb (Ap (rowA ps S T) k col) (.slice vo vn vc) (clsN ps S T k ++ clsR ps S T k col) wr)) (fun _ i _ => T + 1 - (intOf i).toNat)
      case atStart => exact ⟨0, vo, vn, vc, by omega, rfl, rfl, by show LM _ _ _ _ _ _ _ _ _ _ _ _ _ _; rw [show clsN ps S T k ++ clsR ps S T k 0 = clsN ps S T k by simp [clsR]]; exact HLN.out⟩
      case round =>
        clear HLN
        obtain ⟨col, vo, vn, vc, hcol, rfl, rfl, HLM⟩ := hrel
        by_cases hcl : col < T + 1
        · have kc0 := HLM.out.gb.c0
          have kc1 := HLM.out.gb.c1
          have kc2 := HLM.out.gb.c2
          have hcc := choose_any T (n : Int) HT.out.1 (.slice ao ps.length c) ps HT.out.2.2 bs S k col (by omega) wr HLM.out.gb.pds HLM.out.rs
          obtain ⟨F, HF⟩ : ∃ F, Hid (mayL ps S T k col = F) := ⟨_, (rfl : _ = _)⟩
          obtain ⟨ls, HLS⟩ : ∃ ls, Hid (rowA ps S T k col = ls) := ⟨_, (rfl : _ = _)⟩
          rw [show hdI (mayL ps S T k col) = ls from HLS.out, HF.out] at hcc
          have HCL : Hid (col < T + 1) := hcl
          have hc1 : (col : Int) < (T : Int) + 1 := by omega
          clear hcl
          go_wp2_with fail
          refine hcc.mono ?_
          rintro _ w5 ⟨fo, fl, fc, rfl, hfl, hfo, hb5⟩
          have HL5 : Hid (LM w T n (.slice ao ps.length c) ps bs S br (k + 1) rb (Ap (rowA ps S T) k col) (.slice vo vn vc) (clsN ps S T k ++ clsR ps S T k col) w5) := HLM.out.next hb5
          have HL6 : Hid (LM w T n (.slice ao ps.length c) ps bs S br (k + 1) rb (Ap (rowA ps S T) k (col + 1)) (.slice vo vn vc) (clsN ps S T k ++ clsR ps S T k col) (w5.setCell ⟨rk, col, none⟩ (.int .i64 ls))) := by
            have := (HL5.out.put col ls).congr (A' := Ap (rowA ps S T) k (col + 1)) fun i j hi _ => by rw [← HLS.out]; exact Ap_put _ _ _ _ _ hi
            rw [HRB.out] at this; exact this
          have HFO : Hid ((w5.setCell ⟨rk, col, none⟩ (.int .i64 ls)).ownsRow wr.heap.size 3 1 (.slice fo fl fc) F.tail.length (F.tail.map (Value.int .i64))) := own_fm hfo (Fm.set (X := fun q => q = rk) (b := rk) (i := col) _ rfl) (fun q hq e => by
            have h1 := (hfo.lt q hq).1
            have h2 := (HLM.out.ri k (by omega)).lt
            rw [HRB.out] at h2; omega)
          have kr := HL5.out.rr.cell HLT.out
          rw [if_pos (by omega), HRB.out] at kr
          have kz := (HL5.out.ri k (by omega)).cell HCL.out
          have kf := World.rowIs.frozen (HL5.out.ri k (by omega)) col
          rw [HRB.out] at kz kf
          have HFL : Hid (fl = F.tail.length) := hfl
          clear hcc hfl hfo hb5 HL5 HLM kc0 kc1 kc2
          go_upto_region 15 with (fail)
          obtain ⟨w6, HW6⟩ : ∃ w6, Hid (w5.setCell ⟨rk, col, none⟩ (.int .i64 ls) = w6) := ⟨_, (rfl : _ = _)⟩
          rw [HW6.out] at HL6 HFO
          rw [HW6.out]
          clear HW6 kr kz kf
          obtain ⟨BB, HBB⟩ : ∃ BB, Hid (wr.heap.size = BB) := ⟨_, (rfl : wr.heap.size = wr.heap.size)⟩
          rw [HBB.out] at HFO
          clear HBB
          go_wp2_with fail
          go_loopw [8, 63] (fun cs i wr => ∃ (j : Nat) (vo : Option Addr) (vn vc : Nat), j ≤ fl ∧ cs = .slice vo vn vc ∧ i = .int .i64 (j : Int) ∧ Hid (LM w T n (.slice ao ps.length c) ps bs S br (k + 1) rb (Ap (rowA ps S T) k (col + 1)) (.slice vo vn vc) (clsF ps S T k col j) wr ∧ wr.ownsRow BB 3 1 (.slice fo fl fc) F.tail.length (F.tail.map (Value.int .i64)))) (fun _ i _ => fl - (intOf i).toNat)
          case atStart => exact ⟨0, vo, vn, vc, by omega, rfl, rfl, by rw [clsF_zero]; exact HL6.out, HFO.out⟩
          case round =>
            clear HL6 HFO
            obtain ⟨j, vo, vn, vc, hj, rfl, rfl, HL⟩ := hrel
            by_cases hjl : j < fl
            · obtain ⟨fb, rfl⟩ : ∃ fb, fo = some ⟨fb, 0, none⟩ := by
                obtain ⟨fb, fcap, hfe⟩ := Go.Joins.ownsRow_form HL.out.2 (by have := HFL.out; omega)
                cases hfe; exact ⟨fb, rfl⟩
              have hj2 : j < F.tail.length := by have := HFL.out; omega
              have hca := HL.out.2.cells (g := fb) rfl j (.int .i64 F.tail[j]) (by rw [List.getElem?_map, List.getElem?_eq_getElem hj2]; rfl)
              rw [Addr.add_lit, Nat.zero_add] at hca
              have HNX : Hid (clsF ps S T k col (j + 1) = clsF ps S T k col j ++ [((k : Int), (col : Int), ls, F.tail[j])]) := by
                show _ = _
                rw [clsF_next ps S T k col j (by rw [HF.out]; exact hj2), HLS.out]; simp only [HF.out]
              generalize F.tail[j] = z at hca HNX
              have HFEW : Hid ((clsF ps S T k col j).length ≤ 40000) := clsF_few HT.out.2.2 HT.out.1 (by have := HT.out; have := HLT.out; omega) (by have := HCL.out; omega) j
              have hfew := HFEW.out
              have hj0 : (0 : Int) ≤ (j : Int) := by omega
              have hfl40 : fl ≤ 40 := by have h1 := mayL_le ps S T k col; rw [HF.out] at h1; have h2 := HFL.out; have h3 := HT.out.2.2; rw [List.length_tail] at h2; omega
              have hj1 : (j : Int) < (fl : Int) := by omega
              obtain ⟨CC, HCC⟩ : ∃ CC, Hid (clsF ps S T k col j = CC) := ⟨_, (rfl : _ = _)⟩
              rw [HCC.out] at HL HNX hfew
              have HSW : Hid (w.heap.size + 1 ≤ wr.heap.size) := HL.out.1.gb.lt
              have hsw := HSW.out
              have HO3 : Hid ((wr.alloc (Obj.cells #[.int .i64 (k : Int), .int .i64 (col : Int), .int .i64 ls, .int .i64 z] 146)).ownsRow (w.heap.size + 1) 146 4 (.slice vo vn vc) CC.length (ccs CC)) := HL.out.1.cl.alloc _
              go_wp2_with (at_builtin; refine wpList_append_own _ rfl _ _ 110 rfl (w.heap.size + 1) 146 i0 (.agg #[.int .i64 0, .int .i64 0, .int .i64 0, .int .i64 0]) 4 32 Try.underlying110 hi hz0 hz1 hz2 rfl (by decide) _ _ _ rfl HO3.out ⟨wr.heap.size, 0, none⟩ 1 1 [.int .i64 (k : Int), .int .i64 (col : Int), .int .i64 ls, .int .i64 z] rfl rfl (World.news_of_block (t := 146) (fr := (0, 0)) (heap_alloc_new wr _)) (by simp [Value.oneCell']) (by unfold maxLen; omega) (by omega) (by simp; omega) ?_)
              intro v' w7 hown' hgrow _
              have hown2 : w7.ownsRow (w.heap.size + 1) 146 4 v' (clsF ps S T k col (j + 1)).length (ccs (clsF ps S T k col (j + 1))) := by
                rw [HNX.out, ccs_app, List.length_append]; exact hown'
              have HL7 : Hid (LM w T n (.slice ao ps.length c) ps bs S br (k + 1) rb (Ap (rowA ps S T) k (col + 1)) v' (clsF ps S T k col (j + 1)) w7 ∧ w7.ownsRow BB 3 1 (.slice (some ⟨fb, 0, none⟩) fl fc) F.tail.length (F.tail.map (Value.int .i64))) := by
                refine ⟨(HL.out.1.next (below_alloc wr _)).grow hgrow hown2, (HL.out.2.alloc _).kept hgrow (Or.inr fun e => ?_)⟩
                obtain ⟨c1, f1, e1⟩ := Go.Lib.ownsRow_kind (HL.out.2.alloc (Obj.cells #[.int .i64 (k : Int), .int .i64 (col : Int), .int .i64 ls, .int .i64 z] 146)) fb rfl
                obtain ⟨c2, f2, e2⟩ := Go.Lib.ownsRow_kind HO3.out fb e.symm
                rw [e1] at e2; cases e2
              obtain ⟨v'a, v'n, v'c, rfl⟩ := own_form hown'
              clear hown' hgrow hown2 HL HO3 HSW hsw HNX hca
              go_wp2_with fail
              go_roundw
              case rel => exact ⟨j + 1, v'a, v'n, v'c, by omega, rfl, by go_num, HL7⟩
              case measure => simp [intOf]; omega
            · have HL8 : Hid (LM w T n (.slice ao ps.length c) ps bs S br (k + 1) rb (Ap (rowA ps S T) k (col + 1)) (.slice vo vn vc) (clsN ps S T k ++ clsR ps S T k (col + 1)) wr) := by
                rw [← clsF_end ps S T k col j (by rw [HF.out, ← HFL.out]; omega)]; exact HL.out.1
              clear HL
              go_wp2_with fail
              go_roundw
              case rel => exact ⟨col + 1, vo, vn, vc, by have := HCL.out; omega, rfl, by go_num, HL8⟩
              case measure => have := HCL.out; simp [intOf]; omega
        · have HL9 : Hid (∃ rb, LM w T n (.slice ao ps.length c) ps bs S br (k + 1) rb (Ap (rowA ps S T) (k + 1) 0) (.slice vo vn vc) (clsN ps S T (k + 1)) wr) := by
            refine ⟨rb, ?_⟩
            obtain rfl : col = T + 1 := by omega
            exact HLM.out.congr fun i j hi hj => Ap_row _ _ _ _ _ hi hj
          have hcn : ¬ (col : Int) < (T : Int) + 1 := by omega
          have hn20 : n ≤ 20 := HT.out.2.1
          have hkn := HLT.out
          clear HLM
          go_wp2_with fail
          go_roundw
          case rel => exact ⟨k + 1, vo, vn, vc, by have := HLT.out; omega, rfl, by go_num, HL9⟩
          case measure => have := HLT.out; simp [intOf]; omega
    · obtain rfl : k = n := by omega
      have HFIN : Hid (LO w T k ps (.slice (some ⟨br, 0, none⟩) k k) (.slice vo vn vc) wr) := by
        obtain ⟨rb, hlm⟩ := HLK.out
        refine ⟨hlm.gb.below, S, HTK.out, rws_of hlm HT.out.2.1 HT.out.1, cls_of_own hlm.cl ?_⟩
        have := cls_few (S := S) (T := T) (k := k) (non := 0) HT.out.2.2 HT.out.1 HT.out.2.1 0 (by omega)
        rw [List.length_append] at this; omega
      clear HLK
      go_wp2_with fail
      go_ret3
      exact ⟨_, _, _, vo, vn, vc, by simp, HFIN.out⟩
end Go.Proofs.Ytpfehghicaaghaa

namespace Go.Proofs.Ytpfehghicaaghaa
open Go.RowKit
open Cg

def AbQ (w : World) (T n : Nat) (ps : List Pd) (e : Ending) (w' : World) : Prop := ∃ ra rn rc S, e = .returned (.tuple #[.slice ra rn rc, .bool (decide (clsN ps S T n = []))]) ∧ TK ps S ∧ Rws w' (.slice ra rn rc) (rowsL ps S T n) ∧ Below w.heap.size w w'
set_option maxHeartbeats 4000000 in
set_option maxRecDepth 20000 in
theorem able_ok (T n : Nat) (pv : Value) (ps : List Pd) (w : World) (hp : Pds w pv ps) (hk : chk (T : Int) (n : Int) ps = 0) :
    Calls Try.prog 26 #[.agg #[.int .i64 (T : Int), .int .i64 (n : Int), pv]] w fun e w' => AbQ w T n ps e w' := by
  have HP : Hid (Pds w pv ps) := hp
  obtain ⟨ga, gc, rfl, -, -⟩ := hp
  obtain ⟨gm, HGM⟩ : ∃ gm, Hid (ps.length = gm) := ⟨_, (rfl : ps.length = _)⟩
  rw [HGM.out] at HP ⊢
  have HB1 : Hid (Below w.heap.size w (w.alloc (Obj.cells #[.int .i64 (T : Int), .int .i64 (n : Int), .slice ga gm gc] 24))) := below_alloc _ _
  have hc := Make_ok T n _ ps _ (HP.out.below HB1.out) hk
  go_enter Try.func26, Try.ntmps26
  go_wp2_with fail
  refine hc.mono ?_
  rintro _ w2 ⟨ra, rn, rc, vo, vn, vc, rfl, hb, S, htk, hrw, hcl⟩
  obtain ⟨co, cc, hce, hcm, -⟩ := hcl
  simp only [Value.slice.injEq] at hce
  obtain ⟨rfl, rfl, rfl⟩ := hce
  obtain ⟨q, HQ⟩ : ∃ q, Hid (decide (clsN ps S T n = []) = q) := ⟨_, (rfl : decide (clsN ps S T n = []) = _)⟩
  have HFIN : Hid (TK ps S ∧ Rws w2 (.slice ra rn rc) (rowsL ps S T n) ∧ Below w.heap.size w w2) := ⟨htk, hrw, HB1.out.trans (hb.mono HB1.out.size)⟩
  obtain ⟨cn, HCN⟩ : ∃ cn, Hid ((clsN ps S T n).length = cn) := ⟨_, (rfl : (clsN ps S T n).length = _)⟩
  rw [HCN.out] at hcm ⊢
  clear hc htk hrw hb
  cases q with
  | true =>
    have h0 : clsN ps S T n = [] := of_decide_eq_true HQ.out
    have h1 : cn = 0 := by rw [← HCN.out, h0]; rfl
    have hb1 : ((cn : Int) == 0) = true := by simp; omega
    clear h0 h1
    go_wp2_with fail
    go_ret2
    exact ⟨ra, rn, rc, S, by rw [HQ.out]; rfl, HFIN.out.1, HFIN.out.2.1, HFIN.out.2.2⟩
  | false =>
    have h0 : ¬ clsN ps S T n = [] := of_decide_eq_false HQ.out
    have h1 : cn ≠ 0 := fun e => h0 (List.length_eq_zero_iff.1 (HCN.out.trans e))
    have hb1 : ((cn : Int) == 0) = false := by simp; omega
    clear h0 h1
    go_wp2_with fail
    go_ret2
    exact ⟨ra, rn, rc, S, by rw [HQ.out]; rfl, HFIN.out.1, HFIN.out.2.1, HFIN.out.2.2⟩
set_option maxHeartbeats 4000000 in
set_option maxRecDepth 20000 in
theorem able_bad (t n : Int) (pv : Value) (ps : List Pd) (w : World) (hp : Pds w pv ps) (hk : chk t n ps ≠ 0) :
    Calls Try.prog 26 #[.agg #[.int .i64 t, .int .i64 n, pv]] w fun e w' => e = .returned (.tuple #[.slice none 0 0, .bool false]) ∧ Below w.heap.size w w' := by
  have HP : Hid (Pds w pv ps) := hp
  obtain ⟨ga, gc, rfl, -, -⟩ := hp
  obtain ⟨gm, HGM⟩ : ∃ gm, Hid (ps.length = gm) := ⟨_, (rfl : ps.length = _)⟩
  rw [HGM.out] at HP ⊢
  have HB1 : Hid (Below w.heap.size w (w.alloc (Obj.cells #[.int .i64 t, .int .i64 n, .slice ga gm gc] 24))) := below_alloc _ _
  have hc := Make_bad t n _ ps _ (HP.out.below HB1.out) hk
  obtain ⟨ce, HCE⟩ : ∃ ce, Hid (chk t n ps = ce) := ⟨_, (rfl : chk t n ps = _)⟩
  rw [HCE.out] at hc hk
  have hb0 : (ce == 0) = false := by simp; exact hk
  clear hk
  go_enter Try.func26, Try.ntmps26
  go_wp2_with fail
  refine hc.mono ?_
  rintro _ w2 ⟨rfl, hb⟩
  have HB2 : Hid (Below w.heap.size w w2) := HB1.out.trans (hb.mono HB1.out.size)
  clear hc hb
  go_wp2_with fail
  go_ret2
  exact ⟨by simp, HB2.out⟩
end Go.Proofs.Ytpfehghicaaghaa
