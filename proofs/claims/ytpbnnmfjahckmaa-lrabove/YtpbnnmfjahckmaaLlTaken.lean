/-
  The contract of ll.takenAt.
-/
import Derived.Test.YtpbnnmfjahckmaaLlBit
import Derived.Test.YtpbnnmfjahckmaaGrB
import Derived.Test.YtpbnnmfjahckmaaFcBeg
namespace Go.Proofs.Ytpbnnmfjahckmaa
open Go.RowKit
open Cg

theorem begErr_body {t : Int} {n : Nat} {ps : List Pd} (hk : chk t n ps = 0) {i : Nat} (hi : i < ps.length) : begErr t n ps ps[i].2 = 0 := by
  obtain ⟨h1, h2, h3⟩ := chkP_zero ((chk_zero hk).2.2 _ (List.getElem_mem hi))
  unfold begErr; rw [if_pos hk, if_neg (by omega), if_pos h3]
/-- Begin's answer, where the facts are known. -/
theorem Begin_at (t : Int) (n : Nat) (pv : Value) (ps : List Pd) (v : Value) (l : List Sy) (x : Wd) (w : World) (hp : Pds w pv ps) (hs : Syms w v l) (hk : begErr t n ps l = 0) {E M : Nat → Bool} {F : Nat → Wd} (hE : Cg.Mk ps false E) (hM : Cg.Mk ps true M) (hF : Fi ps M E F) :
    Calls Try.prog 82 #[.agg #[.int .i64 t, .int .i64 (n : Int), pv], v, .int .u64 (x.toNat : Int)] w fun e w' => e = .returned (.tuple #[.int .u64 ((bg E F l x).toNat : Int), .int .i64 0]) ∧ Below w.heap.size w w' := by
  refine (Begin_ok t n pv ps v l x w hp hs hk).mono ?_
  rintro _ w' ⟨y, rfl, ⟨E', F', M', i1, i2, i3, i4⟩, hb⟩
  obtain rfl := i1.uniq hE
  obtain rfl := i2.uniq hM
  obtain rfl := i3.uniq hF
  rw [i4]
  exact ⟨rfl, hb⟩
set_option maxHeartbeats 3200000 in
set_option maxRecDepth 20000 in
theorem takenAt_bad (t n : Int) (pv : Value) (ps : List Pd) (w : World) (hp : Pds w pv ps) (hk : chk t n ps ≠ 0) :
    Calls Try.prog 69 #[.agg #[.int .i64 t, .int .i64 n, pv]] w fun e w' => e = .returned (.tuple #[.slice none 0 0, .int .i64 (chk t n ps)]) ∧ Below w.heap.size w w' := by
  have HGB := Gb.box hp t n
  obtain ⟨ao, c, rfl, hm, -⟩ := hp
  have HG0 : Hid (Gb w w.heap.size t n (.slice ao ps.length c) ps (w.alloc (Obj.cells #[.int .i64 t, .int .i64 n, .slice ao ps.length c] 24))) := HGB
  clear HGB
  have hcall := Of_bad t n _ ps _ HG0.out.pds hk
  obtain ⟨r, HR⟩ : ∃ r, Hid (chk t n ps = r) := ⟨_, (rfl : chk t n ps = chk t n ps)⟩
  rw [HR.out] at hcall hk ⊢
  have b0 : (r != 0) = true := by simpa using hk
  clear hk
  go_enter Try.func69, Try.ntmps69
  go_wp2_with fail
  refine hcall.mono ?_
  rintro _ w1 ⟨rfl, hb1⟩
  have HB1 : Hid (Below w.heap.size w w1) := HG0.out.below.trans (hb1.mono HG0.out.below.size)
  clear hb1 hcall HG0
  go_wp2_with fail
  go_ret2
  exact ⟨by simp, HB1.out.trans ((below_alloc _ _).mono HB1.out.size)⟩
theorem Gb.other {w0 : World} {g : Nat} {t n : Int} {pv : Value} {ps : List Pd} {W W' : World} {x : Nat} (h : Gb w0 g t n pv ps W) (h0 : Pds w0 pv ps) (hf : Fm (fun k => k = x) W W') (h1 : g ≠ x) (h2 : w0.heap.size ≤ x) : Gb w0 g t n pv ps W' :=
  have hb : Below w0.heap.size w0 W' := h.below.trans (hf.below h.below.size fun k hk => by omega)
  ⟨hb, Nat.lt_of_lt_of_le h.lt hf.size, h.ge, (hf.cell (p := ⟨g, 0, none⟩) h.lt h1).trans h.c0, (hf.cell (p := ⟨g, 1, none⟩) h.lt h1).trans h.c1, (hf.cell (p := ⟨g, 2, none⟩) h.lt h1).trans h.c2, h0.below hb⟩
/-- What takenAt holds: q productions are done. -/
structure TI (w : World) (t : Int) (n : Nat) (pv : Value) (ps : List Pd) (be bf bw br bm cf bs : Nat) (E : Nat → Bool) (F V : Nat → Wd) (R M : Nat → Bool) (q : Nat) (W : World) : Prop where
  gb : Gb w w.heap.size t n pv ps W
  fx : Fx n be bf bw br bm E F V R M W
  bx : W.rowIs cf 52 5 (fv (.slice (some ⟨be, 0, none⟩) n n) (.slice (some ⟨bf, 0, none⟩) n n) (.slice (some ⟨bw, 0, none⟩) n n) (.slice (some ⟨br, 0, none⟩) n n) (.slice (some ⟨bm, 0, none⟩) n n))
  rs : Rw W bs ps.length (fun i => if i < q then sts ps E F V i else 0#64)
  ne : bf ≠ bs ∧ bw ≠ bs ∧ w.heap.size ≠ bs
  ge : w.heap.size ≤ bs
theorem TI.next {w : World} {t : Int} {n : Nat} {pv : Value} {ps : List Pd} {be bf bw br bm cf bs : Nat} {E : Nat → Bool} {F V : Nat → Wd} {R M : Nat → Bool} {q : Nat} {W W' : World} (h : TI w t n pv ps be bf bw br bm cf bs E F V R M q W) (hb : Below W.heap.size W W') : TI w t n pv ps be bf bw br bm cf bs E F V R M q W' :=
  ⟨h.gb.next hb, h.fx.next hb, h.bx.of_block (hb.block _ h.bx.lt), h.rs.next hb, h.ne, h.ge⟩
theorem TI.put {w : World} {t : Int} {n : Nat} {pv : Value} {ps : List Pd} {be bf bw br bm cf bs : Nat} {E : Nat → Bool} {F V : Nat → Wd} {R M : Nat → Bool} {q : Nat} {W : World} (h : TI w t n pv ps be bf bw br bm cf bs E F V R M q W) (h0 : Pds w pv ps) :
    TI w t n pv ps be bf bw br bm cf bs E F V R M (q + 1) (W.setCell ⟨bs, q, none⟩ (.int .u64 ((sts ps E F V q).toNat : Int))) := by
  have hf : Fm (fun k => k = bs) W (W.setCell ⟨bs, q, none⟩ (.int .u64 ((sts ps E F V q).toNat : Int))) := Fm.set (X := fun k => k = bs) (b := bs) (i := q) _ rfl
  refine ⟨h.gb.other h0 hf h.ne.2.2 h.ge, ⟨h.fx.e.of (hf.block _ h.fx.e.lt (row_ne h.fx.e h.rs (by decide))), h.fx.f.of (hf.block _ h.fx.f.lt h.ne.1), h.fx.v.of (hf.block _ h.fx.v.lt h.ne.2.1), h.fx.r.of (hf.block _ h.fx.r.lt (row_ne h.fx.r h.rs (by decide))), h.fx.m.of (hf.block _ h.fx.m.lt (row_ne h.fx.m h.rs (by decide)))⟩, h.bx.of_block (hf.block _ h.bx.lt (row_ne h.bx h.rs (by decide))), ?_, h.ne, h.ge⟩
  refine World.rowIs.congr (h.rs.set q _) fun i _ => ?_
  unfold upd
  show Value.int .u64 ((if i = q then sts ps E F V q else (if i < q then sts ps E F V i else 0#64)).toNat : Int) = Value.int .u64 ((if i < q + 1 then sts ps E F V i else 0#64).toNat : Int)
  by_cases e : i = q
  · subst e; rw [if_pos rfl, if_pos (by omega)]
  · rw [if_neg e]
    by_cases e2 : i < q
    · rw [if_pos e2, if_pos (by omega)]
    · rw [if_neg e2, if_neg (by omega)]
theorem TI.fm {w : World} {t : Int} {n : Nat} {pv : Value} {ps : List Pd} {be bf bw br bm cf bs : Nat} {E : Nat → Bool} {F V : Nat → Wd} {R M : Nat → Bool} {q q' : Nat} {W W' : World} (h : TI w t n pv ps be bf bw br bm cf bs E F V R M q W) (h0 : Pds w pv ps) (hf : Fm (fun k => k = bs) W W') (hr : Rw W' bs ps.length (fun i => if i < q' then sts ps E F V i else 0#64)) :
    TI w t n pv ps be bf bw br bm cf bs E F V R M q' W' :=
  ⟨h.gb.other h0 hf h.ne.2.2 h.ge, ⟨h.fx.e.of (hf.block _ h.fx.e.lt (row_ne h.fx.e h.rs (by decide))), h.fx.f.of (hf.block _ h.fx.f.lt h.ne.1), h.fx.v.of (hf.block _ h.fx.v.lt h.ne.2.1), h.fx.r.of (hf.block _ h.fx.r.lt (row_ne h.fx.r h.rs (by decide))), h.fx.m.of (hf.block _ h.fx.m.lt (row_ne h.fx.m h.rs (by decide)))⟩, h.bx.of_block (hf.block _ h.bx.lt (row_ne h.bx h.rs (by decide))), hr, h.ne, h.ge⟩
structure RTa (w wb wr : World) (t : Int) (n : Nat) (ps : List Pd) (b2 o c bs bw cf : Nat) (uo : Option Addr) (l : List Sy) (uc h q : Nat) (x vh : Wd) (E : Nat → Bool) (F V : Nat → Wd) (d : Nat → Bool) (x5 x29 x30 x31 x32 x33 x34 x35 x36 x37 x38 x39 x40 x41 x42 x43 x44 : Value) (W : World) : Prop where
  f0 : d 0 = true → x30 = (.slice (some ⟨bs, 0, none⟩) ps.length ps.length)
  f1 : d 1 = true → x31 = (.int .i64 (q : Int))
  f2 : d 2 = true → x32 = (.agg #[.int .i64 t, .int .i64 (n : Int), .slice (some ⟨b2, o, none⟩) ps.length c])
  f3 : d 3 = true → x33 = (.pointer (some ⟨wr.heap.size, 1, none⟩))
  f4 : d 4 = true → x34 = (.slice uo l.length uc)
  f5 : d 5 = true → x35 = (.pointer (some ⟨cf, 2, none⟩))
  f6 : d 6 = true → x36 = (.slice (some ⟨bw, 0, none⟩) n n)
  f7 : d 7 = true → x37 = (.pointer (some ⟨wr.heap.size, 0, none⟩))
  f8 : d 8 = true → x38 = (.int .i64 (h : Int))
  f9 : d 9 = true → x39 = (.pointer (some ⟨bw, h, none⟩))
  f10 : d 10 = true → x40 = (.int .u64 (vh.toNat : Int))
  f11 : d 11 = true → x41 = (.tuple #[.int .u64 (x.toNat : Int), .int .i64 0])
  f12 : d 12 = true → x29 = (.tuple #[.int .u64 (x.toNat : Int), .int .i64 0])
  f13 : d 13 = true → x42 = (.int .u64 (x.toNat : Int))
  f14 : d 14 = true → x43 = (.int .i64 0)
  f15 : d 15 = true → x44 = (.pointer (some ⟨bs, q, none⟩))
  f16 : d 16 = true → True
  f17 : d 17 = true → x5 = (.int .i64 0)
  kp : Fm (fun k => k = bs) wb W
  r0 : d 16 = false → Rw W bs ps.length (fun i => if i < q then sts ps E F V i else 0#64)
  r1 : d 16 = true → Rw W bs ps.length (fun i => if i < q + 1 then sts ps E F V i else 0#64)
/-- What takenAt leaves. -/
def TKW (w : World) (ps : List Pd) (bs : Nat) (S : Nat → Wd) (w' : World) : Prop := Below w.heap.size w w' ∧ w.heap.size ≤ bs ∧ Rw w' bs ps.length S ∧ TK ps S
set_option maxHeartbeats 6400000 in
set_option maxRecDepth 20000 in
theorem takenAt_ok (t : Int) (n : Nat) (pv : Value) (ps : List Pd) (w : World) (hp : Pds w pv ps) (hk : chk t n ps = 0) :
    Calls Try.prog 69 #[.agg #[.int .i64 t, .int .i64 (n : Int), pv]] w fun e w' => ∃ bs S, e = .returned (.tuple #[.slice (some ⟨bs, 0, none⟩) ps.length ps.length, .int .i64 0]) ∧ TKW w ps bs S w' := by
  have HP : Hid (Pds w pv ps) := hp
  have HGB := Gb.box hp t (n : Int)
  obtain ⟨ao, c, rfl, hm, hcs⟩ := hp
  have HG0 : Hid (Gb w w.heap.size t (n : Int) (.slice ao ps.length c) ps (w.alloc (Obj.cells #[.int .i64 t, .int .i64 (n : Int), .slice ao ps.length c] 24))) := HGB
  have HK : Hid (chk t n ps = 0) := hk
  have HRG : Hid (Rg t n ps) := rg_of hk
  have HPL : Hid (ps.length ≤ 40) := HRG.out.ln
  have hcall := Of_ok t n _ ps _ HG0.out.pds hk
  have hmk := run_make_row' (P := Try.prog) 50 130 (.int .u64 0) 8 Try.underlying50 info130 rfl .i64 .i64 ps.length (by have := HPL.out; omega) (by have := HPL.out; omega)
  clear HGB hk
  go_enter Try.func69, Try.ntmps69
  go_wp2_with fail
  refine hcall.mono ?_
  rintro _ w1 ⟨be, bf, bw, br, bm, rfl, hb1, E, F, V, R, M, hfx, hfa⟩
  have hbx := row_vals5 w1 (.slice (some ⟨be, 0, none⟩) n n) (.slice (some ⟨bf, 0, none⟩) n n) (.slice (some ⟨bw, 0, none⟩) n n) (.slice (some ⟨br, 0, none⟩) n n) (.slice (some ⟨bm, 0, none⟩) n n)
  have hba := below_alloc w1 (Obj.cells #[.slice (some ⟨be, 0, none⟩) n n, .slice (some ⟨bf, 0, none⟩) n n, .slice (some ⟨bw, 0, none⟩) n n, .slice (some ⟨br, 0, none⟩) n n, .slice (some ⟨bm, 0, none⟩) n n] 52)
  obtain ⟨w2, HW2⟩ : ∃ w2, Hid (w1.alloc (Obj.cells #[.slice (some ⟨be, 0, none⟩) n n, .slice (some ⟨bf, 0, none⟩) n n, .slice (some ⟨bw, 0, none⟩) n n, .slice (some ⟨br, 0, none⟩) n n, .slice (some ⟨bm, 0, none⟩) n n] 52) = w2) := ⟨_, (rfl : _ = _)⟩
  rw [HW2.out] at hbx hba
  have hmr := World.rowIs_made w2 (.int .u64 0) ps.length 130
  have hbm := below_alloc w2 (Obj.cells (madeCells #[Value.int .u64 0] ps.length) 130)
  have HTI0 : Hid (TI w t n (.slice ao ps.length c) ps be bf bw br bm w1.heap.size w2.heap.size E F V R M 0 (w2.alloc (Obj.cells (madeCells #[Value.int .u64 0] ps.length) 130))) := by
    have hg := ((HG0.out.next hb1).next hba).next hbm
    have hx := (hfx.next hba)
    refine ⟨hg, hx.next hbm, hbx.of_block (hbm.block _ hbx.lt), World.rowIs.congr hmr fun i _ => by simp, ⟨?_, ?_, ?_⟩, ?_⟩
    · have := hx.f.lt; omega
    · have := hx.v.lt; omega
    · have := ((HG0.out.next hb1).next hba).lt; omega
    · have := ((HG0.out.next hb1).next hba).below.size; omega
  have HFA : Hid (Fa ps E F V R M) := hfa
  have k2 := ((HG0.out.next hb1).next hba).c2
  clear hb1 hcall HG0 hfx hbx hba hmr hbm hfa
  obtain ⟨cf, HCF⟩ : ∃ cf, Hid (w1.heap.size = cf) := ⟨_, (rfl : w1.heap.size = w1.heap.size)⟩
  rw [HCF.out] at HTI0
  rw [← HW2.out] at k2
  go_upto_region 4 with (fail)
  rw [HW2.out, HCF.out]
  rw [HW2.out] at k2
  clear HCF HW2
  go_upto_region 5 with (fail)
  obtain ⟨bs, HBS⟩ : ∃ bs, Hid (w2.heap.size = bs) := ⟨_, (rfl : w2.heap.size = w2.heap.size)⟩
  obtain ⟨w3, HW3⟩ : ∃ w3, Hid (w2.alloc (Obj.cells (madeCells #[Value.int .u64 0] ps.length) 130) = w3) := ⟨_, (rfl : _ = _)⟩
  rw [HBS.out, HW3.out] at HTI0
  rw [HBS.out, HW3.out]
  clear HBS HW3 hmk k2
  have k2 := HTI0.out.gb.c2
  go_wp2_with fail
  clear k2
  go_loopw [24] (fun i wr => ∃ q : Nat, q ≤ ps.length ∧ i = .int .i64 (q : Int) ∧ Hid (TI w t n (.slice ao ps.length c) ps be bf bw br bm cf bs E F V R M q wr)) (fun i _ => ps.length - (intOf i).toNat)
  case atStart => exact ⟨0, by omega, rfl, HTI0⟩
  case round =>
    obtain ⟨q, hq, rfl, HT⟩ := hrel
    clear HTI0
    by_cases hlt : q < ps.length
    · obtain ⟨b2, o, rfl, hb, hc⟩ := hcs.resolve_left (by intro e; subst e; simp at hlt)
      obtain ⟨c0, u, c1, hu⟩ := hc q hlt
      obtain ⟨h, hh, hhn⟩ : ∃ h : Nat, ps[q].1 = (h : Int) ∧ h < n := by
        obtain ⟨m, e1, e2, e3⟩ := HRG.out.hd q hlt
        exact ⟨m, e1, e3⟩
      have HBE : Hid (begErr t n ps ps[q].2 = 0) := begErr_body HK.out hlt
      have HST : Hid (sts ps E F V q = bg E F ps[q].2 (V h)) := by show _ = _; rw [sts_at hlt, hh]; rfl
      rw [hh] at c0
      generalize ps[q].2 = l at hu HBE HST
      obtain ⟨uo, uc, rfl, hul, huc⟩ := hu
      have HU : Hid (Syms w (.slice uo l.length uc) l) := ⟨uo, uc, rfl, hul, huc⟩
      replace c0 : wr.cell? ⟨b2, o + q * 2, none⟩ = some (.int .i64 (h : Int)) := (HT.out.gb.below.cell (p := ⟨b2, o + q * 2, none⟩) hb).trans c0
      replace c1 : wr.cell? ⟨b2, o + q * 2 + 1, none⟩ = some (.slice uo l.length uc) := (HT.out.gb.below.cell (p := ⟨b2, o + q * 2 + 1, none⟩) hb).trans c1
      have hk1 : (q : Int) < (ps.length : Int) := by omega
      have hk0 : (0 : Int) ≤ (q : Int) := by omega
      have g0 := cell_new wr #[.int .i64 (h : Int), .slice uo l.length uc] 79
      have hb0 := below_alloc wr (Obj.cells #[.int .i64 (h : Int), .slice uo l.length uc] 79)
      obtain ⟨wb, HWB⟩ : ∃ wb, Hid (wr.alloc (Obj.cells #[.int .i64 (h : Int), .slice uo l.length uc] 79) = wb) := ⟨_, (rfl : _ = _)⟩
      rw [HWB.out] at g0 hb0
      have HSZ : Hid (wr.heap.size < wb.heap.size) := by show _ < _; rw [← HWB.out]; simp
      have HT2 : Hid (TI w t n (.slice (some ⟨b2, o, none⟩) ps.length c) ps be bf bw br bm cf bs E F V R M q wb) := HT.out.next hb0
      have HLT : Hid (q < ps.length) := hlt
      have HC0 : Hid (w.heap.size < wb.heap.size ∧ ¬ w.heap.size = bs ∧ wb.cell? ⟨w.heap.size, 0, none⟩ = some (.int .i64 t)) := ⟨HT2.out.gb.lt, HT2.out.ne.2.2, HT2.out.gb.c0⟩
      have HC1 : Hid (w.heap.size < wb.heap.size ∧ ¬ w.heap.size = bs ∧ wb.cell? ⟨w.heap.size, 1, none⟩ = some (.int .i64 (n : Int))) := ⟨HT2.out.gb.lt, HT2.out.ne.2.2, HT2.out.gb.c1⟩
      have HC2 : Hid (w.heap.size < wb.heap.size ∧ ¬ w.heap.size = bs ∧ wb.cell? ⟨w.heap.size, 2, none⟩ = some (.slice (some ⟨b2, o, none⟩) ps.length c)) := ⟨HT2.out.gb.lt, HT2.out.ne.2.2, HT2.out.gb.c2⟩
      have HC3 : Hid (wr.heap.size < wb.heap.size ∧ ¬ wr.heap.size = bs ∧ wb.cell? ⟨wr.heap.size, 1, none⟩ = some (.slice uo l.length uc)) := ⟨HSZ.out, by have := HT.out.rs.lt; omega, g0 1⟩
      have HC4 : Hid (cf < wb.heap.size ∧ ¬ cf = bs ∧ wb.cell? ⟨cf, 2, none⟩ = some (.slice (some ⟨bw, 0, none⟩) n n)) := ⟨HT2.out.bx.lt, row_ne HT2.out.bx HT2.out.rs (by decide), HT2.out.bx.cell (i := 2) (by omega)⟩
      have HC5 : Hid (wr.heap.size < wb.heap.size ∧ ¬ wr.heap.size = bs ∧ wb.cell? ⟨wr.heap.size, 0, none⟩ = some (.int .i64 (h : Int))) := ⟨HSZ.out, by have := HT.out.rs.lt; omega, g0 0⟩
      have HC6 : Hid (bw < wb.heap.size ∧ ¬ bw = bs ∧ wb.cell? ⟨bw, h, none⟩ = some (.int .u64 ((V h).toNat : Int))) := ⟨HT2.out.fx.v.lt, HT2.out.ne.2.1, HT2.out.fx.v.cell hhn⟩
      have hh1 : (h : Int) < (n : Int) := by omega
      have hh0 : (0 : Int) ≤ (h : Int) := by omega
      obtain ⟨x, HX⟩ : ∃ x, Hid (sts ps E F V q = x) := ⟨_, (rfl : _ = _)⟩
      obtain ⟨vh, HVH⟩ : ∃ x, Hid (V h = x) := ⟨_, (rfl : _ = _)⟩
      have HC : Hid (∀ W, Fm (fun k => k = bs) wb W → Calls Try.prog 82 #[.agg #[.int .i64 t, .int .i64 (n : Int), .slice (some ⟨b2, o, none⟩) ps.length c], .slice uo l.length uc, .int .u64 (vh.toNat : Int)] W fun e w'' => e = .returned (.tuple #[.int .u64 (x.toNat : Int), .int .i64 0]) ∧ Below W.heap.size W w'') := fun W hW => by
        have hg := HT2.out.gb.other HP.out hW HT2.out.ne.2.2 HT2.out.ge
        have := Begin_at t n _ ps _ l vh W hg.pds (HU.out.below hg.below) HBE.out HFA.out.e HFA.out.m HFA.out.f
        rw [← HVH.out, ← HST.out, HX.out, HVH.out] at this
        exact this
      have HPUT : Hid (∀ W, Rw W bs ps.length (fun i => if i < q then sts ps E F V i else 0#64) → Rw (W.setCell ⟨bs, q, none⟩ (.int .u64 (x.toNat : Int))) bs ps.length (fun i => if i < q + 1 then sts ps E F V i else 0#64)) := fun W hW => by
        rw [← HX.out]
        refine World.rowIs.congr (hW.set q _) fun i _ => ?_
        unfold upd
        show Value.int .u64 ((if i = q then sts ps E F V q else (if i < q then sts ps E F V i else 0#64)).toNat : Int) = Value.int .u64 ((if i < q + 1 then sts ps E F V i else 0#64).toNat : Int)
        by_cases e : i = q
        · subst e; rw [if_pos rfl, if_pos (by omega)]
        · rw [if_neg e]
          by_cases e2 : i < q
          · rw [if_pos e2, if_pos (by omega)]
          · rw [if_neg e2, if_neg (by omega)]
      have HRS : Hid (Rw wb bs ps.length (fun i => if i < q then sts ps E F V i else 0#64)) := HT2.out.rs
      rw [HVH.out] at HC6
      clear hcs hc hb0 g0 HT HX HVH HST huc hh hlt
      go_upto_region 8 with (fail)
      rw [HWB.out]
      clear c0 c1
      refine wp_region_free mixed (fun a0 d a W => ∃ (x5 x29 x30 x31 x32 x33 x34 x35 x36 x37 x38 x39 x40 x41 x42 x43 x44 : Value), a = (((((((((((((((((a0.put (some 5) x5).put (some 29) x29).put (some 30) x30).put (some 31) x31).put (some 32) x32).put (some 33) x33).put (some 34) x34).put (some 35) x35).put (some 36) x36).put (some 37) x37).put (some 38) x38).put (some 39) x39).put (some 40) x40).put (some 41) x41).put (some 42) x42).put (some 43) x43).put (some 44) x44) ∧ Hid (RTa w wb wr t n ps b2 o c bs bw cf uo l uc h q x vh E F V d x5 x29 x30 x31 x32 x33 x34 x35 x36 x37 x38 x39 x40 x41 x42 x43 x44 W)) (by kernel_rfl) ⟨u5, u29, u30, u31, u32, u33, u34, u35, u36, u37, u38, u39, u40, u41, u42, u43, u44, by simp only [Act.put, List.setIfInBounds_toArray, List.set_cons_zero, List.set_cons_succ], ?_⟩ ?_ ?_
      · exact ⟨fun h => no_way h, fun h => no_way h, fun h => no_way h, fun h => no_way h, fun h => no_way h, fun h => no_way h, fun h => no_way h, fun h => no_way h, fun h => no_way h, fun h => no_way h, fun h => no_way h, fun h => no_way h, fun h => no_way h, fun h => no_way h, fun h => no_way h, fun h => no_way h, fun _ => trivial, fun h => no_way h, Fm.of ⟨rfl, rfl, rfl, Nat.le_refl _, fun _ _ => rfl⟩, fun _ => HRS.out, fun h => no_way h⟩
      · simp only [StepAll, and_true]
        refine ⟨?_, ?_, ?_, ?_, ?_, ?_, ?_, ?_, ?_, ?_, ?_, ?_, ?_, ?_, ?_, ?_, ?_, ?_⟩
        · intro d a W hI hd hdep
          obtain ⟨x5, x29, x30, x31, x32, x33, x34, x35, x36, x37, x38, x39, x40, x41, x42, x43, x44, rfl, hF⟩ := hI
          clear hdep hd
          intro K hK
          simp only [Act.put, List.setIfInBounds_toArray, List.set_cons_zero, List.set_cons_succ]
          go_simp
          refine hK.out _ _ ⟨x5, x29, (.slice (some ⟨bs, 0, none⟩) ps.length ps.length), x31, x32, x33, x34, x35, x36, x37, x38, x39, x40, x41, x42, x43, x44, by simp only [Act.put, List.setIfInBounds_toArray, List.set_cons_zero, List.set_cons_succ], ?_⟩
          exact ⟨fun _ => rfl, fun h => hF.out.f1 (by simpa using h), fun h => hF.out.f2 (by simpa using h), fun h => hF.out.f3 (by simpa using h), fun h => hF.out.f4 (by simpa using h), fun h => hF.out.f5 (by simpa using h), fun h => hF.out.f6 (by simpa using h), fun h => hF.out.f7 (by simpa using h), fun h => hF.out.f8 (by simpa using h), fun h => hF.out.f9 (by simpa using h), fun h => hF.out.f10 (by simpa using h), fun h => hF.out.f11 (by simpa using h), fun h => hF.out.f12 (by simpa using h), fun h => hF.out.f13 (by simpa using h), fun h => hF.out.f14 (by simpa using h), fun h => hF.out.f15 (by simpa using h), fun h => hF.out.f16 (by simpa using h), fun h => hF.out.f17 (by simpa using h), hF.out.kp, fun h => hF.out.r0 (by simpa using h), fun h => hF.out.r1 (by simpa using h)⟩
        · intro d a W hI hd hdep
          obtain ⟨x5, x29, x30, x31, x32, x33, x34, x35, x36, x37, x38, x39, x40, x41, x42, x43, x44, rfl, hF⟩ := hI
          clear hdep hd
          intro K hK
          simp only [Act.put, List.setIfInBounds_toArray, List.set_cons_zero, List.set_cons_succ]
          go_simp
          refine hK.out _ _ ⟨x5, x29, x30, (.int .i64 (q : Int)), x32, x33, x34, x35, x36, x37, x38, x39, x40, x41, x42, x43, x44, by simp only [Act.put, List.setIfInBounds_toArray, List.set_cons_zero, List.set_cons_succ], ?_⟩
          exact ⟨fun h => hF.out.f0 (by simpa using h), fun _ => rfl, fun h => hF.out.f2 (by simpa using h), fun h => hF.out.f3 (by simpa using h), fun h => hF.out.f4 (by simpa using h), fun h => hF.out.f5 (by simpa using h), fun h => hF.out.f6 (by simpa using h), fun h => hF.out.f7 (by simpa using h), fun h => hF.out.f8 (by simpa using h), fun h => hF.out.f9 (by simpa using h), fun h => hF.out.f10 (by simpa using h), fun h => hF.out.f11 (by simpa using h), fun h => hF.out.f12 (by simpa using h), fun h => hF.out.f13 (by simpa using h), fun h => hF.out.f14 (by simpa using h), fun h => hF.out.f15 (by simpa using h), fun h => hF.out.f16 (by simpa using h), fun h => hF.out.f17 (by simpa using h), hF.out.kp, fun h => hF.out.r0 (by simpa using h), fun h => hF.out.r1 (by simpa using h)⟩
        · intro d a W hI hd hdep
          obtain ⟨x5, x29, x30, x31, x32, x33, x34, x35, x36, x37, x38, x39, x40, x41, x42, x43, x44, rfl, hF⟩ := hI
          have hkp := hF.out.kp
          have a0 := (hkp.cell (p := ⟨w.heap.size, 0, none⟩) HC0.out.1 HC0.out.2.1).trans HC0.out.2.2
          have a1 := (hkp.cell (p := ⟨w.heap.size, 1, none⟩) HC1.out.1 HC1.out.2.1).trans HC1.out.2.2
          have a2 := (hkp.cell (p := ⟨w.heap.size, 2, none⟩) HC2.out.1 HC2.out.2.1).trans HC2.out.2.2
          clear hkp
          clear hdep hd
          intro K hK
          simp only [Act.put, List.setIfInBounds_toArray, List.set_cons_zero, List.set_cons_succ]
          go_simp
          refine hK.out _ _ ⟨x5, x29, x30, x31, (.agg #[.int .i64 t, .int .i64 (n : Int), .slice (some ⟨b2, o, none⟩) ps.length c]), x33, x34, x35, x36, x37, x38, x39, x40, x41, x42, x43, x44, by simp only [Act.put, List.setIfInBounds_toArray, List.set_cons_zero, List.set_cons_succ], ?_⟩
          exact ⟨fun h => hF.out.f0 (by simpa using h), fun h => hF.out.f1 (by simpa using h), fun _ => rfl, fun h => hF.out.f3 (by simpa using h), fun h => hF.out.f4 (by simpa using h), fun h => hF.out.f5 (by simpa using h), fun h => hF.out.f6 (by simpa using h), fun h => hF.out.f7 (by simpa using h), fun h => hF.out.f8 (by simpa using h), fun h => hF.out.f9 (by simpa using h), fun h => hF.out.f10 (by simpa using h), fun h => hF.out.f11 (by simpa using h), fun h => hF.out.f12 (by simpa using h), fun h => hF.out.f13 (by simpa using h), fun h => hF.out.f14 (by simpa using h), fun h => hF.out.f15 (by simpa using h), fun h => hF.out.f16 (by simpa using h), fun h => hF.out.f17 (by simpa using h), hF.out.kp, fun h => hF.out.r0 (by simpa using h), fun h => hF.out.r1 (by simpa using h)⟩
        · intro d a W hI hd hdep
          obtain ⟨x5, x29, x30, x31, x32, x33, x34, x35, x36, x37, x38, x39, x40, x41, x42, x43, x44, rfl, hF⟩ := hI
          clear hdep hd
          intro K hK
          simp only [Act.put, List.setIfInBounds_toArray, List.set_cons_zero, List.set_cons_succ]
          go_simp
          refine hK.out _ _ ⟨x5, x29, x30, x31, x32, (.pointer (some ⟨wr.heap.size, 1, none⟩)), x34, x35, x36, x37, x38, x39, x40, x41, x42, x43, x44, by simp only [Act.put, List.setIfInBounds_toArray, List.set_cons_zero, List.set_cons_succ], ?_⟩
          exact ⟨fun h => hF.out.f0 (by simpa using h), fun h => hF.out.f1 (by simpa using h), fun h => hF.out.f2 (by simpa using h), fun _ => rfl, fun h => hF.out.f4 (by simpa using h), fun h => hF.out.f5 (by simpa using h), fun h => hF.out.f6 (by simpa using h), fun h => hF.out.f7 (by simpa using h), fun h => hF.out.f8 (by simpa using h), fun h => hF.out.f9 (by simpa using h), fun h => hF.out.f10 (by simpa using h), fun h => hF.out.f11 (by simpa using h), fun h => hF.out.f12 (by simpa using h), fun h => hF.out.f13 (by simpa using h), fun h => hF.out.f14 (by simpa using h), fun h => hF.out.f15 (by simpa using h), fun h => hF.out.f16 (by simpa using h), fun h => hF.out.f17 (by simpa using h), hF.out.kp, fun h => hF.out.r0 (by simpa using h), fun h => hF.out.r1 (by simpa using h)⟩
        · intro d a W hI hd hdep
          obtain ⟨x5, x29, x30, x31, x32, x33, x34, x35, x36, x37, x38, x39, x40, x41, x42, x43, x44, rfl, hF⟩ := hI
          have hd3 : d 3 = true := dep_of hdep 3 (by kernel_rfl)
          obtain rfl := hF.out.f3 hd3
          have hkp := hF.out.kp
          have a0 := (hkp.cell (p := ⟨wr.heap.size, 1, none⟩) HC3.out.1 HC3.out.2.1).trans HC3.out.2.2
          clear hkp
          clear hdep hd hd3
          intro K hK
          simp only [Act.put, List.setIfInBounds_toArray, List.set_cons_zero, List.set_cons_succ]
          go_simp
          refine hK.out _ _ ⟨x5, x29, x30, x31, x32, (.pointer (some ⟨wr.heap.size, 1, none⟩)), (.slice uo l.length uc), x35, x36, x37, x38, x39, x40, x41, x42, x43, x44, by simp only [Act.put, List.setIfInBounds_toArray, List.set_cons_zero, List.set_cons_succ], ?_⟩
          exact ⟨fun h => hF.out.f0 (by simpa using h), fun h => hF.out.f1 (by simpa using h), fun h => hF.out.f2 (by simpa using h), fun h => hF.out.f3 (by simpa using h), fun _ => rfl, fun h => hF.out.f5 (by simpa using h), fun h => hF.out.f6 (by simpa using h), fun h => hF.out.f7 (by simpa using h), fun h => hF.out.f8 (by simpa using h), fun h => hF.out.f9 (by simpa using h), fun h => hF.out.f10 (by simpa using h), fun h => hF.out.f11 (by simpa using h), fun h => hF.out.f12 (by simpa using h), fun h => hF.out.f13 (by simpa using h), fun h => hF.out.f14 (by simpa using h), fun h => hF.out.f15 (by simpa using h), fun h => hF.out.f16 (by simpa using h), fun h => hF.out.f17 (by simpa using h), hF.out.kp, fun h => hF.out.r0 (by simpa using h), fun h => hF.out.r1 (by simpa using h)⟩
        · intro d a W hI hd hdep
          obtain ⟨x5, x29, x30, x31, x32, x33, x34, x35, x36, x37, x38, x39, x40, x41, x42, x43, x44, rfl, hF⟩ := hI
          clear hdep hd
          intro K hK
          simp only [Act.put, List.setIfInBounds_toArray, List.set_cons_zero, List.set_cons_succ]
          go_simp
          refine hK.out _ _ ⟨x5, x29, x30, x31, x32, x33, x34, (.pointer (some ⟨cf, 2, none⟩)), x36, x37, x38, x39, x40, x41, x42, x43, x44, by simp only [Act.put, List.setIfInBounds_toArray, List.set_cons_zero, List.set_cons_succ], ?_⟩
          exact ⟨fun h => hF.out.f0 (by simpa using h), fun h => hF.out.f1 (by simpa using h), fun h => hF.out.f2 (by simpa using h), fun h => hF.out.f3 (by simpa using h), fun h => hF.out.f4 (by simpa using h), fun _ => rfl, fun h => hF.out.f6 (by simpa using h), fun h => hF.out.f7 (by simpa using h), fun h => hF.out.f8 (by simpa using h), fun h => hF.out.f9 (by simpa using h), fun h => hF.out.f10 (by simpa using h), fun h => hF.out.f11 (by simpa using h), fun h => hF.out.f12 (by simpa using h), fun h => hF.out.f13 (by simpa using h), fun h => hF.out.f14 (by simpa using h), fun h => hF.out.f15 (by simpa using h), fun h => hF.out.f16 (by simpa using h), fun h => hF.out.f17 (by simpa using h), hF.out.kp, fun h => hF.out.r0 (by simpa using h), fun h => hF.out.r1 (by simpa using h)⟩
        · intro d a W hI hd hdep
          obtain ⟨x5, x29, x30, x31, x32, x33, x34, x35, x36, x37, x38, x39, x40, x41, x42, x43, x44, rfl, hF⟩ := hI
          have hd5 : d 5 = true := dep_of hdep 5 (by kernel_rfl)
          obtain rfl := hF.out.f5 hd5
          have hkp := hF.out.kp
          have a0 := (hkp.cell (p := ⟨cf, 2, none⟩) HC4.out.1 HC4.out.2.1).trans HC4.out.2.2
          clear hkp
          clear hdep hd hd5
          intro K hK
          simp only [Act.put, List.setIfInBounds_toArray, List.set_cons_zero, List.set_cons_succ]
          go_simp
          refine hK.out _ _ ⟨x5, x29, x30, x31, x32, x33, x34, (.pointer (some ⟨cf, 2, none⟩)), (.slice (some ⟨bw, 0, none⟩) n n), x37, x38, x39, x40, x41, x42, x43, x44, by simp only [Act.put, List.setIfInBounds_toArray, List.set_cons_zero, List.set_cons_succ], ?_⟩
          exact ⟨fun h => hF.out.f0 (by simpa using h), fun h => hF.out.f1 (by simpa using h), fun h => hF.out.f2 (by simpa using h), fun h => hF.out.f3 (by simpa using h), fun h => hF.out.f4 (by simpa using h), fun h => hF.out.f5 (by simpa using h), fun _ => rfl, fun h => hF.out.f7 (by simpa using h), fun h => hF.out.f8 (by simpa using h), fun h => hF.out.f9 (by simpa using h), fun h => hF.out.f10 (by simpa using h), fun h => hF.out.f11 (by simpa using h), fun h => hF.out.f12 (by simpa using h), fun h => hF.out.f13 (by simpa using h), fun h => hF.out.f14 (by simpa using h), fun h => hF.out.f15 (by simpa using h), fun h => hF.out.f16 (by simpa using h), fun h => hF.out.f17 (by simpa using h), hF.out.kp, fun h => hF.out.r0 (by simpa using h), fun h => hF.out.r1 (by simpa using h)⟩
        · intro d a W hI hd hdep
          obtain ⟨x5, x29, x30, x31, x32, x33, x34, x35, x36, x37, x38, x39, x40, x41, x42, x43, x44, rfl, hF⟩ := hI
          clear hdep hd
          intro K hK
          simp only [Act.put, List.setIfInBounds_toArray, List.set_cons_zero, List.set_cons_succ]
          go_simp
          refine hK.out _ _ ⟨x5, x29, x30, x31, x32, x33, x34, x35, x36, (.pointer (some ⟨wr.heap.size, 0, none⟩)), x38, x39, x40, x41, x42, x43, x44, by simp only [Act.put, List.setIfInBounds_toArray, List.set_cons_zero, List.set_cons_succ], ?_⟩
          exact ⟨fun h => hF.out.f0 (by simpa using h), fun h => hF.out.f1 (by simpa using h), fun h => hF.out.f2 (by simpa using h), fun h => hF.out.f3 (by simpa using h), fun h => hF.out.f4 (by simpa using h), fun h => hF.out.f5 (by simpa using h), fun h => hF.out.f6 (by simpa using h), fun _ => rfl, fun h => hF.out.f8 (by simpa using h), fun h => hF.out.f9 (by simpa using h), fun h => hF.out.f10 (by simpa using h), fun h => hF.out.f11 (by simpa using h), fun h => hF.out.f12 (by simpa using h), fun h => hF.out.f13 (by simpa using h), fun h => hF.out.f14 (by simpa using h), fun h => hF.out.f15 (by simpa using h), fun h => hF.out.f16 (by simpa using h), fun h => hF.out.f17 (by simpa using h), hF.out.kp, fun h => hF.out.r0 (by simpa using h), fun h => hF.out.r1 (by simpa using h)⟩
        · intro d a W hI hd hdep
          obtain ⟨x5, x29, x30, x31, x32, x33, x34, x35, x36, x37, x38, x39, x40, x41, x42, x43, x44, rfl, hF⟩ := hI
          have hd7 : d 7 = true := dep_of hdep 7 (by kernel_rfl)
          obtain rfl := hF.out.f7 hd7
          have hkp := hF.out.kp
          have a0 := (hkp.cell (p := ⟨wr.heap.size, 0, none⟩) HC5.out.1 HC5.out.2.1).trans HC5.out.2.2
          clear hkp
          clear hdep hd hd7
          intro K hK
          simp only [Act.put, List.setIfInBounds_toArray, List.set_cons_zero, List.set_cons_succ]
          go_simp
          refine hK.out _ _ ⟨x5, x29, x30, x31, x32, x33, x34, x35, x36, (.pointer (some ⟨wr.heap.size, 0, none⟩)), (.int .i64 (h : Int)), x39, x40, x41, x42, x43, x44, by simp only [Act.put, List.setIfInBounds_toArray, List.set_cons_zero, List.set_cons_succ], ?_⟩
          exact ⟨fun h => hF.out.f0 (by simpa using h), fun h => hF.out.f1 (by simpa using h), fun h => hF.out.f2 (by simpa using h), fun h => hF.out.f3 (by simpa using h), fun h => hF.out.f4 (by simpa using h), fun h => hF.out.f5 (by simpa using h), fun h => hF.out.f6 (by simpa using h), fun h => hF.out.f7 (by simpa using h), fun _ => rfl, fun h => hF.out.f9 (by simpa using h), fun h => hF.out.f10 (by simpa using h), fun h => hF.out.f11 (by simpa using h), fun h => hF.out.f12 (by simpa using h), fun h => hF.out.f13 (by simpa using h), fun h => hF.out.f14 (by simpa using h), fun h => hF.out.f15 (by simpa using h), fun h => hF.out.f16 (by simpa using h), fun h => hF.out.f17 (by simpa using h), hF.out.kp, fun h => hF.out.r0 (by simpa using h), fun h => hF.out.r1 (by simpa using h)⟩
        · intro d a W hI hd hdep
          obtain ⟨x5, x29, x30, x31, x32, x33, x34, x35, x36, x37, x38, x39, x40, x41, x42, x43, x44, rfl, hF⟩ := hI
          have hd6 : d 6 = true := dep_of hdep 6 (by kernel_rfl)
          have hd8 : d 8 = true := dep_of hdep 8 (by kernel_rfl)
          obtain rfl := hF.out.f6 hd6
          obtain rfl := hF.out.f8 hd8
          clear hdep hd hd6 hd8
          intro K hK
          simp only [Act.put, List.setIfInBounds_toArray, List.set_cons_zero, List.set_cons_succ]
          go_simp
          refine hK.out _ _ ⟨x5, x29, x30, x31, x32, x33, x34, x35, (.slice (some ⟨bw, 0, none⟩) n n), x37, (.int .i64 (h : Int)), (.pointer (some ⟨bw, h, none⟩)), x40, x41, x42, x43, x44, by simp only [Act.put, List.setIfInBounds_toArray, List.set_cons_zero, List.set_cons_succ], ?_⟩
          exact ⟨fun h => hF.out.f0 (by simpa using h), fun h => hF.out.f1 (by simpa using h), fun h => hF.out.f2 (by simpa using h), fun h => hF.out.f3 (by simpa using h), fun h => hF.out.f4 (by simpa using h), fun h => hF.out.f5 (by simpa using h), fun h => hF.out.f6 (by simpa using h), fun h => hF.out.f7 (by simpa using h), fun h => hF.out.f8 (by simpa using h), fun _ => rfl, fun h => hF.out.f10 (by simpa using h), fun h => hF.out.f11 (by simpa using h), fun h => hF.out.f12 (by simpa using h), fun h => hF.out.f13 (by simpa using h), fun h => hF.out.f14 (by simpa using h), fun h => hF.out.f15 (by simpa using h), fun h => hF.out.f16 (by simpa using h), fun h => hF.out.f17 (by simpa using h), hF.out.kp, fun h => hF.out.r0 (by simpa using h), fun h => hF.out.r1 (by simpa using h)⟩
        · intro d a W hI hd hdep
          obtain ⟨x5, x29, x30, x31, x32, x33, x34, x35, x36, x37, x38, x39, x40, x41, x42, x43, x44, rfl, hF⟩ := hI
          have hd9 : d 9 = true := dep_of hdep 9 (by kernel_rfl)
          obtain rfl := hF.out.f9 hd9
          have hkp := hF.out.kp
          have a0 := (hkp.cell (p := ⟨bw, h, none⟩) HC6.out.1 HC6.out.2.1).trans HC6.out.2.2
          clear hkp
          clear hdep hd hd9
          intro K hK
          simp only [Act.put, List.setIfInBounds_toArray, List.set_cons_zero, List.set_cons_succ]
          go_simp
          refine hK.out _ _ ⟨x5, x29, x30, x31, x32, x33, x34, x35, x36, x37, x38, (.pointer (some ⟨bw, h, none⟩)), (.int .u64 (vh.toNat : Int)), x41, x42, x43, x44, by simp only [Act.put, List.setIfInBounds_toArray, List.set_cons_zero, List.set_cons_succ], ?_⟩
          exact ⟨fun h => hF.out.f0 (by simpa using h), fun h => hF.out.f1 (by simpa using h), fun h => hF.out.f2 (by simpa using h), fun h => hF.out.f3 (by simpa using h), fun h => hF.out.f4 (by simpa using h), fun h => hF.out.f5 (by simpa using h), fun h => hF.out.f6 (by simpa using h), fun h => hF.out.f7 (by simpa using h), fun h => hF.out.f8 (by simpa using h), fun h => hF.out.f9 (by simpa using h), fun _ => rfl, fun h => hF.out.f11 (by simpa using h), fun h => hF.out.f12 (by simpa using h), fun h => hF.out.f13 (by simpa using h), fun h => hF.out.f14 (by simpa using h), fun h => hF.out.f15 (by simpa using h), fun h => hF.out.f16 (by simpa using h), fun h => hF.out.f17 (by simpa using h), hF.out.kp, fun h => hF.out.r0 (by simpa using h), fun h => hF.out.r1 (by simpa using h)⟩
        · intro d a W hI hd hdep
          obtain ⟨x5, x29, x30, x31, x32, x33, x34, x35, x36, x37, x38, x39, x40, x41, x42, x43, x44, rfl, hF⟩ := hI
          have hd2 : d 2 = true := dep_of hdep 2 (by kernel_rfl)
          have hd4 : d 4 = true := dep_of hdep 4 (by kernel_rfl)
          have hd10 : d 10 = true := dep_of hdep 10 (by kernel_rfl)
          obtain rfl := hF.out.f2 hd2
          obtain rfl := hF.out.f4 hd4
          obtain rfl := hF.out.f10 hd10
          have HKP : Hid (Fm (fun k => k = bs) wb W) := hF.out.kp
          have hcl := HC.out W HKP.out
          clear hdep hd hd2 hd4 hd10
          intro K hK
          simp only [Act.put, List.setIfInBounds_toArray, List.set_cons_zero, List.set_cons_succ]
          go_simp
          refine hcl.mono ?_
          rintro _ W1 ⟨rfl, hb1⟩
          have HB1 : Hid (Below W.heap.size W W1) := hb1
          clear hb1 hcl
          go_simp
          refine hK.out _ _ ⟨x5, x29, x30, x31, (.agg #[.int .i64 t, .int .i64 (n : Int), .slice (some ⟨b2, o, none⟩) ps.length c]), x33, (.slice uo l.length uc), x35, x36, x37, x38, x39, (.int .u64 (vh.toNat : Int)), (.tuple #[.int .u64 (x.toNat : Int), .int .i64 0]), x42, x43, x44, by simp only [Act.put, List.setIfInBounds_toArray, List.set_cons_zero, List.set_cons_succ], ?_⟩
          exact ⟨fun h => hF.out.f0 (by simpa using h), fun h => hF.out.f1 (by simpa using h), fun h => hF.out.f2 (by simpa using h), fun h => hF.out.f3 (by simpa using h), fun h => hF.out.f4 (by simpa using h), fun h => hF.out.f5 (by simpa using h), fun h => hF.out.f6 (by simpa using h), fun h => hF.out.f7 (by simpa using h), fun h => hF.out.f8 (by simpa using h), fun h => hF.out.f9 (by simpa using h), fun h => hF.out.f10 (by simpa using h), fun _ => rfl, fun h => hF.out.f12 (by simpa using h), fun h => hF.out.f13 (by simpa using h), fun h => hF.out.f14 (by simpa using h), fun h => hF.out.f15 (by simpa using h), fun h => hF.out.f16 (by simpa using h), fun h => hF.out.f17 (by simpa using h), HKP.out.trans (Fm.of HB1.out) (fun _ _ e => e), fun h => (hF.out.r0 (by simpa using h)).next HB1.out, fun h => (hF.out.r1 (by simpa using h)).next HB1.out⟩
        · intro d a W hI hd hdep
          obtain ⟨x5, x29, x30, x31, x32, x33, x34, x35, x36, x37, x38, x39, x40, x41, x42, x43, x44, rfl, hF⟩ := hI
          have hd11 : d 11 = true := dep_of hdep 11 (by kernel_rfl)
          obtain rfl := hF.out.f11 hd11
          clear hdep hd hd11
          intro K hK
          simp only [Act.put, List.setIfInBounds_toArray, List.set_cons_zero, List.set_cons_succ]
          go_simp
          refine hK.out _ _ ⟨x5, (.tuple #[.int .u64 (x.toNat : Int), .int .i64 0]), x30, x31, x32, x33, x34, x35, x36, x37, x38, x39, x40, (.tuple #[.int .u64 (x.toNat : Int), .int .i64 0]), x42, x43, x44, by simp only [Act.put, List.setIfInBounds_toArray, List.set_cons_zero, List.set_cons_succ], ?_⟩
          exact ⟨fun h => hF.out.f0 (by simpa using h), fun h => hF.out.f1 (by simpa using h), fun h => hF.out.f2 (by simpa using h), fun h => hF.out.f3 (by simpa using h), fun h => hF.out.f4 (by simpa using h), fun h => hF.out.f5 (by simpa using h), fun h => hF.out.f6 (by simpa using h), fun h => hF.out.f7 (by simpa using h), fun h => hF.out.f8 (by simpa using h), fun h => hF.out.f9 (by simpa using h), fun h => hF.out.f10 (by simpa using h), fun h => hF.out.f11 (by simpa using h), fun _ => rfl, fun h => hF.out.f13 (by simpa using h), fun h => hF.out.f14 (by simpa using h), fun h => hF.out.f15 (by simpa using h), fun h => hF.out.f16 (by simpa using h), fun h => hF.out.f17 (by simpa using h), hF.out.kp, fun h => hF.out.r0 (by simpa using h), fun h => hF.out.r1 (by simpa using h)⟩
        · intro d a W hI hd hdep
          obtain ⟨x5, x29, x30, x31, x32, x33, x34, x35, x36, x37, x38, x39, x40, x41, x42, x43, x44, rfl, hF⟩ := hI
          have hd12 : d 12 = true := dep_of hdep 12 (by kernel_rfl)
          obtain rfl := hF.out.f12 hd12
          clear hdep hd hd12
          intro K hK
          simp only [Act.put, List.setIfInBounds_toArray, List.set_cons_zero, List.set_cons_succ]
          go_simp
          refine hK.out _ _ ⟨x5, (.tuple #[.int .u64 (x.toNat : Int), .int .i64 0]), x30, x31, x32, x33, x34, x35, x36, x37, x38, x39, x40, x41, (.int .u64 (x.toNat : Int)), x43, x44, by simp only [Act.put, List.setIfInBounds_toArray, List.set_cons_zero, List.set_cons_succ], ?_⟩
          exact ⟨fun h => hF.out.f0 (by simpa using h), fun h => hF.out.f1 (by simpa using h), fun h => hF.out.f2 (by simpa using h), fun h => hF.out.f3 (by simpa using h), fun h => hF.out.f4 (by simpa using h), fun h => hF.out.f5 (by simpa using h), fun h => hF.out.f6 (by simpa using h), fun h => hF.out.f7 (by simpa using h), fun h => hF.out.f8 (by simpa using h), fun h => hF.out.f9 (by simpa using h), fun h => hF.out.f10 (by simpa using h), fun h => hF.out.f11 (by simpa using h), fun h => hF.out.f12 (by simpa using h), fun _ => rfl, fun h => hF.out.f14 (by simpa using h), fun h => hF.out.f15 (by simpa using h), fun h => hF.out.f16 (by simpa using h), fun h => hF.out.f17 (by simpa using h), hF.out.kp, fun h => hF.out.r0 (by simpa using h), fun h => hF.out.r1 (by simpa using h)⟩
        · intro d a W hI hd hdep
          obtain ⟨x5, x29, x30, x31, x32, x33, x34, x35, x36, x37, x38, x39, x40, x41, x42, x43, x44, rfl, hF⟩ := hI
          have hd12 : d 12 = true := dep_of hdep 12 (by kernel_rfl)
          obtain rfl := hF.out.f12 hd12
          clear hdep hd hd12
          intro K hK
          simp only [Act.put, List.setIfInBounds_toArray, List.set_cons_zero, List.set_cons_succ]
          go_simp
          refine hK.out _ _ ⟨x5, (.tuple #[.int .u64 (x.toNat : Int), .int .i64 0]), x30, x31, x32, x33, x34, x35, x36, x37, x38, x39, x40, x41, x42, (.int .i64 0), x44, by simp only [Act.put, List.setIfInBounds_toArray, List.set_cons_zero, List.set_cons_succ], ?_⟩
          exact ⟨fun h => hF.out.f0 (by simpa using h), fun h => hF.out.f1 (by simpa using h), fun h => hF.out.f2 (by simpa using h), fun h => hF.out.f3 (by simpa using h), fun h => hF.out.f4 (by simpa using h), fun h => hF.out.f5 (by simpa using h), fun h => hF.out.f6 (by simpa using h), fun h => hF.out.f7 (by simpa using h), fun h => hF.out.f8 (by simpa using h), fun h => hF.out.f9 (by simpa using h), fun h => hF.out.f10 (by simpa using h), fun h => hF.out.f11 (by simpa using h), fun h => hF.out.f12 (by simpa using h), fun h => hF.out.f13 (by simpa using h), fun _ => rfl, fun h => hF.out.f15 (by simpa using h), fun h => hF.out.f16 (by simpa using h), fun h => hF.out.f17 (by simpa using h), hF.out.kp, fun h => hF.out.r0 (by simpa using h), fun h => hF.out.r1 (by simpa using h)⟩
        · intro d a W hI hd hdep
          obtain ⟨x5, x29, x30, x31, x32, x33, x34, x35, x36, x37, x38, x39, x40, x41, x42, x43, x44, rfl, hF⟩ := hI
          have hd0 : d 0 = true := dep_of hdep 0 (by kernel_rfl)
          have hd1 : d 1 = true := dep_of hdep 1 (by kernel_rfl)
          obtain rfl := hF.out.f0 hd0
          obtain rfl := hF.out.f1 hd1
          clear hdep hd hd0 hd1
          intro K hK
          simp only [Act.put, List.setIfInBounds_toArray, List.set_cons_zero, List.set_cons_succ]
          go_simp
          refine hK.out _ _ ⟨x5, x29, (.slice (some ⟨bs, 0, none⟩) ps.length ps.length), (.int .i64 (q : Int)), x32, x33, x34, x35, x36, x37, x38, x39, x40, x41, x42, x43, (.pointer (some ⟨bs, q, none⟩)), by simp only [Act.put, List.setIfInBounds_toArray, List.set_cons_zero, List.set_cons_succ], ?_⟩
          exact ⟨fun h => hF.out.f0 (by simpa using h), fun h => hF.out.f1 (by simpa using h), fun h => hF.out.f2 (by simpa using h), fun h => hF.out.f3 (by simpa using h), fun h => hF.out.f4 (by simpa using h), fun h => hF.out.f5 (by simpa using h), fun h => hF.out.f6 (by simpa using h), fun h => hF.out.f7 (by simpa using h), fun h => hF.out.f8 (by simpa using h), fun h => hF.out.f9 (by simpa using h), fun h => hF.out.f10 (by simpa using h), fun h => hF.out.f11 (by simpa using h), fun h => hF.out.f12 (by simpa using h), fun h => hF.out.f13 (by simpa using h), fun h => hF.out.f14 (by simpa using h), fun _ => rfl, fun h => hF.out.f16 (by simpa using h), fun h => hF.out.f17 (by simpa using h), hF.out.kp, fun h => hF.out.r0 (by simpa using h), fun h => hF.out.r1 (by simpa using h)⟩
        · intro d a W hI hd hdep
          obtain ⟨x5, x29, x30, x31, x32, x33, x34, x35, x36, x37, x38, x39, x40, x41, x42, x43, x44, rfl, hF⟩ := hI
          have hd15 : d 15 = true := dep_of hdep 15 (by kernel_rfl)
          have hd13 : d 13 = true := dep_of hdep 13 (by kernel_rfl)
          obtain rfl := hF.out.f15 hd15
          obtain rfl := hF.out.f13 hd13
          have HKP : Hid (Fm (fun k => k = bs) wb W) := hF.out.kp
          have HR0 : Hid (Rw W bs ps.length (fun i => if i < q then sts ps E F V i else 0#64)) := hF.out.r0 hd
          have a0 := HR0.out.cell HLT.out
          have a1 := World.rowIs.frozen HR0.out q
          clear hdep hd hd15 hd13
          intro K hK
          simp only [Act.put, List.setIfInBounds_toArray, List.set_cons_zero, List.set_cons_succ]
          go_simp
          refine hK.out _ _ ⟨x5, x29, x30, x31, x32, x33, x34, x35, x36, x37, x38, x39, x40, x41, (.int .u64 (x.toNat : Int)), x43, (.pointer (some ⟨bs, q, none⟩)), by simp only [Act.put, List.setIfInBounds_toArray, List.set_cons_zero, List.set_cons_succ], ?_⟩
          exact ⟨fun h => hF.out.f0 (by simpa using h), fun h => hF.out.f1 (by simpa using h), fun h => hF.out.f2 (by simpa using h), fun h => hF.out.f3 (by simpa using h), fun h => hF.out.f4 (by simpa using h), fun h => hF.out.f5 (by simpa using h), fun h => hF.out.f6 (by simpa using h), fun h => hF.out.f7 (by simpa using h), fun h => hF.out.f8 (by simpa using h), fun h => hF.out.f9 (by simpa using h), fun h => hF.out.f10 (by simpa using h), fun h => hF.out.f11 (by simpa using h), fun h => hF.out.f12 (by simpa using h), fun h => hF.out.f13 (by simpa using h), fun h => hF.out.f14 (by simpa using h), fun h => hF.out.f15 (by simpa using h), fun _ => trivial, fun h => hF.out.f17 (by simpa using h), HKP.out.trans (Fm.set (X := fun k => k = bs) (b := bs) (i := q) _ rfl) (fun _ _ e => e), fun h => by simp at h, fun _ => HPUT.out W HR0.out⟩
        · intro d a W hI hd hdep
          obtain ⟨x5, x29, x30, x31, x32, x33, x34, x35, x36, x37, x38, x39, x40, x41, x42, x43, x44, rfl, hF⟩ := hI
          have hd14 : d 14 = true := dep_of hdep 14 (by kernel_rfl)
          have hd16 : d 16 = true := dep_of hdep 16 (by kernel_rfl)
          obtain rfl := hF.out.f14 hd14
          have e16 := hd16
          clear hdep hd hd14 hd16
          intro K hK
          simp only [Act.put, List.setIfInBounds_toArray, List.set_cons_zero, List.set_cons_succ]
          go_simp
          refine hK.out _ _ ⟨(.int .i64 0), x29, x30, x31, x32, x33, x34, x35, x36, x37, x38, x39, x40, x41, x42, (.int .i64 0), x44, by simp only [Act.put, List.setIfInBounds_toArray, List.set_cons_zero, List.set_cons_succ], ?_⟩
          exact ⟨fun h => hF.out.f0 (by simpa using h), fun h => hF.out.f1 (by simpa using h), fun h => hF.out.f2 (by simpa using h), fun h => hF.out.f3 (by simpa using h), fun h => hF.out.f4 (by simpa using h), fun h => hF.out.f5 (by simpa using h), fun h => hF.out.f6 (by simpa using h), fun h => hF.out.f7 (by simpa using h), fun h => hF.out.f8 (by simpa using h), fun h => hF.out.f9 (by simpa using h), fun h => hF.out.f10 (by simpa using h), fun h => hF.out.f11 (by simpa using h), fun h => hF.out.f12 (by simpa using h), fun h => hF.out.f13 (by simpa using h), fun h => hF.out.f14 (by simpa using h), fun h => hF.out.f15 (by simpa using h), fun h => hF.out.f16 (by simpa using h), fun _ => rfl, hF.out.kp, fun h => hF.out.r0 (by simpa using h), fun h => hF.out.r1 (by simpa using h)⟩
      · intro d a W hI hall
        obtain ⟨x5, x29, x30, x31, x32, x33, x34, x35, x36, x37, x38, x39, x40, x41, x42, x43, x44, rfl, hF⟩ := hI
        simp only [List.length_cons, List.length_nil] at hall
        obtain rfl := hF.out.f0 (hall 0 (by omega))
        obtain rfl := hF.out.f1 (hall 1 (by omega))
        obtain rfl := hF.out.f2 (hall 2 (by omega))
        obtain rfl := hF.out.f3 (hall 3 (by omega))
        obtain rfl := hF.out.f4 (hall 4 (by omega))
        obtain rfl := hF.out.f5 (hall 5 (by omega))
        obtain rfl := hF.out.f6 (hall 6 (by omega))
        obtain rfl := hF.out.f7 (hall 7 (by omega))
        obtain rfl := hF.out.f8 (hall 8 (by omega))
        obtain rfl := hF.out.f9 (hall 9 (by omega))
        obtain rfl := hF.out.f10 (hall 10 (by omega))
        obtain rfl := hF.out.f11 (hall 11 (by omega))
        obtain rfl := hF.out.f12 (hall 12 (by omega))
        obtain rfl := hF.out.f13 (hall 13 (by omega))
        obtain rfl := hF.out.f14 (hall 14 (by omega))
        obtain rfl := hF.out.f15 (hall 15 (by omega))
        obtain rfl := hF.out.f17 (hall 17 (by omega))
        have HT5 : Hid (TI w t n (.slice (some ⟨b2, o, none⟩) ps.length c) ps be bf bw br bm cf bs E F V R M (q + 1) W) := HT2.out.fm HP.out hF.out.kp (hF.out.r1 (hall 16 (by omega)))
        clear hF hall
        simp only [Act.put, List.setIfInBounds_toArray, List.set_cons_zero, List.set_cons_succ]
        go_wp2_with fail
        go_roundw
        case rel => exact ⟨q + 1, by omega, by go_num, HT5⟩
        case measure => simp [intOf]; omega
    · clear hcs
      have HTE : Hid (TKW w ps bs (sts ps E F V) wr) := by
        refine ⟨HT.out.gb.below, HT.out.ge, World.rowIs.congr HT.out.rs fun i hi => ?_, E, F, V, R, M, HFA.out, rfl⟩
        have : i < q := by omega
        simp [this]
      clear HT
      go_wp2_with fail
      go_ret2
      exact ⟨bs, sts ps E F V, by simp, HTE.out⟩
end Go.Proofs.Ytpbnnmfjahckmaa
