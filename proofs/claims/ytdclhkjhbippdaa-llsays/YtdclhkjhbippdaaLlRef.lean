/-
  The contract of pushref.Ll.
-/
import Derived.Test.YtdclhkjhbippdaaLlHold2
namespace Go.Proofs.Ytdclhkjhbippdaa
open Go.RowKit
open Cg

theorem step_call_append {P : Program} {ops : Array Oper} {o : Oper} {a : Act} {K : Act → World → Prop} {Q : Exit → Act → World → Prop} {E : Prop} {W W1 : World} {v sv xv : Value} (hgd : o.guard = none) (s x : Operand) (t : TypeId) (ho : o.op = .call { callee := .builtin .append, args := #[s, x], argTypes := #[t, t] })
    (hs : a.eval s = sv) (hx : a.eval x = xv) (hr : (Builtin.append_ #[t, t] o.type #[sv, xv]).run P W = .ok v W1) (h : K (a.put o.dst v) W1) : if Region.wanted o (yielded ops a.tmps) = true then Oper.wp P o a W K Q else E := by
  have hw : Region.wanted o (yielded ops a.tmps) = true := by simp [Region.wanted, hgd]
  rw [if_pos hw]
  unfold Oper.wp
  simp [execOp, ho, resolve, invoke, builtin, hs, hx, hr, Result.andThen]
  exact h
theorem info_parts35 : ∃ i, Try.prog.info? 35 = some i ∧ i.zero = some (.slice none 0 0) ∧ i.size = 1 ∧ i.bytes = 24 := by
  have h := info35
  cases e : Try.prog.info? 35 with
  | none => rw [e] at h; cases h
  | some i => rw [e] at h; simp at h; exact ⟨i, rfl, h.1, h.2.1, h.2.2⟩
/-- The list that Ll makes of what may be taken. -/
def orM (l : List Int) : List Int := if l = [] then [-1] else l
theorem orM_nil : orM [] = [-1] := if_pos rfl
theorem orM_ne {l : List Int} (h : l ≠ []) : orM l = l := if_neg h
theorem orM_hd (l : List Int) : (orM l)[0]? = some (hdI l) := by
  cases l with
  | nil => rfl
  | cons a l => rfl
theorem orM_tl (l : List Int) : (orM l).tail = l.tail := by
  cases l with
  | nil => rfl
  | cons a l => rfl
theorem orM_len (l : List Int) : (orM l).length = l.tail.length + 1 := by
  cases l with
  | nil => rfl
  | cons a l => rfl
theorem orM_at (l : List Int) (j : Nat) (h : j < l.tail.length) : (orM l)[j + 1]? = some l.tail[j] := by
  cases l with
  | nil => simp at h
  | cons a l => show (a :: l)[j + 1]? = _; rw [List.getElem?_cons_succ, List.getElem?_eq_getElem (by simpa using h)]; rfl
structure RLl (w : World) (T n : Nat) (pvv : Value) (ps : List Pd) (be bf bw br bm cf : Nat) (E : Nat → Bool) (F V : Nat → Wd) (R M : Nat → Bool) (ra : Option Addr) (rn rc : Nat) (us : List Value) (RL : List (List Int)) (vo : Option Addr) (vn vc : Nat) (CC : List Cl) (BB : Nat) (xo : Option Addr) (xn xc : Nat) (X : List Int) (B2 mb mn mc : Nat) (Y : List Int) (k col j : Nat) (h0d z : Int) (cb : Nat) (na : Option Addr) (nn : Nat) (nc : Nat) (d : Nat → Bool) (x6 x80 x81 x82 x83 x84 x85 x86 x87 x88 x89 x90 x91 x92 : Value) (W : World) : Prop where
  f0 : d 0 = true → x80 = (.slice vo vn vc)
  f1 : d 1 = true → x81 = (.int .i64 (k : Int))
  f2 : d 2 = true → x82 = (.int .i64 (col : Int))
  f3 : d 3 = true → x83 = (.slice (some ⟨mb, 0, none⟩) mn mc)
  f4 : d 4 = true → x84 = (.pointer (some ⟨mb, 0, none⟩))
  f5 : d 5 = true → x85 = (.int .i64 h0d)
  f6 : d 6 = true → x86 = (.slice (some ⟨mb, 0, none⟩) mn mc)
  f7 : d 7 = true → x87 = (.int .i64 (j : Int))
  f8 : d 8 = true → x88 = (.pointer (some ⟨mb, j, none⟩))
  f9 : d 9 = true → x89 = (.int .i64 z)
  f10 : d 10 = true → x90 = (.agg #[.int .i64 (k : Int), .int .i64 (col : Int), .int .i64 h0d, .int .i64 z])
  f11 : d 11 = true → x91 = (.slice (some ⟨cb, 0, none⟩) 1 1)
  f12 : d 12 = true → x92 = (.slice na nn nc)
  f13 : d 13 = true → x6 = (.slice na nn nc)
  m : W.ownsRow B2 3 1 (.slice (some ⟨mb, 0, none⟩) mn mc) Y.length (Y.map (Value.int .i64))
  s6 : d 13 = false → (.slice vo vn vc) = x6
  o13 : d 13 = true → d 0 = true
  o1312 : d 13 = true → d 12 = true
  o12 : d 12 = true → d 11 = true
  o120 : d 12 = true → d 0 = true
  l0 : d 12 = false → LX w T n pvv ps be bf bw br bm cf E F V R M (.slice ra rn rc) us RL (.slice vo vn vc) CC BB (.slice xo xn xc) X B2 (.slice (some ⟨mb, 0, none⟩) mn mc) Y W
  bs : d 11 = true → d 12 = false → ∀ j u, ([.int .i64 (k : Int), .int .i64 (col : Int), .int .i64 h0d, .int .i64 z] : List Value)[j]? = some u → W.cell? ⟨cb, j, none⟩ = some u
  l1 : d 12 = true → LX w T n pvv ps be bf bw br bm cf E F V R M (.slice ra rn rc) us RL (.slice na nn nc) (CC ++ [((k : Int), (col : Int), h0d, z)]) BB (.slice xo xn xc) X B2 (.slice (some ⟨mb, 0, none⟩) mn mc) Y W

set_option maxHeartbeats 16000000 in
set_option maxRecDepth 20000 in
theorem Ll_any (T n : Nat) (pv : Value) (ps : List Pd) (w : World) (hp : Pds w pv ps) (hk : chk (T : Int) (n : Int) ps = 0) :
    Calls Try.prog 8 #[.agg #[.int .i64 (T : Int), .int .i64 (n : Int), pv]] w fun e w' => ∃ ra rn rc vo vn vc, e = .returned (.tuple #[.slice ra rn rc, .slice vo vn vc]) ∧ LO w T n ps (.slice ra rn rc) (.slice vo vn vc) w' := by
  obtain ⟨i0, hi, hz0, hz1, hz2⟩ := info_parts39
  have H39 : Hid (Try.prog.info? 39 = some i0 ∧ i0.zero = some (.agg #[.int .i64 0, .int .i64 0, .int .i64 0, .int .i64 0]) ∧ i0.size = 4 ∧ i0.bytes = 32) := ⟨hi, hz0, hz1, hz2⟩
  obtain ⟨i3, hi3, hz3, hs3, hb3⟩ := info_parts3
  obtain ⟨i5, hi5, hz5, hs5, hb5⟩ := info_parts35
  have HP : Hid (Pds w pv ps) := hp
  have HGB := Gb.box hp (T : Int) (n : Int)
  obtain ⟨ao, c, rfl, hm, hcs⟩ := hp
  have HG0 : Hid (Gb w w.heap.size (T : Int) (n : Int) (.slice ao ps.length c) ps (w.alloc (Obj.cells #[.int .i64 (T : Int), .int .i64 (n : Int), (.slice ao ps.length c)] 24))) := HGB
  have HK : Hid (chk (T : Int) (n : Int) ps = 0) := hk
  have HRG : Hid (Rg (T : Int) n ps) := rg_of hk
  have HT : Hid (T ≤ 30 ∧ n ≤ 20 ∧ ps.length ≤ 40) := ⟨by have := HRG.out.t2; omega, HRG.out.n2, HRG.out.ln⟩
  have hcall := AllFacts_any (T : Int) n _ ps _ HG0.out.pds hk
  clear HGB hk hi hz0 hz1 hz2
  go_enter Try.func8, Try.ntmps8
  go_wp2_with fail
  refine hcall.mono ?_
  rintro _ w1 ⟨be, bf, bw, br, bm, rfl, hb1, E, F, V, R, M, hfx, hfa⟩
  have HFA : Hid (Fa ps E F V R M) := hfa
  have hbx := row_vals5 w1 (.slice (some ⟨be, 0, none⟩) n n) (.slice (some ⟨bf, 0, none⟩) n n) (.slice (some ⟨bw, 0, none⟩) n n) (.slice (some ⟨br, 0, none⟩) n n) (.slice (some ⟨bm, 0, none⟩) n n)
  have hba := below_alloc w1 (Obj.cells #[.slice (some ⟨be, 0, none⟩) n n, .slice (some ⟨bf, 0, none⟩) n n, .slice (some ⟨bw, 0, none⟩) n n, .slice (some ⟨br, 0, none⟩) n n, .slice (some ⟨bm, 0, none⟩) n n] 55)
  obtain ⟨w2, HW2⟩ : ∃ w2, Hid (w1.alloc (Obj.cells #[.slice (some ⟨be, 0, none⟩) n n, .slice (some ⟨bf, 0, none⟩) n n, .slice (some ⟨bw, 0, none⟩) n n, .slice (some ⟨br, 0, none⟩) n n, .slice (some ⟨bm, 0, none⟩) n n] 55) = w2) := ⟨_, (rfl : _ = _)⟩
  rw [HW2.out] at hbx hba
  obtain ⟨cf, HCF⟩ : ∃ cf, Hid (w1.heap.size = cf) := ⟨_, (rfl : w1.heap.size = w1.heap.size)⟩
  rw [HCF.out] at hbx
  have HLR0 : Hid (LR w T n (.slice ao ps.length c) ps be bf bw br bm cf E F V R M (.slice none 0 0) [] [] (.slice none 0 0) [] w2) := ⟨(HG0.out.next hb1).next hba, hfx.next hba, hbx, World.ownsRow_nil _ _ _ _, rfl, fun i hi => by simp at hi, World.ownsRow_nil _ _ _ _, HP.out⟩
  clear hb1 hcall HG0 hfx hbx hba hfa
  go_upto_region 2 with (fail)
  rw [HW2.out, HCF.out]
  clear HW2 HCF
  go_wp2_with fail
  go_loopw [5, 6, 7] (fun rs cs i wr => ∃ (k : Nat) (ra : Option Addr) (rn rc : Nat) (vo : Option Addr) (vn vc : Nat), k ≤ n ∧ rs = .slice ra rn rc ∧ cs = .slice vo vn vc ∧ i = .int .i64 (k : Int) ∧ Hid (∃ us, LR w T n (.slice ao ps.length c) ps be bf bw br bm cf E F V R M (.slice ra rn rc) us (rowsL ps (sts ps E F V) T k) (.slice vo vn vc) (clsN ps (sts ps E F V) T k) wr)) (fun _ _ i _ => n - (intOf i).toNat)
  case atStart => exact ⟨0, none, 0, 0, none, 0, 0, by omega, rfl, rfl, rfl, _, HLR0.out⟩
  case round =>
    obtain ⟨k, ra, rn, rc, vo, vn, vc, hk, rfl, rfl, rfl, HLK⟩ := hrel
    clear HLR0
    obtain ⟨us, hlr⟩ := HLK.out
    have z1 := hlr.gb.c1
    by_cases hlt : k < n
    · have HLT : Hid (k < n) := hlt
      obtain ⟨BB, HBB⟩ : ∃ BB, Hid (wr.heap.size = BB) := ⟨_, (rfl : wr.heap.size = wr.heap.size)⟩
      have HSP : Hid (Sp us BB) := by rw [← HBB.out]; exact hlr.sp
      have HSZ0 : Hid (BB ≤ wr.heap.size) := by rw [← HBB.out]; exact Nat.le_refl _
      have HBL : Hid (w.heap.size + 1 ≤ BB) := by rw [← HBB.out]; exact hlr.gb.lt
      obtain ⟨RL, HRL⟩ : ∃ RL, Hid (rowsL ps (sts ps E F V) T k = RL) := ⟨_, (rfl : _ = _)⟩
      have HLR1 : Hid (LR w T n (.slice ao ps.length c) ps be bf bw br bm cf E F V R M (.slice ra rn rc) us RL (.slice vo vn vc) (clsN ps (sts ps E F V) T k) wr) := by rw [← HRL.out]; exact hlr
      have hk1 : (k : Int) < (n : Int) := by omega
      clear hlr HLK hlt HBB
      go_wp2_with fail
      clear z1 hk1
      go_loopw [6, 8, 9] (fun cs xs i wr => ∃ (col : Nat) (vo : Option Addr) (vn vc : Nat) (xo : Option Addr) (xn xc : Nat), col ≤ T + 1 ∧ cs = .slice vo vn vc ∧ xs = .slice xo xn xc ∧ i = .int .i64 (col : Int) ∧ Hid (LR w T n (.slice ao ps.length c) ps be bf bw br bm cf E F V R M (.slice ra rn rc) us RL (.slice vo vn vc) (clsN ps (sts ps E F V) T k ++ clsR ps (sts ps E F V) T k col) wr ∧ wr.ownsRow BB 3 1 (.slice xo xn xc) (rowL ps (sts ps E F V) T k col).length ((rowL ps (sts ps E F V) T k col).map (Value.int .i64)) ∧ BB ≤ wr.heap.size)) (fun _ _ i _ => T + 1 - (intOf i).toNat)
      case atStart =>
        refine ⟨0, vo, vn, vc, none, 0, 0, by omega, rfl, rfl, rfl, ?_, World.ownsRow_nil _ _ _ _, HSZ0.out⟩
        rw [show clsN ps (sts ps E F V) T k ++ clsR ps (sts ps E F V) T k 0 = clsN ps (sts ps E F V) T k by simp [clsR]]; exact HLR1.out
      case round =>
        clear HLR1
        obtain ⟨col, vo, vn, vc, xo, xn, xc, hcol, rfl, rfl, rfl, HLM⟩ := hrel
        have z0 := HLM.out.1.gb.c0
        by_cases hcl : col < T + 1
        · have HCL : Hid (col < T + 1) := hcl
          have hc1 : (col : Int) ≤ (T : Int) := by omega
          obtain ⟨B2, HB2⟩ : ∃ B2, Hid (wr.heap.size = B2) := ⟨_, (rfl : wr.heap.size = wr.heap.size)⟩
          obtain ⟨X, HX⟩ : ∃ X, Hid (rowL ps (sts ps E F V) T k col = X) := ⟨_, (rfl : _ = _)⟩
          obtain ⟨C, HC⟩ : ∃ C, Hid (clsN ps (sts ps E F V) T k ++ clsR ps (sts ps E F V) T k col = C) := ⟨_, (rfl : _ = _)⟩
          rw [HX.out, HC.out] at HLM
          have HXB : Hid (∀ q, Value.ownBlock (.slice xo xn xc) = some q → q < B2) := fun q hq => by rw [← HB2.out]; exact (HLM.out.2.1.lt q hq).2
          have HBL2 : Hid (BB ≤ B2) := by rw [← HB2.out]; exact HLM.out.2.2
          have HLX0 : Hid (LX w T n (.slice ao ps.length c) ps be bf bw br bm cf E F V R M (.slice ra rn rc) us RL (.slice vo vn vc) C BB (.slice xo xn xc) X B2 (.slice none 0 0) [] wr) := ⟨HLM.out.1, HSP.out, HLM.out.2.1, World.ownsRow_nil _ _ _ _, HBL.out, HBL2.out, by rw [HB2.out]; exact Nat.le_refl _⟩
          clear HLM HB2 hcl
          go_wp2_with fail
          clear z0
          go_loopw [10, 11] (fun ms i wr => ∃ (q : Nat) (mo : Option Addr) (mn mc : Nat), q ≤ ps.length ∧ ms = .slice mo mn mc ∧ i = .int .i64 (q : Int) ∧ Hid (LX w T n (.slice ao ps.length c) ps be bf bw br bm cf E F V R M (.slice ra rn rc) us RL (.slice vo vn vc) C BB (.slice xo xn xc) X B2 (.slice mo mn mc) (mayQ ps (sts ps E F V) T k col q) wr)) (fun _ i _ => ps.length - (intOf i).toNat)
          case atStart => exact ⟨0, none, 0, 0, by omega, rfl, rfl, HLX0⟩
          case round =>
            clear HLX0
            obtain ⟨q, mo, mn, mc, hq, rfl, rfl, HLXr⟩ := hrel
            have z2 := HLXr.out.lr.gb.c2
            obtain ⟨Y, HY⟩ : ∃ Y, Hid (mayQ ps (sts ps E F V) T k col q = Y) := ⟨_, (rfl : _ = _)⟩
            rw [HY.out] at HLXr
            by_cases hlt : q < ps.length
            · obtain ⟨b2, o, rfl, hb, hc⟩ := hcs.resolve_left (by intro e; subst e; simp at hlt)
              obtain ⟨c0, u, c1, hu⟩ := hc q hlt
              have HMB : Hid (mayB ps (sts ps E F V) T k col q = (decide (ps[q].1 = (k : Int)) && ((sts ps E F V) q).getLsbD (bc T col))) := mayB_at hlt
              have HST : Hid (ps[q].1 = (k : Int) → (sts ps E F V) q = bg E F ps[q].2 (V k)) := fun e => by rw [sts_at hlt, e]; rfl
              have HOKL : Hid (OkL (T : Int) n ps[q].2) := HRG.out.ok q hlt
              generalize ps[q].2 = l at hu HST HOKL
              generalize ps[q].1 = h at c0 HMB HST
              obtain ⟨uo, uc, rfl, hul, huc⟩ := hu
              have HU : Hid (Syms w (.slice uo l.length uc) l) := ⟨uo, uc, rfl, hul, huc⟩
              have HLX : Hid (LX w T n (.slice (some ⟨b2, o, none⟩) ps.length c) ps be bf bw br bm cf E F V R M (.slice ra rn rc) us RL (.slice vo vn vc) C BB (.slice xo xn xc) X B2 (.slice mo mn mc) Y wr) := HLXr.out
              have hne : Nonempty (Kp (Sb wr)) := ⟨⟨_, Sb.drew wr⟩⟩
              have y0 : ∀ p : Kp (Sb wr), p.W.cell? ⟨b2, o + q * 2, none⟩ = some (.int .i64 h) := fun p => ((HLX.out.next p.h).lr.gb.below.cell (p := ⟨b2, o + q * 2, none⟩) hb).trans c0
              have y1 : ∀ p : Kp (Sb wr), p.W.cell? ⟨b2, o + q * 2 + 1, none⟩ = some (.slice uo l.length uc) := fun p => ((HLX.out.next p.h).lr.gb.below.cell (p := ⟨b2, o + q * 2 + 1, none⟩) hb).trans c1
              have k0 : ∀ p : Kp (Sb wr), p.W.cell? ⟨w.heap.size, 0, none⟩ = some (.int .i64 (T : Int)) := fun p => (HLX.out.next p.h).lr.gb.c0
              have k1 : ∀ p : Kp (Sb wr), p.W.cell? ⟨w.heap.size, 1, none⟩ = some (.int .i64 (n : Int)) := fun p => (HLX.out.next p.h).lr.gb.c1
              have k2 : ∀ p : Kp (Sb wr), p.W.cell? ⟨w.heap.size, 2, none⟩ = some (.slice (some ⟨b2, o, none⟩) ps.length c) := fun p => (HLX.out.next p.h).lr.gb.c2
              have k3 : ∀ p : Kp (Sb wr), p.W.cell? ⟨cf, 0, none⟩ = some (.slice (some ⟨be, 0, none⟩) n n) := fun p => (HLX.out.next p.h).lr.bx.cell (i := 0) (by omega)
              have k4 : ∀ p : Kp (Sb wr), p.W.cell? ⟨cf, 1, none⟩ = some (.slice (some ⟨bf, 0, none⟩) n n) := fun p => (HLX.out.next p.h).lr.bx.cell (i := 1) (by omega)
              have k5 : ∀ p : Kp (Sb wr), p.W.cell? ⟨cf, 2, none⟩ = some (.slice (some ⟨bw, 0, none⟩) n n) := fun p => (HLX.out.next p.h).lr.bx.cell (i := 2) (by omega)
              have k6 : ∀ p : Kp (Sb wr), p.W.cell? ⟨cf, 3, none⟩ = some (.slice (some ⟨br, 0, none⟩) n n) := fun p => (HLX.out.next p.h).lr.bx.cell (i := 3) (by omega)
              have k7 : ∀ p : Kp (Sb wr), p.W.cell? ⟨cf, 4, none⟩ = some (.slice (some ⟨bm, 0, none⟩) n n) := fun p => (HLX.out.next p.h).lr.bx.cell (i := 4) (by omega)
              obtain ⟨vk, HVK⟩ : ∃ x, Hid (V k = x) := ⟨_, (rfl : _ = _)⟩
              have k8 : ∀ p : Kp (Sb wr), p.W.cell? ⟨bw, k, none⟩ = some (.int .u64 (vk.toNat : Int)) := fun p => by rw [← HVK.out]; exact (HLX.out.next p.h).lr.fx.v.cell HLT.out
              obtain ⟨x, HXB2⟩ : ∃ x, Hid (bg E F l vk = x) := ⟨_, (rfl : _ = _)⟩
              obtain ⟨bt, HBT⟩ : ∃ bt, Hid (x.getLsbD (bc T col) = bt) := ⟨_, (rfl : _ = _)⟩
              have HC1 : Hid (∀ p : Kp (Sb wr), Calls Try.prog 19 #[.agg #[.slice (some ⟨be, 0, none⟩) n n, .slice (some ⟨bf, 0, none⟩) n n, .slice (some ⟨bw, 0, none⟩) n n, .slice (some ⟨br, 0, none⟩) n n, .slice (some ⟨bm, 0, none⟩) n n], .slice uo l.length uc, .int .u64 (vk.toNat : Int)] p.W fun e w'' => e = .returned (.int .u64 (x.toNat : Int)) ∧ ∃ q : Kp (Sb wr), w'' = q.W) := fun p => by
                have hl := (HLX.out.next p.h).lr
                have := refBegin_any (T : Int) (by have := HT.out; omega) n be bf E F (.slice (some ⟨bw, 0, none⟩) n n) (.slice (some ⟨br, 0, none⟩) n n) (.slice (some ⟨bm, 0, none⟩) n n) vk l _ p.W (HU.out.below hl.gb.below) hl.fx.e hl.fx.f HOKL.out
                rw [HXB2.out] at this
                exact Kp.calls p Sb.next this
              have HC2 : Hid (∀ p : Kp (Sb wr), Calls Try.prog 18 #[.agg #[.int .i64 (T : Int), .int .i64 (n : Int), (.slice (some ⟨b2, o, none⟩) ps.length c)], .int .u64 (x.toNat : Int), .int .i64 (col : Int)] p.W fun e w'' => e = .returned (.bool bt) ∧ ∃ q : Kp (Sb wr), w'' = q.W) := fun p => by
                have := Col_any T col HT.out.1 (by have := HCL.out; omega) (n : Int) (.slice (some ⟨b2, o, none⟩) ps.length c) x p.W ⟨_, _, _, rfl⟩
                rw [HBT.out] at this
                exact Kp.calls p Sb.next this
              have hq0 : (0 : Int) ≤ (q : Int) := by omega
              have hq1 : (q : Int) < (ps.length : Int) := by omega
              have hn0 : (0 : Int) ≤ (k : Int) := by omega
              have hn1 : (k : Int) < (n : Int) := by have := HLT.out; omega
              clear hcs hc HLXr huc hlt
              by_cases hh : h = (k : Int)
              · have b0 : (h == (k : Int)) = true := by simp [hh]
                have HM2 : Hid (mayB ps (sts ps E F V) T k col q = bt) := by
                  show _ = _
                  rw [HMB.out, decide_eq_true hh, Bool.true_and, HST.out hh, HVK.out, HXB2.out, HBT.out]
                clear hh HMB HST HBT HXB2 HVK
                cases bt with
                | false =>
                  have HNX : Hid (mayQ ps (sts ps E F V) T k col (q + 1) = Y) := by show _ = _; rw [mayQ_false HM2.out, HY.out]
                  clear HM2 HY
                  go_wp2_with fail
                  refine wp_region_kept mixed (by kernel_rfl) (Sb.drew wr) ?_
                  repeat (go_big_quiet_step (first | (go_at_call 19; with_reducible exact HC1.out _) | (go_at_call 18; with_reducible exact HC2.out _)))
                  refine wpQuiet_nil ?_
                  intro W2 hw2
                  obtain ⟨p2, rfl⟩ := hw2
                  have HLX2 : Hid (LX w T n (.slice (some ⟨b2, o, none⟩) ps.length c) ps be bf bw br bm cf E F V R M (.slice ra rn rc) us RL (.slice vo vn vc) C BB (.slice xo xn xc) X B2 (.slice mo mn mc) Y p2.W) := HLX.out.next p2.h
                  generalize p2.W = w2 at HLX2 ⊢
                  clear y0 y1 k0 k1 k2 k3 k4 k5 k6 k7 k8 HC1 HC2 hne HLX p2
                  go_wp2_with fail
                  go_roundw
                  case rel => exact ⟨q + 1, mo, mn, mc, by omega, rfl, by go_num, by rw [HNX.out]; exact HLX2.out⟩
                  case measure => simp [intOf]; omega
                | true =>
                  have HNX : Hid (mayQ ps (sts ps E F V) T k col (q + 1) = Y ++ [(q : Int)]) := by show _ = _; rw [mayQ_true HM2.out, HY.out]
                  have HLE : Hid (Y.length ≤ q) := by show _ ≤ _; rw [← HY.out]; exact mayQ_length _ _ _ _ _ _
                  clear HM2 HY
                  go_wp2_with fail
                  refine wp_region_kept mixed (by kernel_rfl) (Sb.drew wr) ?_
                  repeat (go_big_quiet_step (first | (go_at_call 19; with_reducible exact HC1.out _) | (go_at_call 18; with_reducible exact HC2.out _)))
                  refine wpQuiet_nil ?_
                  intro W2 hw2
                  obtain ⟨p2, rfl⟩ := hw2
                  have HLX2 : Hid (LX w T n (.slice (some ⟨b2, o, none⟩) ps.length c) ps be bf bw br bm cf E F V R M (.slice ra rn rc) us RL (.slice vo vn vc) C BB (.slice xo xn xc) X B2 (.slice mo mn mc) Y p2.W) := HLX.out.next p2.h
                  generalize p2.W = w2 at HLX2 ⊢
                  clear y0 y1 k0 k1 k2 k3 k4 k5 k6 k7 k8 HC1 HC2 hne HLX p2
                  have HSW : Hid (B2 ≤ w2.heap.size) := HLX2.out.sz
                  have HO : Hid (w2.ownsRow B2 3 1 (.slice mo mn mc) Y.length (Y.map (Value.int .i64))) := HLX2.out.m
                  have hsw := HSW.out
                  have hyl : Y.length ≤ 40 := by have := HLE.out; have := HT.out; omega
                  go_wp2_with (at_builtin; refine wpList_append_own _ rfl _ _ 35 rfl B2 3 i3 (.int .i64 0) 1 8 Try.underlying35 hi3 hz3 hs3 hb3 rfl (by decide) _ _ _ rfl (HO.out.alloc _) ⟨w2.heap.size, 0, none⟩ 1 1 [.int .i64 (q : Int)] rfl rfl (World.news_of_block (t := 3) (fr := (0, 0)) (heap_alloc_new w2 _)) (by simp [Value.oneCell']) (by unfold maxLen; omega) (by omega) (by simp; omega) ?_)
                  intro v' w4 hown' hgrow _
                  have HL4 : Hid (LX w T n (.slice (some ⟨b2, o, none⟩) ps.length c) ps be bf bw br bm cf E F V R M (.slice ra rn rc) us RL (.slice vo vn vc) C BB (.slice xo xn xc) X B2 v' (Y ++ [(q : Int)]) w4) := (HLX2.out.next (below_alloc w2 _)).may HXB.out hgrow (by rw [List.length_append, List.map_append]; exact hown')
                  obtain ⟨v'a, v'n, v'c, rfl⟩ := own_form hown'
                  clear hown' hgrow HLX2 HO HSW hsw
                  go_wp2_with fail
                  go_roundw
                  case rel => exact ⟨q + 1, v'a, v'n, v'c, by omega, rfl, by go_num, by rw [HNX.out]; exact HL4.out⟩
                  case measure => simp [intOf]; omega
              · have b0 : (h == (k : Int)) = false := by simp [hh]
                have HNX : Hid (mayQ ps (sts ps E F V) T k col (q + 1) = Y) := by
                  show _ = _
                  rw [mayQ_false (by rw [HMB.out, decide_eq_false hh, Bool.false_and]), HY.out]
                clear hh HMB HST HBT HXB2 HVK HY
                go_wp2_with fail
                refine wp_region_kept mixed (by kernel_rfl) (Sb.drew wr) ?_
                repeat (go_big_quiet_step (first | (go_at_call 19; with_reducible exact HC1.out _) | (go_at_call 18; with_reducible exact HC2.out _)))
                refine wpQuiet_nil ?_
                intro W2 hw2
                obtain ⟨p2, rfl⟩ := hw2
                have HLX2 : Hid (LX w T n (.slice (some ⟨b2, o, none⟩) ps.length c) ps be bf bw br bm cf E F V R M (.slice ra rn rc) us RL (.slice vo vn vc) C BB (.slice xo xn xc) X B2 (.slice mo mn mc) Y p2.W) := HLX.out.next p2.h
                generalize p2.W = w2 at HLX2 ⊢
                clear y0 y1 k0 k1 k2 k3 k4 k5 k6 k7 k8 HC1 HC2 hne HLX p2
                go_wp2_with fail
                go_roundw
                case rel => exact ⟨q + 1, mo, mn, mc, by omega, rfl, by go_num, by rw [HNX.out]; exact HLX2.out⟩
                case measure => simp [intOf]; omega
            · have HYE : Hid (mayL ps (sts ps E F V) T k col = Y) := by show _ = _; rw [← HY.out, show q = ps.length by omega]; rfl
              have HYL : Hid (Y.length ≤ 40) := by show _ ≤ _; rw [← HYE.out]; have := mayL_le ps (sts ps E F V) T k col; have := HT.out; omega
              have hyl := HYL.out
              have HXL : Hid (X.length ≤ 31) := by show _ ≤ _; rw [← HX.out, rowL_length]; have := HCL.out; have := HT.out; omega
              obtain rfl : mn = Y.length := own_len HLXr.out.m
              have hqn : ¬ (q : Int) < (ps.length : Int) := by omega
              clear hcs hlt HY
              by_cases hYn : Y = []
              · subst hYn
                have HOR0 : Hid (orM (mayL ps (sts ps E F V) T k col) = [-1]) := by show _ = _; rw [HYE.out]; rfl
                have b0 : (((0 : Nat) : Int) == 0) = true := rfl
                have hba := below_alloc wr (Obj.cells #[.int .i64 (-1)] 3)
                have HLX1 : Hid (LX w T n (.slice ao ps.length c) ps be bf bw br bm cf E F V R M (.slice ra rn rc) us RL (.slice vo vn vc) C BB (.slice xo xn xc) X B2 (.slice (some ⟨wr.heap.size, 0, none⟩) 1 1) [-1] (wr.alloc (Obj.cells #[.int .i64 (-1)] 3))) :=
                  have h := HLXr.out.next hba
                  ⟨h.lr, h.sp, h.x, World.ownsRow_lit wr #[.int .i64 (-1)] 1 HLXr.out.sz (by unfold maxLen; omega) rfl, h.b1, h.b2, h.sz⟩
                clear HLXr hba HYE HYL hyl
                simp only [List.length_nil]
                go_upto_region 19 with (fail)
                obtain ⟨w5, HW5⟩ : ∃ w5, Hid (wr.alloc (Obj.cells #[.int .i64 (-1)] 3) = w5) := ⟨_, (rfl : _ = _)⟩
                obtain ⟨mb, HMBX⟩ : ∃ mb, Hid (wr.heap.size = mb) := ⟨_, (rfl : wr.heap.size = wr.heap.size)⟩
                rw [HW5.out, HMBX.out] at HLX1
                rw [HW5.out, HMBX.out]
                clear HW5 HMBX
                obtain ⟨Y, HYY⟩ : ∃ Y, Hid (([-1] : List Int) = Y) := ⟨_, (rfl : _ = _)⟩
                have HLX5 : Hid (LX w T n (.slice ao ps.length c) ps be bf bw br bm cf E F V R M (.slice ra rn rc) us RL (.slice vo vn vc) C BB (.slice xo xn xc) X B2 (.slice (some ⟨mb, 0, none⟩) 1 1) Y w5) := by rw [← HYY.out]; exact HLX1.out
                have HOR : Hid (orM (mayL ps (sts ps E F V) T k col) = Y) := HOR0.out.trans HYY.out
                clear HLX1 HYY HOR0
                obtain ⟨h0d, HHD⟩ : ∃ h0d, Hid (rowA ps (sts ps E F V) T k col = h0d) := ⟨_, (rfl : _ = _)⟩
                have HM0 : Hid (∀ W, World.ownsRow W B2 3 1 (.slice (some ⟨mb, 0, none⟩) 1 1) Y.length (Y.map (Value.int .i64)) → W.cell? ⟨mb, 0, none⟩ = some (.int .i64 h0d)) := fun W hW => by
                  have h1 := hW.cells (g := mb) rfl 0 (.int .i64 h0d) (by rw [← HOR.out, List.getElem?_map, orM_hd, ← HHD.out]; rfl)
                  rwa [Addr.add_lit] at h1
                have HMN : Hid ((0 : Int) < (1 : Int)) := by
                  show _ < _
                  have h1 := own_len HLX5.out.m
                  have h2 := orM_len (mayL ps (sts ps E F V) T k col)
                  rw [HOR.out] at h2
                  omega
                have a0 := HM0.out _ HLX5.out.m
                have hmn := HMN.out
                have HO : Hid ((w5.alloc (Obj.cells #[.int .i64 h0d] 3)).ownsRow BB 3 1 (.slice xo xn xc) X.length (X.map (Value.int .i64))) := HLX5.out.x.alloc _
                have hsw : BB ≤ w5.heap.size := Nat.le_trans HLX5.out.b2 HLX5.out.sz
                have hxl := HXL.out
                go_wp2_with (at_builtin; refine wpList_append_own _ rfl _ _ 35 rfl BB 3 i3 (.int .i64 0) 1 8 Try.underlying35 hi3 hz3 hs3 hb3 rfl (by decide) _ _ _ rfl HO.out ⟨w5.heap.size, 0, none⟩ 1 1 [.int .i64 h0d] rfl rfl (World.news_of_block (t := 3) (fr := (0, 0)) (heap_alloc_new w5 _)) (by simp [Value.oneCell']) (by unfold maxLen; omega) (by omega) (by simp; omega) ?_)
                intro v' w6 hown' hgrow _
                have HL6 : Hid (LX w T n (.slice ao ps.length c) ps be bf bw br bm cf E F V R M (.slice ra rn rc) us RL (.slice vo vn vc) C BB v' (X ++ [h0d]) B2 (.slice (some ⟨mb, 0, none⟩) 1 1) Y w6) := (HLX5.out.next (below_alloc w5 _)).row HXB.out hgrow (by rw [List.length_append, List.map_append]; exact hown')
                obtain ⟨xo, xn, xc, rfl⟩ := own_form hown'
                have HX2 : Hid (rowL ps (sts ps E F V) T k (col + 1) = X ++ [h0d]) := by show _ = _; rw [rowL_succ, HX.out, HHD.out]
                clear hown' hgrow HLX5 HO hsw hxl a0 HXB HXL HX
                obtain ⟨X, HXX⟩ : ∃ X', Hid (X ++ [h0d] = X') := ⟨_, (rfl : _ = _)⟩
                rw [HXX.out] at HL6 HX2
                clear HXX
                go_wp2_with fail
                clear hmn
                go_loopw [6, 12] (fun cs i wr => ∃ (j : Nat) (vo : Option Addr) (vn vc : Nat), (1 ≤ j ∧ j ≤ 1) ∧ cs = .slice vo vn vc ∧ i = .int .i64 (j : Int) ∧ Hid (LX w T n (.slice ao ps.length c) ps be bf bw br bm cf E F V R M (.slice ra rn rc) us RL (.slice vo vn vc) (clsF ps (sts ps E F V) T k col (j - 1)) BB (.slice xo xn xc) X B2 (.slice (some ⟨mb, 0, none⟩) 1 1) Y wr)) (fun _ i _ => 1 - (intOf i).toNat)
                case atStart => exact ⟨1, vo, vn, vc, by have := HMN.out; omega, rfl, rfl, by rw [Nat.sub_self, clsF_zero, HC.out]; exact HL6.out⟩
                case round =>
                  clear HL6
                  obtain ⟨j, vo, vn, vc, hj, rfl, rfl, HL⟩ := hrel
                  have HMN2 : Hid (1 = Y.length) := own_len HL.out.m
                  have HTLN : Hid ((mayL ps (sts ps E F V) T k col).tail.length + 1 = Y.length) := by
                    have h2 := orM_len (mayL ps (sts ps E F V) T k col)
                    rw [HOR.out] at h2; exact h2.symm
                  have hmn40 : 1 ≤ 41 := by have h1 := mayL_le ps (sts ps E F V) T k col; have h2 := HTLN.out; have h3 := HMN2.out; have h4 := HT.out.2.2; rw [List.length_tail] at h2; omega
                  by_cases hjl : j < 1
                  · obtain ⟨CC, HCC⟩ : ∃ CC, Hid (clsF ps (sts ps E F V) T k col (j - 1) = CC) := ⟨_, (rfl : _ = _)⟩
                    have hjt : j - 1 < (mayL ps (sts ps E F V) T k col).tail.length := by have := HTLN.out; have := HMN2.out; omega
                    obtain ⟨z, HZ⟩ : ∃ z, Hid ((mayL ps (sts ps E F V) T k col).tail[j - 1]'hjt = z) := ⟨(mayL ps (sts ps E F V) T k col).tail[j - 1]'hjt, Eq.refl _⟩
                    have HNX : Hid (clsF ps (sts ps E F V) T k col (j + 1 - 1) = CC ++ [((k : Int), (col : Int), h0d, z)]) := by
                      show _ = _
                      have := clsF_next ps (sts ps E F V) T k col (j - 1) hjt
                      rw [show j - 1 + 1 = j + 1 - 1 by omega, HZ.out, HHD.out, HCC.out] at this
                      exact this
                    have HMJ : Hid (∀ W, World.ownsRow W B2 3 1 (.slice (some ⟨mb, 0, none⟩) 1 1) Y.length (Y.map (Value.int .i64)) → W.cell? ⟨mb, j, none⟩ = some (.int .i64 z)) := fun W hW => by
                      have h1 := hW.cells (g := mb) rfl j (.int .i64 z) (by
                        have := orM_at (mayL ps (sts ps E F V) T k col) (j - 1) hjt
                        rw [show j - 1 + 1 = j by omega, HOR.out, HZ.out] at this
                        rw [List.getElem?_map, this]; rfl)
                      rwa [Addr.add_lit, Nat.zero_add] at h1
                    have HFEW : Hid (CC.length ≤ 40000) := by
                      show _ ≤ _
                      rw [← HCC.out]
                      exact clsF_few HT.out.2.2 HT.out.1 (by have := HT.out; have := HLT.out; omega) (by have := HCL.out; omega) (j - 1)
                    have HJN : Hid ((0 : Int) ≤ (j : Int) ∧ (j : Int) < (1 : Int)) := ⟨by omega, by omega⟩
                    have hj1 := HJN.out.2
                    rw [HCC.out] at HL
                    clear HCC HZ HTLN hjt
                    go_wp2_with fail
                    clear hj1
                    refine wp_region_free mixed (fun a0 d a W => ∃ (cb : Nat) (na : Option Addr) (nn : Nat) (nc : Nat) (x6 x80 x81 x82 x83 x84 x85 x86 x87 x88 x89 x90 x91 x92 : Value), a = ((((((((((((((a0.put (some 6) x6).put (some 80) x80).put (some 81) x81).put (some 82) x82).put (some 83) x83).put (some 84) x84).put (some 85) x85).put (some 86) x86).put (some 87) x87).put (some 88) x88).put (some 89) x89).put (some 90) x90).put (some 91) x91).put (some 92) x92) ∧ Hid (RLl w T n (.slice ao ps.length c) ps be bf bw br bm cf E F V R M ra rn rc us RL vo vn vc CC BB xo xn xc X B2 mb 1 1 Y k col j h0d z cb na nn nc d x6 x80 x81 x82 x83 x84 x85 x86 x87 x88 x89 x90 x91 x92 W)) (by kernel_rfl) ⟨0, none, 0, 0, (.slice vo vn vc), u80, u81, u82, u83, u84, u85, u86, u87, u88, u89, u90, u91, u92, by simp only [Act.put, List.setIfInBounds_toArray, List.set_cons_zero, List.set_cons_succ], ?_⟩ ?_ ?_
                    · exact ⟨fun h => no_way h, fun h => no_way h, fun h => no_way h, fun h => no_way h, fun h => no_way h, fun h => no_way h, fun h => no_way h, fun h => no_way h, fun h => no_way h, fun h => no_way h, fun h => no_way h, fun h => no_way h, fun h => no_way h, fun h => no_way h, HL.out.m, fun _ => rfl, fun h => no_way h, fun h => no_way h, fun h => no_way h, fun h => no_way h, fun _ => HL.out.next ⟨rfl, rfl, rfl, Nat.le_refl _, fun _ _ => rfl⟩, fun h => no_way h, fun h => no_way h⟩
                    · simp only [StepAll, and_true]
                      refine ⟨?_, ?_, ?_, ?_, ?_, ?_, ?_, ?_, ?_, ?_, ?_, ?_, ?_, ?_⟩
                      · intro d a W hI hd hdep
                        obtain ⟨cb, na, nn, nc, x6, x80, x81, x82, x83, x84, x85, x86, x87, x88, x89, x90, x91, x92, rfl, hF⟩ := hI
                        have HD13 : d 13 = false := no_later hF.out.o13 hd
                        obtain rfl := hF.out.s6 HD13
                        clear HD13
                        clear hdep hd
                        intro K hK
                        simp only [Act.put, List.setIfInBounds_toArray, List.set_cons_zero, List.set_cons_succ]
                        go_simp
                        refine hK.out _ _ ⟨cb, na, nn, nc, (.slice vo vn vc), (.slice vo vn vc), x81, x82, x83, x84, x85, x86, x87, x88, x89, x90, x91, x92, by simp only [Act.put, List.setIfInBounds_toArray, List.set_cons_zero, List.set_cons_succ], ?_⟩
                        exact ⟨fun _ => rfl, fun h => hF.out.f1 (by simpa using h), fun h => hF.out.f2 (by simpa using h), fun h => hF.out.f3 (by simpa using h), fun h => hF.out.f4 (by simpa using h), fun h => hF.out.f5 (by simpa using h), fun h => hF.out.f6 (by simpa using h), fun h => hF.out.f7 (by simpa using h), fun h => hF.out.f8 (by simpa using h), fun h => hF.out.f9 (by simpa using h), fun h => hF.out.f10 (by simpa using h), fun h => hF.out.f11 (by simpa using h), fun h => hF.out.f12 (by simpa using h), fun h => hF.out.f13 (by simpa using h), hF.out.m, fun _ => rfl, fun _ => by simp, fun h => by have := hF.out.o1312 (by simpa using h); simpa using this, fun h => by have := hF.out.o12 (by simpa using h); simpa using this, fun _ => by simp, fun h => hF.out.l0 (by simpa using h), fun h h2 => hF.out.bs (by simpa using h) (by simpa using h2), fun h => hF.out.l1 (by simpa using h)⟩
                      · intro d a W hI hd hdep
                        obtain ⟨cb, na, nn, nc, x6, x80, x81, x82, x83, x84, x85, x86, x87, x88, x89, x90, x91, x92, rfl, hF⟩ := hI
                        clear hdep hd
                        intro K hK
                        simp only [Act.put, List.setIfInBounds_toArray, List.set_cons_zero, List.set_cons_succ]
                        go_simp
                        refine hK.out _ _ ⟨cb, na, nn, nc, x6, x80, (.int .i64 (k : Int)), x82, x83, x84, x85, x86, x87, x88, x89, x90, x91, x92, by simp only [Act.put, List.setIfInBounds_toArray, List.set_cons_zero, List.set_cons_succ], ?_⟩
                        exact ⟨fun h => hF.out.f0 (by simpa using h), fun _ => rfl, fun h => hF.out.f2 (by simpa using h), fun h => hF.out.f3 (by simpa using h), fun h => hF.out.f4 (by simpa using h), fun h => hF.out.f5 (by simpa using h), fun h => hF.out.f6 (by simpa using h), fun h => hF.out.f7 (by simpa using h), fun h => hF.out.f8 (by simpa using h), fun h => hF.out.f9 (by simpa using h), fun h => hF.out.f10 (by simpa using h), fun h => hF.out.f11 (by simpa using h), fun h => hF.out.f12 (by simpa using h), fun h => hF.out.f13 (by simpa using h), hF.out.m, fun h => hF.out.s6 (by simpa using h), fun h => by have := hF.out.o13 (by simpa using h); simpa using this, fun h => by have := hF.out.o1312 (by simpa using h); simpa using this, fun h => by have := hF.out.o12 (by simpa using h); simpa using this, fun h => by have := hF.out.o120 (by simpa using h); simpa using this, fun h => hF.out.l0 (by simpa using h), fun h h2 => hF.out.bs (by simpa using h) (by simpa using h2), fun h => hF.out.l1 (by simpa using h)⟩
                      · intro d a W hI hd hdep
                        obtain ⟨cb, na, nn, nc, x6, x80, x81, x82, x83, x84, x85, x86, x87, x88, x89, x90, x91, x92, rfl, hF⟩ := hI
                        clear hdep hd
                        intro K hK
                        simp only [Act.put, List.setIfInBounds_toArray, List.set_cons_zero, List.set_cons_succ]
                        go_simp
                        refine hK.out _ _ ⟨cb, na, nn, nc, x6, x80, x81, (.int .i64 (col : Int)), x83, x84, x85, x86, x87, x88, x89, x90, x91, x92, by simp only [Act.put, List.setIfInBounds_toArray, List.set_cons_zero, List.set_cons_succ], ?_⟩
                        exact ⟨fun h => hF.out.f0 (by simpa using h), fun h => hF.out.f1 (by simpa using h), fun _ => rfl, fun h => hF.out.f3 (by simpa using h), fun h => hF.out.f4 (by simpa using h), fun h => hF.out.f5 (by simpa using h), fun h => hF.out.f6 (by simpa using h), fun h => hF.out.f7 (by simpa using h), fun h => hF.out.f8 (by simpa using h), fun h => hF.out.f9 (by simpa using h), fun h => hF.out.f10 (by simpa using h), fun h => hF.out.f11 (by simpa using h), fun h => hF.out.f12 (by simpa using h), fun h => hF.out.f13 (by simpa using h), hF.out.m, fun h => hF.out.s6 (by simpa using h), fun h => by have := hF.out.o13 (by simpa using h); simpa using this, fun h => by have := hF.out.o1312 (by simpa using h); simpa using this, fun h => by have := hF.out.o12 (by simpa using h); simpa using this, fun h => by have := hF.out.o120 (by simpa using h); simpa using this, fun h => hF.out.l0 (by simpa using h), fun h h2 => hF.out.bs (by simpa using h) (by simpa using h2), fun h => hF.out.l1 (by simpa using h)⟩
                      · intro d a W hI hd hdep
                        obtain ⟨cb, na, nn, nc, x6, x80, x81, x82, x83, x84, x85, x86, x87, x88, x89, x90, x91, x92, rfl, hF⟩ := hI
                        clear hdep hd
                        intro K hK
                        simp only [Act.put, List.setIfInBounds_toArray, List.set_cons_zero, List.set_cons_succ]
                        go_simp
                        refine hK.out _ _ ⟨cb, na, nn, nc, x6, x80, x81, x82, (.slice (some ⟨mb, 0, none⟩) 1 1), x84, x85, x86, x87, x88, x89, x90, x91, x92, by simp only [Act.put, List.setIfInBounds_toArray, List.set_cons_zero, List.set_cons_succ], ?_⟩
                        exact ⟨fun h => hF.out.f0 (by simpa using h), fun h => hF.out.f1 (by simpa using h), fun h => hF.out.f2 (by simpa using h), fun _ => rfl, fun h => hF.out.f4 (by simpa using h), fun h => hF.out.f5 (by simpa using h), fun h => hF.out.f6 (by simpa using h), fun h => hF.out.f7 (by simpa using h), fun h => hF.out.f8 (by simpa using h), fun h => hF.out.f9 (by simpa using h), fun h => hF.out.f10 (by simpa using h), fun h => hF.out.f11 (by simpa using h), fun h => hF.out.f12 (by simpa using h), fun h => hF.out.f13 (by simpa using h), hF.out.m, fun h => hF.out.s6 (by simpa using h), fun h => by have := hF.out.o13 (by simpa using h); simpa using this, fun h => by have := hF.out.o1312 (by simpa using h); simpa using this, fun h => by have := hF.out.o12 (by simpa using h); simpa using this, fun h => by have := hF.out.o120 (by simpa using h); simpa using this, fun h => hF.out.l0 (by simpa using h), fun h h2 => hF.out.bs (by simpa using h) (by simpa using h2), fun h => hF.out.l1 (by simpa using h)⟩
                      · intro d a W hI hd hdep
                        obtain ⟨cb, na, nn, nc, x6, x80, x81, x82, x83, x84, x85, x86, x87, x88, x89, x90, x91, x92, rfl, hF⟩ := hI
                        have hd3 : d 3 = true := dep_of hdep 3 (by kernel_rfl)
                        obtain rfl := hF.out.f3 hd3
                        have hmn := HMN.out
                        have hmn2 : 0 < 1 := by omega
                        clear hdep hd hd3
                        intro K hK
                        simp only [Act.put, List.setIfInBounds_toArray, List.set_cons_zero, List.set_cons_succ]
                        go_simp
                        refine hK.out _ _ ⟨cb, na, nn, nc, x6, x80, x81, x82, (.slice (some ⟨mb, 0, none⟩) 1 1), (.pointer (some ⟨mb, 0, none⟩)), x85, x86, x87, x88, x89, x90, x91, x92, by simp only [Act.put, List.setIfInBounds_toArray, List.set_cons_zero, List.set_cons_succ], ?_⟩
                        exact ⟨fun h => hF.out.f0 (by simpa using h), fun h => hF.out.f1 (by simpa using h), fun h => hF.out.f2 (by simpa using h), fun h => hF.out.f3 (by simpa using h), fun _ => rfl, fun h => hF.out.f5 (by simpa using h), fun h => hF.out.f6 (by simpa using h), fun h => hF.out.f7 (by simpa using h), fun h => hF.out.f8 (by simpa using h), fun h => hF.out.f9 (by simpa using h), fun h => hF.out.f10 (by simpa using h), fun h => hF.out.f11 (by simpa using h), fun h => hF.out.f12 (by simpa using h), fun h => hF.out.f13 (by simpa using h), hF.out.m, fun h => hF.out.s6 (by simpa using h), fun h => by have := hF.out.o13 (by simpa using h); simpa using this, fun h => by have := hF.out.o1312 (by simpa using h); simpa using this, fun h => by have := hF.out.o12 (by simpa using h); simpa using this, fun h => by have := hF.out.o120 (by simpa using h); simpa using this, fun h => hF.out.l0 (by simpa using h), fun h h2 => hF.out.bs (by simpa using h) (by simpa using h2), fun h => hF.out.l1 (by simpa using h)⟩
                      · intro d a W hI hd hdep
                        obtain ⟨cb, na, nn, nc, x6, x80, x81, x82, x83, x84, x85, x86, x87, x88, x89, x90, x91, x92, rfl, hF⟩ := hI
                        have hd4 : d 4 = true := dep_of hdep 4 (by kernel_rfl)
                        obtain rfl := hF.out.f4 hd4
                        have a0 := HM0.out W hF.out.m
                        clear hdep hd hd4
                        intro K hK
                        simp only [Act.put, List.setIfInBounds_toArray, List.set_cons_zero, List.set_cons_succ]
                        go_simp
                        refine hK.out _ _ ⟨cb, na, nn, nc, x6, x80, x81, x82, x83, (.pointer (some ⟨mb, 0, none⟩)), (.int .i64 h0d), x86, x87, x88, x89, x90, x91, x92, by simp only [Act.put, List.setIfInBounds_toArray, List.set_cons_zero, List.set_cons_succ], ?_⟩
                        exact ⟨fun h => hF.out.f0 (by simpa using h), fun h => hF.out.f1 (by simpa using h), fun h => hF.out.f2 (by simpa using h), fun h => hF.out.f3 (by simpa using h), fun h => hF.out.f4 (by simpa using h), fun _ => rfl, fun h => hF.out.f6 (by simpa using h), fun h => hF.out.f7 (by simpa using h), fun h => hF.out.f8 (by simpa using h), fun h => hF.out.f9 (by simpa using h), fun h => hF.out.f10 (by simpa using h), fun h => hF.out.f11 (by simpa using h), fun h => hF.out.f12 (by simpa using h), fun h => hF.out.f13 (by simpa using h), hF.out.m, fun h => hF.out.s6 (by simpa using h), fun h => by have := hF.out.o13 (by simpa using h); simpa using this, fun h => by have := hF.out.o1312 (by simpa using h); simpa using this, fun h => by have := hF.out.o12 (by simpa using h); simpa using this, fun h => by have := hF.out.o120 (by simpa using h); simpa using this, fun h => hF.out.l0 (by simpa using h), fun h h2 => hF.out.bs (by simpa using h) (by simpa using h2), fun h => hF.out.l1 (by simpa using h)⟩
                      · intro d a W hI hd hdep
                        obtain ⟨cb, na, nn, nc, x6, x80, x81, x82, x83, x84, x85, x86, x87, x88, x89, x90, x91, x92, rfl, hF⟩ := hI
                        clear hdep hd
                        intro K hK
                        simp only [Act.put, List.setIfInBounds_toArray, List.set_cons_zero, List.set_cons_succ]
                        go_simp
                        refine hK.out _ _ ⟨cb, na, nn, nc, x6, x80, x81, x82, x83, x84, x85, (.slice (some ⟨mb, 0, none⟩) 1 1), x87, x88, x89, x90, x91, x92, by simp only [Act.put, List.setIfInBounds_toArray, List.set_cons_zero, List.set_cons_succ], ?_⟩
                        exact ⟨fun h => hF.out.f0 (by simpa using h), fun h => hF.out.f1 (by simpa using h), fun h => hF.out.f2 (by simpa using h), fun h => hF.out.f3 (by simpa using h), fun h => hF.out.f4 (by simpa using h), fun h => hF.out.f5 (by simpa using h), fun _ => rfl, fun h => hF.out.f7 (by simpa using h), fun h => hF.out.f8 (by simpa using h), fun h => hF.out.f9 (by simpa using h), fun h => hF.out.f10 (by simpa using h), fun h => hF.out.f11 (by simpa using h), fun h => hF.out.f12 (by simpa using h), fun h => hF.out.f13 (by simpa using h), hF.out.m, fun h => hF.out.s6 (by simpa using h), fun h => by have := hF.out.o13 (by simpa using h); simpa using this, fun h => by have := hF.out.o1312 (by simpa using h); simpa using this, fun h => by have := hF.out.o12 (by simpa using h); simpa using this, fun h => by have := hF.out.o120 (by simpa using h); simpa using this, fun h => hF.out.l0 (by simpa using h), fun h h2 => hF.out.bs (by simpa using h) (by simpa using h2), fun h => hF.out.l1 (by simpa using h)⟩
                      · intro d a W hI hd hdep
                        obtain ⟨cb, na, nn, nc, x6, x80, x81, x82, x83, x84, x85, x86, x87, x88, x89, x90, x91, x92, rfl, hF⟩ := hI
                        clear hdep hd
                        intro K hK
                        simp only [Act.put, List.setIfInBounds_toArray, List.set_cons_zero, List.set_cons_succ]
                        go_simp
                        refine hK.out _ _ ⟨cb, na, nn, nc, x6, x80, x81, x82, x83, x84, x85, x86, (.int .i64 (j : Int)), x88, x89, x90, x91, x92, by simp only [Act.put, List.setIfInBounds_toArray, List.set_cons_zero, List.set_cons_succ], ?_⟩
                        exact ⟨fun h => hF.out.f0 (by simpa using h), fun h => hF.out.f1 (by simpa using h), fun h => hF.out.f2 (by simpa using h), fun h => hF.out.f3 (by simpa using h), fun h => hF.out.f4 (by simpa using h), fun h => hF.out.f5 (by simpa using h), fun h => hF.out.f6 (by simpa using h), fun _ => rfl, fun h => hF.out.f8 (by simpa using h), fun h => hF.out.f9 (by simpa using h), fun h => hF.out.f10 (by simpa using h), fun h => hF.out.f11 (by simpa using h), fun h => hF.out.f12 (by simpa using h), fun h => hF.out.f13 (by simpa using h), hF.out.m, fun h => hF.out.s6 (by simpa using h), fun h => by have := hF.out.o13 (by simpa using h); simpa using this, fun h => by have := hF.out.o1312 (by simpa using h); simpa using this, fun h => by have := hF.out.o12 (by simpa using h); simpa using this, fun h => by have := hF.out.o120 (by simpa using h); simpa using this, fun h => hF.out.l0 (by simpa using h), fun h h2 => hF.out.bs (by simpa using h) (by simpa using h2), fun h => hF.out.l1 (by simpa using h)⟩
                      · intro d a W hI hd hdep
                        obtain ⟨cb, na, nn, nc, x6, x80, x81, x82, x83, x84, x85, x86, x87, x88, x89, x90, x91, x92, rfl, hF⟩ := hI
                        have hd6 : d 6 = true := dep_of hdep 6 (by kernel_rfl)
                        have hd7 : d 7 = true := dep_of hdep 7 (by kernel_rfl)
                        obtain rfl := hF.out.f6 hd6
                        obtain rfl := hF.out.f7 hd7
                        have hj0 := HJN.out.1
                        have hj1 := HJN.out.2
                        clear hdep hd hd6 hd7
                        intro K hK
                        simp only [Act.put, List.setIfInBounds_toArray, List.set_cons_zero, List.set_cons_succ]
                        go_simp
                        refine hK.out _ _ ⟨cb, na, nn, nc, x6, x80, x81, x82, x83, x84, x85, (.slice (some ⟨mb, 0, none⟩) 1 1), (.int .i64 (j : Int)), (.pointer (some ⟨mb, j, none⟩)), x89, x90, x91, x92, by simp only [Act.put, List.setIfInBounds_toArray, List.set_cons_zero, List.set_cons_succ], ?_⟩
                        exact ⟨fun h => hF.out.f0 (by simpa using h), fun h => hF.out.f1 (by simpa using h), fun h => hF.out.f2 (by simpa using h), fun h => hF.out.f3 (by simpa using h), fun h => hF.out.f4 (by simpa using h), fun h => hF.out.f5 (by simpa using h), fun h => hF.out.f6 (by simpa using h), fun h => hF.out.f7 (by simpa using h), fun _ => rfl, fun h => hF.out.f9 (by simpa using h), fun h => hF.out.f10 (by simpa using h), fun h => hF.out.f11 (by simpa using h), fun h => hF.out.f12 (by simpa using h), fun h => hF.out.f13 (by simpa using h), hF.out.m, fun h => hF.out.s6 (by simpa using h), fun h => by have := hF.out.o13 (by simpa using h); simpa using this, fun h => by have := hF.out.o1312 (by simpa using h); simpa using this, fun h => by have := hF.out.o12 (by simpa using h); simpa using this, fun h => by have := hF.out.o120 (by simpa using h); simpa using this, fun h => hF.out.l0 (by simpa using h), fun h h2 => hF.out.bs (by simpa using h) (by simpa using h2), fun h => hF.out.l1 (by simpa using h)⟩
                      · intro d a W hI hd hdep
                        obtain ⟨cb, na, nn, nc, x6, x80, x81, x82, x83, x84, x85, x86, x87, x88, x89, x90, x91, x92, rfl, hF⟩ := hI
                        have hd8 : d 8 = true := dep_of hdep 8 (by kernel_rfl)
                        obtain rfl := hF.out.f8 hd8
                        have a0 := HMJ.out W hF.out.m
                        clear hdep hd hd8
                        intro K hK
                        simp only [Act.put, List.setIfInBounds_toArray, List.set_cons_zero, List.set_cons_succ]
                        go_simp
                        refine hK.out _ _ ⟨cb, na, nn, nc, x6, x80, x81, x82, x83, x84, x85, x86, x87, (.pointer (some ⟨mb, j, none⟩)), (.int .i64 z), x90, x91, x92, by simp only [Act.put, List.setIfInBounds_toArray, List.set_cons_zero, List.set_cons_succ], ?_⟩
                        exact ⟨fun h => hF.out.f0 (by simpa using h), fun h => hF.out.f1 (by simpa using h), fun h => hF.out.f2 (by simpa using h), fun h => hF.out.f3 (by simpa using h), fun h => hF.out.f4 (by simpa using h), fun h => hF.out.f5 (by simpa using h), fun h => hF.out.f6 (by simpa using h), fun h => hF.out.f7 (by simpa using h), fun h => hF.out.f8 (by simpa using h), fun _ => rfl, fun h => hF.out.f10 (by simpa using h), fun h => hF.out.f11 (by simpa using h), fun h => hF.out.f12 (by simpa using h), fun h => hF.out.f13 (by simpa using h), hF.out.m, fun h => hF.out.s6 (by simpa using h), fun h => by have := hF.out.o13 (by simpa using h); simpa using this, fun h => by have := hF.out.o1312 (by simpa using h); simpa using this, fun h => by have := hF.out.o12 (by simpa using h); simpa using this, fun h => by have := hF.out.o120 (by simpa using h); simpa using this, fun h => hF.out.l0 (by simpa using h), fun h h2 => hF.out.bs (by simpa using h) (by simpa using h2), fun h => hF.out.l1 (by simpa using h)⟩
                      · intro d a W hI hd hdep
                        obtain ⟨cb, na, nn, nc, x6, x80, x81, x82, x83, x84, x85, x86, x87, x88, x89, x90, x91, x92, rfl, hF⟩ := hI
                        have hd1 : d 1 = true := dep_of hdep 1 (by kernel_rfl)
                        have hd2 : d 2 = true := dep_of hdep 2 (by kernel_rfl)
                        have hd5 : d 5 = true := dep_of hdep 5 (by kernel_rfl)
                        have hd9 : d 9 = true := dep_of hdep 9 (by kernel_rfl)
                        obtain rfl := hF.out.f1 hd1
                        obtain rfl := hF.out.f2 hd2
                        obtain rfl := hF.out.f5 hd5
                        obtain rfl := hF.out.f9 hd9
                        clear hdep hd hd1 hd2 hd5 hd9
                        intro K hK
                        simp only [Act.put, List.setIfInBounds_toArray, List.set_cons_zero, List.set_cons_succ]
                        go_simp
                        refine hK.out _ _ ⟨cb, na, nn, nc, x6, x80, (.int .i64 (k : Int)), (.int .i64 (col : Int)), x83, x84, (.int .i64 h0d), x86, x87, x88, (.int .i64 z), (.agg #[.int .i64 (k : Int), .int .i64 (col : Int), .int .i64 h0d, .int .i64 z]), x91, x92, by simp only [Act.put, List.setIfInBounds_toArray, List.set_cons_zero, List.set_cons_succ], ?_⟩
                        exact ⟨fun h => hF.out.f0 (by simpa using h), fun h => hF.out.f1 (by simpa using h), fun h => hF.out.f2 (by simpa using h), fun h => hF.out.f3 (by simpa using h), fun h => hF.out.f4 (by simpa using h), fun h => hF.out.f5 (by simpa using h), fun h => hF.out.f6 (by simpa using h), fun h => hF.out.f7 (by simpa using h), fun h => hF.out.f8 (by simpa using h), fun h => hF.out.f9 (by simpa using h), fun _ => rfl, fun h => hF.out.f11 (by simpa using h), fun h => hF.out.f12 (by simpa using h), fun h => hF.out.f13 (by simpa using h), hF.out.m, fun h => hF.out.s6 (by simpa using h), fun h => by have := hF.out.o13 (by simpa using h); simpa using this, fun h => by have := hF.out.o1312 (by simpa using h); simpa using this, fun h => by have := hF.out.o12 (by simpa using h); simpa using this, fun h => by have := hF.out.o120 (by simpa using h); simpa using this, fun h => hF.out.l0 (by simpa using h), fun h h2 => hF.out.bs (by simpa using h) (by simpa using h2), fun h => hF.out.l1 (by simpa using h)⟩
                      · intro d a W hI hd hdep
                        obtain ⟨cb, na, nn, nc, x6, x80, x81, x82, x83, x84, x85, x86, x87, x88, x89, x90, x91, x92, rfl, hF⟩ := hI
                        have hd10 : d 10 = true := dep_of hdep 10 (by kernel_rfl)
                        obtain rfl := hF.out.f10 hd10
                        have HN12 : Hid (d 12 = false) := no_later hF.out.o12 hd
                        clear hdep hd hd10
                        intro K hK
                        simp only [Act.put, List.setIfInBounds_toArray, List.set_cons_zero, List.set_cons_succ]
                        go_simp
                        refine hK.out _ _ ⟨W.heap.size, na, nn, nc, x6, x80, x81, x82, x83, x84, x85, x86, x87, x88, x89, (.agg #[.int .i64 (k : Int), .int .i64 (col : Int), .int .i64 h0d, .int .i64 z]), (.slice (some ⟨W.heap.size, 0, none⟩) 1 1), x92, by simp only [Act.put, List.setIfInBounds_toArray, List.set_cons_zero, List.set_cons_succ], ?_⟩
                        have B1 := below_alloc W (Obj.cells #[.int .i64 (k : Int), .int .i64 (col : Int), .int .i64 h0d, .int .i64 z] 39)
                        exact ⟨fun h => hF.out.f0 (by simpa using h), fun h => hF.out.f1 (by simpa using h), fun h => hF.out.f2 (by simpa using h), fun h => hF.out.f3 (by simpa using h), fun h => hF.out.f4 (by simpa using h), fun h => hF.out.f5 (by simpa using h), fun h => hF.out.f6 (by simpa using h), fun h => hF.out.f7 (by simpa using h), fun h => hF.out.f8 (by simpa using h), fun h => hF.out.f9 (by simpa using h), fun h => hF.out.f10 (by simpa using h), fun _ => rfl, fun h => hF.out.f12 (by simpa using h), fun h => hF.out.f13 (by simpa using h), own_below hF.out.m B1, fun h => hF.out.s6 (by simpa using h), fun h => by have := hF.out.o13 (by simpa using h); simpa using this, fun h => by have := hF.out.o1312 (by simpa using h); simpa using this, fun _ => by simp, fun h => by have := hF.out.o120 (by simpa using h); simpa using this, fun h => (hF.out.l0 (by simpa using h)).next B1, fun _ _ j u hj => by rw [cell_new]; simpa using hj, fun h => by have := HN12.out; simp [this] at h⟩
                      · intro d a W hI hd hdep
                        obtain ⟨cb, na, nn, nc, x6, x80, x81, x82, x83, x84, x85, x86, x87, x88, x89, x90, x91, x92, rfl, hF⟩ := hI
                        have hd0 : d 0 = true := dep_of hdep 0 (by kernel_rfl)
                        have hd11 : d 11 = true := dep_of hdep 11 (by kernel_rfl)
                        obtain rfl := hF.out.f0 hd0
                        obtain rfl := hF.out.f11 hd11
                        have hl0 := hF.out.l0 hd
                        have HN13 : Hid (d 13 = false) := no_later hF.out.o1312 hd
                        have e12 := hd11
                        have e120 := hd0
                        have hbk := hF.out.bs hd11 hd
                        obtain ⟨v', W1, hrun, how, hgw, -, -⟩ := run_append_own_at (P := Try.prog) W (w.heap.size + 1) 26 26 39 i0 _ 4 32 Try.underlying26 H39.out.1 H39.out.2.1 H39.out.2.2.1 H39.out.2.2.2 rfl (by omega) (.slice vo vn vc) CC.length (ccs CC) hl0.lr.cl ⟨cb, 0, none⟩ 1 1 [.int .i64 (k : Int), .int .i64 (col : Int), .int .i64 h0d, .int .i64 z] rfl (fun j u hj => by rw [Addr.add_lit, Nat.zero_add]; exact hbk j u hj) (by intro u hu; simp at hu; rcases hu with rfl | rfl | rfl | rfl <;> rfl) (by have := HFEW.out; unfold maxLen; omega) (by have := HFEW.out; omega) hl0.lr.gb.lt
                        obtain ⟨na2, nn2, nc2, rfl⟩ := own_form how
                        have HL1 : Hid (LX w T n (.slice ao ps.length c) ps be bf bw br bm cf E F V R M (.slice ra rn rc) us RL (.slice na2 nn2 nc2) (CC ++ [((k : Int), (col : Int), h0d, z)]) BB (.slice xo xn xc) X B2 (.slice (some ⟨mb, 0, none⟩) 1 1) Y W1) := hl0.clash hgw (by rw [ccs_app, List.length_append]; exact how)
                        clear hl0 hbk how hgw
                        clear hdep hd hd0 hd11
                        intro K hK
                        refine step_call_append (sv := (.slice vo vn vc)) (xv := .slice (some ⟨cb, 0, none⟩) 1 1) (v := .slice na2 nn2 nc2) (W1 := W1) (by rfl) _ _ 26 (by rfl) (by simp only [Act.put, List.setIfInBounds_toArray, List.set_cons_zero, List.set_cons_succ]; rfl) (by simp only [Act.put, List.setIfInBounds_toArray, List.set_cons_zero, List.set_cons_succ]; rfl) (by exact hrun) ?_
                        simp only [Act.put, List.setIfInBounds_toArray, List.set_cons_zero, List.set_cons_succ]
                        refine hK.out _ _ ⟨cb, na2, nn2, nc2, x6, (.slice vo vn vc), x81, x82, x83, x84, x85, x86, x87, x88, x89, x90, (.slice (some ⟨cb, 0, none⟩) 1 1), (.slice na2 nn2 nc2), by simp only [Act.put, List.setIfInBounds_toArray, List.set_cons_zero, List.set_cons_succ], ?_⟩
                        exact ⟨fun h => hF.out.f0 (by simpa using h), fun h => hF.out.f1 (by simpa using h), fun h => hF.out.f2 (by simpa using h), fun h => hF.out.f3 (by simpa using h), fun h => hF.out.f4 (by simpa using h), fun h => hF.out.f5 (by simpa using h), fun h => hF.out.f6 (by simpa using h), fun h => hF.out.f7 (by simpa using h), fun h => hF.out.f8 (by simpa using h), fun h => hF.out.f9 (by simpa using h), fun h => hF.out.f10 (by simpa using h), fun h => hF.out.f11 (by simpa using h), fun _ => rfl, fun h => by have := HN13.out; simp [this] at h, HL1.out.m, fun h => hF.out.s6 (by simpa using h), fun h => by have := hF.out.o13 (by simpa using h); simpa using this, fun _ => by simp, fun _ => by simpa using e12, fun _ => by simpa using e120, fun h => by simp at h, fun _ h => by simp at h, fun _ => HL1.out⟩
                      · intro d a W hI hd hdep
                        obtain ⟨cb, na, nn, nc, x6, x80, x81, x82, x83, x84, x85, x86, x87, x88, x89, x90, x91, x92, rfl, hF⟩ := hI
                        have hd12 : d 12 = true := dep_of hdep 12 (by kernel_rfl)
                        obtain rfl := hF.out.f12 hd12
                        have e13 := hF.out.o120 hd12
                        have e1312 := hd12
                        clear hdep hd hd12
                        intro K hK
                        simp only [Act.put, List.setIfInBounds_toArray, List.set_cons_zero, List.set_cons_succ]
                        go_simp
                        refine hK.out _ _ ⟨cb, na, nn, nc, (.slice na nn nc), x80, x81, x82, x83, x84, x85, x86, x87, x88, x89, x90, x91, (.slice na nn nc), by simp only [Act.put, List.setIfInBounds_toArray, List.set_cons_zero, List.set_cons_succ], ?_⟩
                        exact ⟨fun h => hF.out.f0 (by simpa using h), fun h => hF.out.f1 (by simpa using h), fun h => hF.out.f2 (by simpa using h), fun h => hF.out.f3 (by simpa using h), fun h => hF.out.f4 (by simpa using h), fun h => hF.out.f5 (by simpa using h), fun h => hF.out.f6 (by simpa using h), fun h => hF.out.f7 (by simpa using h), fun h => hF.out.f8 (by simpa using h), fun h => hF.out.f9 (by simpa using h), fun h => hF.out.f10 (by simpa using h), fun h => hF.out.f11 (by simpa using h), fun h => hF.out.f12 (by simpa using h), fun _ => rfl, hF.out.m, fun h => by simp at h, fun _ => by simpa using e13, fun _ => by simpa using e1312, fun h => by have := hF.out.o12 (by simpa using h); simpa using this, fun h => by have := hF.out.o120 (by simpa using h); simpa using this, fun h => hF.out.l0 (by simpa using h), fun h h2 => hF.out.bs (by simpa using h) (by simpa using h2), fun h => hF.out.l1 (by simpa using h)⟩
                    · intro d a W hI hall
                      obtain ⟨cb, na, nn, nc, x6, x80, x81, x82, x83, x84, x85, x86, x87, x88, x89, x90, x91, x92, rfl, hF⟩ := hI
                      simp only [List.length_cons, List.length_nil] at hall
                      obtain rfl := hF.out.f0 (hall 0 (by omega))
                      obtain rfl := hF.out.f1 (hall 1 (by omega))
                      obtain rfl := hF.out.f2 (hall 2 (by omega))
                      obtain rfl := hF.out.f3 (hall 3 (by omega))
                      obtain rfl := hF.out.f4 (hall 4 (by omega))
                      obtain rfl := hF.out.f5 (hall 5 (by omega))
                      obtain rfl := hF.out.f6 (hall 6 (by omega))
                      obtain rfl := hF.out.f7 (hall 7 (by omega))
                      obtain rfl := hF.out.f8 (hall 8 (by omega))
                      obtain rfl := hF.out.f9 (hall 9 (by omega))
                      obtain rfl := hF.out.f10 (hall 10 (by omega))
                      obtain rfl := hF.out.f11 (hall 11 (by omega))
                      obtain rfl := hF.out.f12 (hall 12 (by omega))
                      obtain rfl := hF.out.f13 (hall 13 (by omega))
                      have HL7 : Hid (LX w T n (.slice ao ps.length c) ps be bf bw br bm cf E F V R M (.slice ra rn rc) us RL (.slice na nn nc) (CC ++ [((k : Int), (col : Int), h0d, z)]) BB (.slice xo xn xc) X B2 (.slice (some ⟨mb, 0, none⟩) 1 1) Y W) := hF.out.l1 (hall 12 (by omega))
                      clear hF hall HM0 HMJ
                      simp only [Act.put, List.setIfInBounds_toArray, List.set_cons_zero, List.set_cons_succ]
                      go_wp2_with fail
                      go_roundw
                      case rel => exact ⟨j + 1, na, nn, nc, by omega, rfl, by go_num, by rw [HNX.out]; exact HL7.out⟩
                      case measure => simp [intOf]; omega
                  · have HL8 : Hid (LR w T n (.slice ao ps.length c) ps be bf bw br bm cf E F V R M (.slice ra rn rc) us RL (.slice vo vn vc) (clsN ps (sts ps E F V) T k ++ clsR ps (sts ps E F V) T k (col + 1)) wr ∧ wr.ownsRow BB 3 1 (.slice xo xn xc) (rowL ps (sts ps E F V) T k (col + 1)).length ((rowL ps (sts ps E F V) T k (col + 1)).map (Value.int .i64)) ∧ BB ≤ wr.heap.size) := by
                      rw [← clsF_end ps (sts ps E F V) T k col (j - 1) (by have := HTLN.out; have := HMN2.out; omega), HX2.out]
                      exact ⟨HL.out.lr, HL.out.x, Nat.le_trans HL.out.b2 HL.out.sz⟩
                    have hjn : ¬ (j : Int) < (1 : Int) := by omega
                    have hT30 : T ≤ 30 := HT.out.1
                    have hcl := HCL.out
                    clear HL
                    go_wp2_with fail
                    go_roundw
                    case rel => exact ⟨col + 1, vo, vn, vc, xo, xn, xc, by omega, rfl, rfl, by go_num, HL8⟩
                    case measure => simp [intOf]; omega
              · have HOR : Hid (orM (mayL ps (sts ps E F V) T k col) = Y) := by show _ = _; rw [HYE.out, orM_ne hYn]
                have hln : 0 < Y.length := List.length_pos_iff.2 hYn
                have b0 : ((Y.length : Int) == 0) = false := by simp; omega
                obtain ⟨mb, rfl⟩ : ∃ mb, mo = some ⟨mb, 0, none⟩ := by
                  obtain ⟨fb, fcap, hfe⟩ := Go.Joins.ownsRow_form HLXr.out.m hln
                  cases hfe; exact ⟨fb, rfl⟩
                obtain ⟨mn, HMNE⟩ : ∃ mn, Hid (Y.length = mn) := ⟨_, (rfl : Y.length = Y.length)⟩
                have HLX1 : Hid (LX w T n (.slice ao ps.length c) ps be bf bw br bm cf E F V R M (.slice ra rn rc) us RL (.slice vo vn vc) C BB (.slice xo xn xc) X B2 (.slice (some ⟨mb, 0, none⟩) mn mc) Y wr) := by
                  rw [← HMNE.out]; exact HLXr.out
                rw [HMNE.out] at b0
                rw [HMNE.out]
                clear HLXr HYE HYL hyl hYn hln HMNE
                obtain ⟨w5, rfl⟩ : ∃ w5, w5 = wr := ⟨_, rfl⟩
                have HLX5 := HLX1
                clear HLX1
                go_upto_region 19 with (fail)
                obtain ⟨h0d, HHD⟩ : ∃ h0d, Hid (rowA ps (sts ps E F V) T k col = h0d) := ⟨_, (rfl : _ = _)⟩
                have HM0 : Hid (∀ W, World.ownsRow W B2 3 1 (.slice (some ⟨mb, 0, none⟩) mn mc) Y.length (Y.map (Value.int .i64)) → W.cell? ⟨mb, 0, none⟩ = some (.int .i64 h0d)) := fun W hW => by
                  have h1 := hW.cells (g := mb) rfl 0 (.int .i64 h0d) (by rw [← HOR.out, List.getElem?_map, orM_hd, ← HHD.out]; rfl)
                  rwa [Addr.add_lit] at h1
                have HMN : Hid ((0 : Int) < (mn : Int)) := by
                  show _ < _
                  have h1 := own_len HLX5.out.m
                  have h2 := orM_len (mayL ps (sts ps E F V) T k col)
                  rw [HOR.out] at h2
                  omega
                have a0 := HM0.out _ HLX5.out.m
                have hmn := HMN.out
                have HO : Hid ((w5.alloc (Obj.cells #[.int .i64 h0d] 3)).ownsRow BB 3 1 (.slice xo xn xc) X.length (X.map (Value.int .i64))) := HLX5.out.x.alloc _
                have hsw : BB ≤ w5.heap.size := Nat.le_trans HLX5.out.b2 HLX5.out.sz
                have hxl := HXL.out
                go_wp2_with (at_builtin; refine wpList_append_own _ rfl _ _ 35 rfl BB 3 i3 (.int .i64 0) 1 8 Try.underlying35 hi3 hz3 hs3 hb3 rfl (by decide) _ _ _ rfl HO.out ⟨w5.heap.size, 0, none⟩ 1 1 [.int .i64 h0d] rfl rfl (World.news_of_block (t := 3) (fr := (0, 0)) (heap_alloc_new w5 _)) (by simp [Value.oneCell']) (by unfold maxLen; omega) (by omega) (by simp; omega) ?_)
                intro v' w6 hown' hgrow _
                have HL6 : Hid (LX w T n (.slice ao ps.length c) ps be bf bw br bm cf E F V R M (.slice ra rn rc) us RL (.slice vo vn vc) C BB v' (X ++ [h0d]) B2 (.slice (some ⟨mb, 0, none⟩) mn mc) Y w6) := (HLX5.out.next (below_alloc w5 _)).row HXB.out hgrow (by rw [List.length_append, List.map_append]; exact hown')
                obtain ⟨xo, xn, xc, rfl⟩ := own_form hown'
                have HX2 : Hid (rowL ps (sts ps E F V) T k (col + 1) = X ++ [h0d]) := by show _ = _; rw [rowL_succ, HX.out, HHD.out]
                clear hown' hgrow HLX5 HO hsw hxl a0 HXB HXL HX
                obtain ⟨X, HXX⟩ : ∃ X', Hid (X ++ [h0d] = X') := ⟨_, (rfl : _ = _)⟩
                rw [HXX.out] at HL6 HX2
                clear HXX
                go_wp2_with fail
                clear hmn
                go_loopw [6, 12] (fun cs i wr => ∃ (j : Nat) (vo : Option Addr) (vn vc : Nat), (1 ≤ j ∧ j ≤ mn) ∧ cs = .slice vo vn vc ∧ i = .int .i64 (j : Int) ∧ Hid (LX w T n (.slice ao ps.length c) ps be bf bw br bm cf E F V R M (.slice ra rn rc) us RL (.slice vo vn vc) (clsF ps (sts ps E F V) T k col (j - 1)) BB (.slice xo xn xc) X B2 (.slice (some ⟨mb, 0, none⟩) mn mc) Y wr)) (fun _ i _ => mn - (intOf i).toNat)
                case atStart => exact ⟨1, vo, vn, vc, by have := HMN.out; omega, rfl, rfl, by rw [Nat.sub_self, clsF_zero, HC.out]; exact HL6.out⟩
                case round =>
                  clear HL6
                  obtain ⟨j, vo, vn, vc, hj, rfl, rfl, HL⟩ := hrel
                  have HMN2 : Hid (mn = Y.length) := own_len HL.out.m
                  have HTLN : Hid ((mayL ps (sts ps E F V) T k col).tail.length + 1 = Y.length) := by
                    have h2 := orM_len (mayL ps (sts ps E F V) T k col)
                    rw [HOR.out] at h2; exact h2.symm
                  have hmn40 : mn ≤ 41 := by have h1 := mayL_le ps (sts ps E F V) T k col; have h2 := HTLN.out; have h3 := HMN2.out; have h4 := HT.out.2.2; rw [List.length_tail] at h2; omega
                  by_cases hjl : j < mn
                  · obtain ⟨CC, HCC⟩ : ∃ CC, Hid (clsF ps (sts ps E F V) T k col (j - 1) = CC) := ⟨_, (rfl : _ = _)⟩
                    have hjt : j - 1 < (mayL ps (sts ps E F V) T k col).tail.length := by have := HTLN.out; have := HMN2.out; omega
                    obtain ⟨z, HZ⟩ : ∃ z, Hid ((mayL ps (sts ps E F V) T k col).tail[j - 1]'hjt = z) := ⟨(mayL ps (sts ps E F V) T k col).tail[j - 1]'hjt, Eq.refl _⟩
                    have HNX : Hid (clsF ps (sts ps E F V) T k col (j + 1 - 1) = CC ++ [((k : Int), (col : Int), h0d, z)]) := by
                      show _ = _
                      have := clsF_next ps (sts ps E F V) T k col (j - 1) hjt
                      rw [show j - 1 + 1 = j + 1 - 1 by omega, HZ.out, HHD.out, HCC.out] at this
                      exact this
                    have HMJ : Hid (∀ W, World.ownsRow W B2 3 1 (.slice (some ⟨mb, 0, none⟩) mn mc) Y.length (Y.map (Value.int .i64)) → W.cell? ⟨mb, j, none⟩ = some (.int .i64 z)) := fun W hW => by
                      have h1 := hW.cells (g := mb) rfl j (.int .i64 z) (by
                        have := orM_at (mayL ps (sts ps E F V) T k col) (j - 1) hjt
                        rw [show j - 1 + 1 = j by omega, HOR.out, HZ.out] at this
                        rw [List.getElem?_map, this]; rfl)
                      rwa [Addr.add_lit, Nat.zero_add] at h1
                    have HFEW : Hid (CC.length ≤ 40000) := by
                      show _ ≤ _
                      rw [← HCC.out]
                      exact clsF_few HT.out.2.2 HT.out.1 (by have := HT.out; have := HLT.out; omega) (by have := HCL.out; omega) (j - 1)
                    have HJN : Hid ((0 : Int) ≤ (j : Int) ∧ (j : Int) < (mn : Int)) := ⟨by omega, by omega⟩
                    have hj1 := HJN.out.2
                    rw [HCC.out] at HL
                    clear HCC HZ HTLN hjt
                    go_wp2_with fail
                    clear hj1
                    refine wp_region_free mixed (fun a0 d a W => ∃ (cb : Nat) (na : Option Addr) (nn : Nat) (nc : Nat) (x6 x80 x81 x82 x83 x84 x85 x86 x87 x88 x89 x90 x91 x92 : Value), a = ((((((((((((((a0.put (some 6) x6).put (some 80) x80).put (some 81) x81).put (some 82) x82).put (some 83) x83).put (some 84) x84).put (some 85) x85).put (some 86) x86).put (some 87) x87).put (some 88) x88).put (some 89) x89).put (some 90) x90).put (some 91) x91).put (some 92) x92) ∧ Hid (RLl w T n (.slice ao ps.length c) ps be bf bw br bm cf E F V R M ra rn rc us RL vo vn vc CC BB xo xn xc X B2 mb mn mc Y k col j h0d z cb na nn nc d x6 x80 x81 x82 x83 x84 x85 x86 x87 x88 x89 x90 x91 x92 W)) (by kernel_rfl) ⟨0, none, 0, 0, (.slice vo vn vc), u80, u81, u82, u83, u84, u85, u86, u87, u88, u89, u90, u91, u92, by simp only [Act.put, List.setIfInBounds_toArray, List.set_cons_zero, List.set_cons_succ], ?_⟩ ?_ ?_
                    · exact ⟨fun h => no_way h, fun h => no_way h, fun h => no_way h, fun h => no_way h, fun h => no_way h, fun h => no_way h, fun h => no_way h, fun h => no_way h, fun h => no_way h, fun h => no_way h, fun h => no_way h, fun h => no_way h, fun h => no_way h, fun h => no_way h, HL.out.m, fun _ => rfl, fun h => no_way h, fun h => no_way h, fun h => no_way h, fun h => no_way h, fun _ => HL.out.next ⟨rfl, rfl, rfl, Nat.le_refl _, fun _ _ => rfl⟩, fun h => no_way h, fun h => no_way h⟩
                    · simp only [StepAll, and_true]
                      refine ⟨?_, ?_, ?_, ?_, ?_, ?_, ?_, ?_, ?_, ?_, ?_, ?_, ?_, ?_⟩
                      · intro d a W hI hd hdep
                        obtain ⟨cb, na, nn, nc, x6, x80, x81, x82, x83, x84, x85, x86, x87, x88, x89, x90, x91, x92, rfl, hF⟩ := hI
                        have HD13 : d 13 = false := no_later hF.out.o13 hd
                        obtain rfl := hF.out.s6 HD13
                        clear HD13
                        clear hdep hd
                        intro K hK
                        simp only [Act.put, List.setIfInBounds_toArray, List.set_cons_zero, List.set_cons_succ]
                        go_simp
                        refine hK.out _ _ ⟨cb, na, nn, nc, (.slice vo vn vc), (.slice vo vn vc), x81, x82, x83, x84, x85, x86, x87, x88, x89, x90, x91, x92, by simp only [Act.put, List.setIfInBounds_toArray, List.set_cons_zero, List.set_cons_succ], ?_⟩
                        exact ⟨fun _ => rfl, fun h => hF.out.f1 (by simpa using h), fun h => hF.out.f2 (by simpa using h), fun h => hF.out.f3 (by simpa using h), fun h => hF.out.f4 (by simpa using h), fun h => hF.out.f5 (by simpa using h), fun h => hF.out.f6 (by simpa using h), fun h => hF.out.f7 (by simpa using h), fun h => hF.out.f8 (by simpa using h), fun h => hF.out.f9 (by simpa using h), fun h => hF.out.f10 (by simpa using h), fun h => hF.out.f11 (by simpa using h), fun h => hF.out.f12 (by simpa using h), fun h => hF.out.f13 (by simpa using h), hF.out.m, fun _ => rfl, fun _ => by simp, fun h => by have := hF.out.o1312 (by simpa using h); simpa using this, fun h => by have := hF.out.o12 (by simpa using h); simpa using this, fun _ => by simp, fun h => hF.out.l0 (by simpa using h), fun h h2 => hF.out.bs (by simpa using h) (by simpa using h2), fun h => hF.out.l1 (by simpa using h)⟩
                      · intro d a W hI hd hdep
                        obtain ⟨cb, na, nn, nc, x6, x80, x81, x82, x83, x84, x85, x86, x87, x88, x89, x90, x91, x92, rfl, hF⟩ := hI
                        clear hdep hd
                        intro K hK
                        simp only [Act.put, List.setIfInBounds_toArray, List.set_cons_zero, List.set_cons_succ]
                        go_simp
                        refine hK.out _ _ ⟨cb, na, nn, nc, x6, x80, (.int .i64 (k : Int)), x82, x83, x84, x85, x86, x87, x88, x89, x90, x91, x92, by simp only [Act.put, List.setIfInBounds_toArray, List.set_cons_zero, List.set_cons_succ], ?_⟩
                        exact ⟨fun h => hF.out.f0 (by simpa using h), fun _ => rfl, fun h => hF.out.f2 (by simpa using h), fun h => hF.out.f3 (by simpa using h), fun h => hF.out.f4 (by simpa using h), fun h => hF.out.f5 (by simpa using h), fun h => hF.out.f6 (by simpa using h), fun h => hF.out.f7 (by simpa using h), fun h => hF.out.f8 (by simpa using h), fun h => hF.out.f9 (by simpa using h), fun h => hF.out.f10 (by simpa using h), fun h => hF.out.f11 (by simpa using h), fun h => hF.out.f12 (by simpa using h), fun h => hF.out.f13 (by simpa using h), hF.out.m, fun h => hF.out.s6 (by simpa using h), fun h => by have := hF.out.o13 (by simpa using h); simpa using this, fun h => by have := hF.out.o1312 (by simpa using h); simpa using this, fun h => by have := hF.out.o12 (by simpa using h); simpa using this, fun h => by have := hF.out.o120 (by simpa using h); simpa using this, fun h => hF.out.l0 (by simpa using h), fun h h2 => hF.out.bs (by simpa using h) (by simpa using h2), fun h => hF.out.l1 (by simpa using h)⟩
                      · intro d a W hI hd hdep
                        obtain ⟨cb, na, nn, nc, x6, x80, x81, x82, x83, x84, x85, x86, x87, x88, x89, x90, x91, x92, rfl, hF⟩ := hI
                        clear hdep hd
                        intro K hK
                        simp only [Act.put, List.setIfInBounds_toArray, List.set_cons_zero, List.set_cons_succ]
                        go_simp
                        refine hK.out _ _ ⟨cb, na, nn, nc, x6, x80, x81, (.int .i64 (col : Int)), x83, x84, x85, x86, x87, x88, x89, x90, x91, x92, by simp only [Act.put, List.setIfInBounds_toArray, List.set_cons_zero, List.set_cons_succ], ?_⟩
                        exact ⟨fun h => hF.out.f0 (by simpa using h), fun h => hF.out.f1 (by simpa using h), fun _ => rfl, fun h => hF.out.f3 (by simpa using h), fun h => hF.out.f4 (by simpa using h), fun h => hF.out.f5 (by simpa using h), fun h => hF.out.f6 (by simpa using h), fun h => hF.out.f7 (by simpa using h), fun h => hF.out.f8 (by simpa using h), fun h => hF.out.f9 (by simpa using h), fun h => hF.out.f10 (by simpa using h), fun h => hF.out.f11 (by simpa using h), fun h => hF.out.f12 (by simpa using h), fun h => hF.out.f13 (by simpa using h), hF.out.m, fun h => hF.out.s6 (by simpa using h), fun h => by have := hF.out.o13 (by simpa using h); simpa using this, fun h => by have := hF.out.o1312 (by simpa using h); simpa using this, fun h => by have := hF.out.o12 (by simpa using h); simpa using this, fun h => by have := hF.out.o120 (by simpa using h); simpa using this, fun h => hF.out.l0 (by simpa using h), fun h h2 => hF.out.bs (by simpa using h) (by simpa using h2), fun h => hF.out.l1 (by simpa using h)⟩
                      · intro d a W hI hd hdep
                        obtain ⟨cb, na, nn, nc, x6, x80, x81, x82, x83, x84, x85, x86, x87, x88, x89, x90, x91, x92, rfl, hF⟩ := hI
                        clear hdep hd
                        intro K hK
                        simp only [Act.put, List.setIfInBounds_toArray, List.set_cons_zero, List.set_cons_succ]
                        go_simp
                        refine hK.out _ _ ⟨cb, na, nn, nc, x6, x80, x81, x82, (.slice (some ⟨mb, 0, none⟩) mn mc), x84, x85, x86, x87, x88, x89, x90, x91, x92, by simp only [Act.put, List.setIfInBounds_toArray, List.set_cons_zero, List.set_cons_succ], ?_⟩
                        exact ⟨fun h => hF.out.f0 (by simpa using h), fun h => hF.out.f1 (by simpa using h), fun h => hF.out.f2 (by simpa using h), fun _ => rfl, fun h => hF.out.f4 (by simpa using h), fun h => hF.out.f5 (by simpa using h), fun h => hF.out.f6 (by simpa using h), fun h => hF.out.f7 (by simpa using h), fun h => hF.out.f8 (by simpa using h), fun h => hF.out.f9 (by simpa using h), fun h => hF.out.f10 (by simpa using h), fun h => hF.out.f11 (by simpa using h), fun h => hF.out.f12 (by simpa using h), fun h => hF.out.f13 (by simpa using h), hF.out.m, fun h => hF.out.s6 (by simpa using h), fun h => by have := hF.out.o13 (by simpa using h); simpa using this, fun h => by have := hF.out.o1312 (by simpa using h); simpa using this, fun h => by have := hF.out.o12 (by simpa using h); simpa using this, fun h => by have := hF.out.o120 (by simpa using h); simpa using this, fun h => hF.out.l0 (by simpa using h), fun h h2 => hF.out.bs (by simpa using h) (by simpa using h2), fun h => hF.out.l1 (by simpa using h)⟩
                      · intro d a W hI hd hdep
                        obtain ⟨cb, na, nn, nc, x6, x80, x81, x82, x83, x84, x85, x86, x87, x88, x89, x90, x91, x92, rfl, hF⟩ := hI
                        have hd3 : d 3 = true := dep_of hdep 3 (by kernel_rfl)
                        obtain rfl := hF.out.f3 hd3
                        have hmn := HMN.out
                        have hmn2 : 0 < mn := by omega
                        clear hdep hd hd3
                        intro K hK
                        simp only [Act.put, List.setIfInBounds_toArray, List.set_cons_zero, List.set_cons_succ]
                        go_simp
                        refine hK.out _ _ ⟨cb, na, nn, nc, x6, x80, x81, x82, (.slice (some ⟨mb, 0, none⟩) mn mc), (.pointer (some ⟨mb, 0, none⟩)), x85, x86, x87, x88, x89, x90, x91, x92, by simp only [Act.put, List.setIfInBounds_toArray, List.set_cons_zero, List.set_cons_succ], ?_⟩
                        exact ⟨fun h => hF.out.f0 (by simpa using h), fun h => hF.out.f1 (by simpa using h), fun h => hF.out.f2 (by simpa using h), fun h => hF.out.f3 (by simpa using h), fun _ => rfl, fun h => hF.out.f5 (by simpa using h), fun h => hF.out.f6 (by simpa using h), fun h => hF.out.f7 (by simpa using h), fun h => hF.out.f8 (by simpa using h), fun h => hF.out.f9 (by simpa using h), fun h => hF.out.f10 (by simpa using h), fun h => hF.out.f11 (by simpa using h), fun h => hF.out.f12 (by simpa using h), fun h => hF.out.f13 (by simpa using h), hF.out.m, fun h => hF.out.s6 (by simpa using h), fun h => by have := hF.out.o13 (by simpa using h); simpa using this, fun h => by have := hF.out.o1312 (by simpa using h); simpa using this, fun h => by have := hF.out.o12 (by simpa using h); simpa using this, fun h => by have := hF.out.o120 (by simpa using h); simpa using this, fun h => hF.out.l0 (by simpa using h), fun h h2 => hF.out.bs (by simpa using h) (by simpa using h2), fun h => hF.out.l1 (by simpa using h)⟩
                      · intro d a W hI hd hdep
                        obtain ⟨cb, na, nn, nc, x6, x80, x81, x82, x83, x84, x85, x86, x87, x88, x89, x90, x91, x92, rfl, hF⟩ := hI
                        have hd4 : d 4 = true := dep_of hdep 4 (by kernel_rfl)
                        obtain rfl := hF.out.f4 hd4
                        have a0 := HM0.out W hF.out.m
                        clear hdep hd hd4
                        intro K hK
                        simp only [Act.put, List.setIfInBounds_toArray, List.set_cons_zero, List.set_cons_succ]
                        go_simp
                        refine hK.out _ _ ⟨cb, na, nn, nc, x6, x80, x81, x82, x83, (.pointer (some ⟨mb, 0, none⟩)), (.int .i64 h0d), x86, x87, x88, x89, x90, x91, x92, by simp only [Act.put, List.setIfInBounds_toArray, List.set_cons_zero, List.set_cons_succ], ?_⟩
                        exact ⟨fun h => hF.out.f0 (by simpa using h), fun h => hF.out.f1 (by simpa using h), fun h => hF.out.f2 (by simpa using h), fun h => hF.out.f3 (by simpa using h), fun h => hF.out.f4 (by simpa using h), fun _ => rfl, fun h => hF.out.f6 (by simpa using h), fun h => hF.out.f7 (by simpa using h), fun h => hF.out.f8 (by simpa using h), fun h => hF.out.f9 (by simpa using h), fun h => hF.out.f10 (by simpa using h), fun h => hF.out.f11 (by simpa using h), fun h => hF.out.f12 (by simpa using h), fun h => hF.out.f13 (by simpa using h), hF.out.m, fun h => hF.out.s6 (by simpa using h), fun h => by have := hF.out.o13 (by simpa using h); simpa using this, fun h => by have := hF.out.o1312 (by simpa using h); simpa using this, fun h => by have := hF.out.o12 (by simpa using h); simpa using this, fun h => by have := hF.out.o120 (by simpa using h); simpa using this, fun h => hF.out.l0 (by simpa using h), fun h h2 => hF.out.bs (by simpa using h) (by simpa using h2), fun h => hF.out.l1 (by simpa using h)⟩
                      · intro d a W hI hd hdep
                        obtain ⟨cb, na, nn, nc, x6, x80, x81, x82, x83, x84, x85, x86, x87, x88, x89, x90, x91, x92, rfl, hF⟩ := hI
                        clear hdep hd
                        intro K hK
                        simp only [Act.put, List.setIfInBounds_toArray, List.set_cons_zero, List.set_cons_succ]
                        go_simp
                        refine hK.out _ _ ⟨cb, na, nn, nc, x6, x80, x81, x82, x83, x84, x85, (.slice (some ⟨mb, 0, none⟩) mn mc), x87, x88, x89, x90, x91, x92, by simp only [Act.put, List.setIfInBounds_toArray, List.set_cons_zero, List.set_cons_succ], ?_⟩
                        exact ⟨fun h => hF.out.f0 (by simpa using h), fun h => hF.out.f1 (by simpa using h), fun h => hF.out.f2 (by simpa using h), fun h => hF.out.f3 (by simpa using h), fun h => hF.out.f4 (by simpa using h), fun h => hF.out.f5 (by simpa using h), fun _ => rfl, fun h => hF.out.f7 (by simpa using h), fun h => hF.out.f8 (by simpa using h), fun h => hF.out.f9 (by simpa using h), fun h => hF.out.f10 (by simpa using h), fun h => hF.out.f11 (by simpa using h), fun h => hF.out.f12 (by simpa using h), fun h => hF.out.f13 (by simpa using h), hF.out.m, fun h => hF.out.s6 (by simpa using h), fun h => by have := hF.out.o13 (by simpa using h); simpa using this, fun h => by have := hF.out.o1312 (by simpa using h); simpa using this, fun h => by have := hF.out.o12 (by simpa using h); simpa using this, fun h => by have := hF.out.o120 (by simpa using h); simpa using this, fun h => hF.out.l0 (by simpa using h), fun h h2 => hF.out.bs (by simpa using h) (by simpa using h2), fun h => hF.out.l1 (by simpa using h)⟩
                      · intro d a W hI hd hdep
                        obtain ⟨cb, na, nn, nc, x6, x80, x81, x82, x83, x84, x85, x86, x87, x88, x89, x90, x91, x92, rfl, hF⟩ := hI
                        clear hdep hd
                        intro K hK
                        simp only [Act.put, List.setIfInBounds_toArray, List.set_cons_zero, List.set_cons_succ]
                        go_simp
                        refine hK.out _ _ ⟨cb, na, nn, nc, x6, x80, x81, x82, x83, x84, x85, x86, (.int .i64 (j : Int)), x88, x89, x90, x91, x92, by simp only [Act.put, List.setIfInBounds_toArray, List.set_cons_zero, List.set_cons_succ], ?_⟩
                        exact ⟨fun h => hF.out.f0 (by simpa using h), fun h => hF.out.f1 (by simpa using h), fun h => hF.out.f2 (by simpa using h), fun h => hF.out.f3 (by simpa using h), fun h => hF.out.f4 (by simpa using h), fun h => hF.out.f5 (by simpa using h), fun h => hF.out.f6 (by simpa using h), fun _ => rfl, fun h => hF.out.f8 (by simpa using h), fun h => hF.out.f9 (by simpa using h), fun h => hF.out.f10 (by simpa using h), fun h => hF.out.f11 (by simpa using h), fun h => hF.out.f12 (by simpa using h), fun h => hF.out.f13 (by simpa using h), hF.out.m, fun h => hF.out.s6 (by simpa using h), fun h => by have := hF.out.o13 (by simpa using h); simpa using this, fun h => by have := hF.out.o1312 (by simpa using h); simpa using this, fun h => by have := hF.out.o12 (by simpa using h); simpa using this, fun h => by have := hF.out.o120 (by simpa using h); simpa using this, fun h => hF.out.l0 (by simpa using h), fun h h2 => hF.out.bs (by simpa using h) (by simpa using h2), fun h => hF.out.l1 (by simpa using h)⟩
                      · intro d a W hI hd hdep
                        obtain ⟨cb, na, nn, nc, x6, x80, x81, x82, x83, x84, x85, x86, x87, x88, x89, x90, x91, x92, rfl, hF⟩ := hI
                        have hd6 : d 6 = true := dep_of hdep 6 (by kernel_rfl)
                        have hd7 : d 7 = true := dep_of hdep 7 (by kernel_rfl)
                        obtain rfl := hF.out.f6 hd6
                        obtain rfl := hF.out.f7 hd7
                        have hj0 := HJN.out.1
                        have hj1 := HJN.out.2
                        clear hdep hd hd6 hd7
                        intro K hK
                        simp only [Act.put, List.setIfInBounds_toArray, List.set_cons_zero, List.set_cons_succ]
                        go_simp
                        refine hK.out _ _ ⟨cb, na, nn, nc, x6, x80, x81, x82, x83, x84, x85, (.slice (some ⟨mb, 0, none⟩) mn mc), (.int .i64 (j : Int)), (.pointer (some ⟨mb, j, none⟩)), x89, x90, x91, x92, by simp only [Act.put, List.setIfInBounds_toArray, List.set_cons_zero, List.set_cons_succ], ?_⟩
                        exact ⟨fun h => hF.out.f0 (by simpa using h), fun h => hF.out.f1 (by simpa using h), fun h => hF.out.f2 (by simpa using h), fun h => hF.out.f3 (by simpa using h), fun h => hF.out.f4 (by simpa using h), fun h => hF.out.f5 (by simpa using h), fun h => hF.out.f6 (by simpa using h), fun h => hF.out.f7 (by simpa using h), fun _ => rfl, fun h => hF.out.f9 (by simpa using h), fun h => hF.out.f10 (by simpa using h), fun h => hF.out.f11 (by simpa using h), fun h => hF.out.f12 (by simpa using h), fun h => hF.out.f13 (by simpa using h), hF.out.m, fun h => hF.out.s6 (by simpa using h), fun h => by have := hF.out.o13 (by simpa using h); simpa using this, fun h => by have := hF.out.o1312 (by simpa using h); simpa using this, fun h => by have := hF.out.o12 (by simpa using h); simpa using this, fun h => by have := hF.out.o120 (by simpa using h); simpa using this, fun h => hF.out.l0 (by simpa using h), fun h h2 => hF.out.bs (by simpa using h) (by simpa using h2), fun h => hF.out.l1 (by simpa using h)⟩
                      · intro d a W hI hd hdep
                        obtain ⟨cb, na, nn, nc, x6, x80, x81, x82, x83, x84, x85, x86, x87, x88, x89, x90, x91, x92, rfl, hF⟩ := hI
                        have hd8 : d 8 = true := dep_of hdep 8 (by kernel_rfl)
                        obtain rfl := hF.out.f8 hd8
                        have a0 := HMJ.out W hF.out.m
                        clear hdep hd hd8
                        intro K hK
                        simp only [Act.put, List.setIfInBounds_toArray, List.set_cons_zero, List.set_cons_succ]
                        go_simp
                        refine hK.out _ _ ⟨cb, na, nn, nc, x6, x80, x81, x82, x83, x84, x85, x86, x87, (.pointer (some ⟨mb, j, none⟩)), (.int .i64 z), x90, x91, x92, by simp only [Act.put, List.setIfInBounds_toArray, List.set_cons_zero, List.set_cons_succ], ?_⟩
                        exact ⟨fun h => hF.out.f0 (by simpa using h), fun h => hF.out.f1 (by simpa using h), fun h => hF.out.f2 (by simpa using h), fun h => hF.out.f3 (by simpa using h), fun h => hF.out.f4 (by simpa using h), fun h => hF.out.f5 (by simpa using h), fun h => hF.out.f6 (by simpa using h), fun h => hF.out.f7 (by simpa using h), fun h => hF.out.f8 (by simpa using h), fun _ => rfl, fun h => hF.out.f10 (by simpa using h), fun h => hF.out.f11 (by simpa using h), fun h => hF.out.f12 (by simpa using h), fun h => hF.out.f13 (by simpa using h), hF.out.m, fun h => hF.out.s6 (by simpa using h), fun h => by have := hF.out.o13 (by simpa using h); simpa using this, fun h => by have := hF.out.o1312 (by simpa using h); simpa using this, fun h => by have := hF.out.o12 (by simpa using h); simpa using this, fun h => by have := hF.out.o120 (by simpa using h); simpa using this, fun h => hF.out.l0 (by simpa using h), fun h h2 => hF.out.bs (by simpa using h) (by simpa using h2), fun h => hF.out.l1 (by simpa using h)⟩
                      · intro d a W hI hd hdep
                        obtain ⟨cb, na, nn, nc, x6, x80, x81, x82, x83, x84, x85, x86, x87, x88, x89, x90, x91, x92, rfl, hF⟩ := hI
                        have hd1 : d 1 = true := dep_of hdep 1 (by kernel_rfl)
                        have hd2 : d 2 = true := dep_of hdep 2 (by kernel_rfl)
                        have hd5 : d 5 = true := dep_of hdep 5 (by kernel_rfl)
                        have hd9 : d 9 = true := dep_of hdep 9 (by kernel_rfl)
                        obtain rfl := hF.out.f1 hd1
                        obtain rfl := hF.out.f2 hd2
                        obtain rfl := hF.out.f5 hd5
                        obtain rfl := hF.out.f9 hd9
                        clear hdep hd hd1 hd2 hd5 hd9
                        intro K hK
                        simp only [Act.put, List.setIfInBounds_toArray, List.set_cons_zero, List.set_cons_succ]
                        go_simp
                        refine hK.out _ _ ⟨cb, na, nn, nc, x6, x80, (.int .i64 (k : Int)), (.int .i64 (col : Int)), x83, x84, (.int .i64 h0d), x86, x87, x88, (.int .i64 z), (.agg #[.int .i64 (k : Int), .int .i64 (col : Int), .int .i64 h0d, .int .i64 z]), x91, x92, by simp only [Act.put, List.setIfInBounds_toArray, List.set_cons_zero, List.set_cons_succ], ?_⟩
                        exact ⟨fun h => hF.out.f0 (by simpa using h), fun h => hF.out.f1 (by simpa using h), fun h => hF.out.f2 (by simpa using h), fun h => hF.out.f3 (by simpa using h), fun h => hF.out.f4 (by simpa using h), fun h => hF.out.f5 (by simpa using h), fun h => hF.out.f6 (by simpa using h), fun h => hF.out.f7 (by simpa using h), fun h => hF.out.f8 (by simpa using h), fun h => hF.out.f9 (by simpa using h), fun _ => rfl, fun h => hF.out.f11 (by simpa using h), fun h => hF.out.f12 (by simpa using h), fun h => hF.out.f13 (by simpa using h), hF.out.m, fun h => hF.out.s6 (by simpa using h), fun h => by have := hF.out.o13 (by simpa using h); simpa using this, fun h => by have := hF.out.o1312 (by simpa using h); simpa using this, fun h => by have := hF.out.o12 (by simpa using h); simpa using this, fun h => by have := hF.out.o120 (by simpa using h); simpa using this, fun h => hF.out.l0 (by simpa using h), fun h h2 => hF.out.bs (by simpa using h) (by simpa using h2), fun h => hF.out.l1 (by simpa using h)⟩
                      · intro d a W hI hd hdep
                        obtain ⟨cb, na, nn, nc, x6, x80, x81, x82, x83, x84, x85, x86, x87, x88, x89, x90, x91, x92, rfl, hF⟩ := hI
                        have hd10 : d 10 = true := dep_of hdep 10 (by kernel_rfl)
                        obtain rfl := hF.out.f10 hd10
                        have HN12 : Hid (d 12 = false) := no_later hF.out.o12 hd
                        clear hdep hd hd10
                        intro K hK
                        simp only [Act.put, List.setIfInBounds_toArray, List.set_cons_zero, List.set_cons_succ]
                        go_simp
                        refine hK.out _ _ ⟨W.heap.size, na, nn, nc, x6, x80, x81, x82, x83, x84, x85, x86, x87, x88, x89, (.agg #[.int .i64 (k : Int), .int .i64 (col : Int), .int .i64 h0d, .int .i64 z]), (.slice (some ⟨W.heap.size, 0, none⟩) 1 1), x92, by simp only [Act.put, List.setIfInBounds_toArray, List.set_cons_zero, List.set_cons_succ], ?_⟩
                        have B1 := below_alloc W (Obj.cells #[.int .i64 (k : Int), .int .i64 (col : Int), .int .i64 h0d, .int .i64 z] 39)
                        exact ⟨fun h => hF.out.f0 (by simpa using h), fun h => hF.out.f1 (by simpa using h), fun h => hF.out.f2 (by simpa using h), fun h => hF.out.f3 (by simpa using h), fun h => hF.out.f4 (by simpa using h), fun h => hF.out.f5 (by simpa using h), fun h => hF.out.f6 (by simpa using h), fun h => hF.out.f7 (by simpa using h), fun h => hF.out.f8 (by simpa using h), fun h => hF.out.f9 (by simpa using h), fun h => hF.out.f10 (by simpa using h), fun _ => rfl, fun h => hF.out.f12 (by simpa using h), fun h => hF.out.f13 (by simpa using h), own_below hF.out.m B1, fun h => hF.out.s6 (by simpa using h), fun h => by have := hF.out.o13 (by simpa using h); simpa using this, fun h => by have := hF.out.o1312 (by simpa using h); simpa using this, fun _ => by simp, fun h => by have := hF.out.o120 (by simpa using h); simpa using this, fun h => (hF.out.l0 (by simpa using h)).next B1, fun _ _ j u hj => by rw [cell_new]; simpa using hj, fun h => by have := HN12.out; simp [this] at h⟩
                      · intro d a W hI hd hdep
                        obtain ⟨cb, na, nn, nc, x6, x80, x81, x82, x83, x84, x85, x86, x87, x88, x89, x90, x91, x92, rfl, hF⟩ := hI
                        have hd0 : d 0 = true := dep_of hdep 0 (by kernel_rfl)
                        have hd11 : d 11 = true := dep_of hdep 11 (by kernel_rfl)
                        obtain rfl := hF.out.f0 hd0
                        obtain rfl := hF.out.f11 hd11
                        have hl0 := hF.out.l0 hd
                        have HN13 : Hid (d 13 = false) := no_later hF.out.o1312 hd
                        have e12 := hd11
                        have e120 := hd0
                        have hbk := hF.out.bs hd11 hd
                        obtain ⟨v', W1, hrun, how, hgw, -, -⟩ := run_append_own_at (P := Try.prog) W (w.heap.size + 1) 26 26 39 i0 _ 4 32 Try.underlying26 H39.out.1 H39.out.2.1 H39.out.2.2.1 H39.out.2.2.2 rfl (by omega) (.slice vo vn vc) CC.length (ccs CC) hl0.lr.cl ⟨cb, 0, none⟩ 1 1 [.int .i64 (k : Int), .int .i64 (col : Int), .int .i64 h0d, .int .i64 z] rfl (fun j u hj => by rw [Addr.add_lit, Nat.zero_add]; exact hbk j u hj) (by intro u hu; simp at hu; rcases hu with rfl | rfl | rfl | rfl <;> rfl) (by have := HFEW.out; unfold maxLen; omega) (by have := HFEW.out; omega) hl0.lr.gb.lt
                        obtain ⟨na2, nn2, nc2, rfl⟩ := own_form how
                        have HL1 : Hid (LX w T n (.slice ao ps.length c) ps be bf bw br bm cf E F V R M (.slice ra rn rc) us RL (.slice na2 nn2 nc2) (CC ++ [((k : Int), (col : Int), h0d, z)]) BB (.slice xo xn xc) X B2 (.slice (some ⟨mb, 0, none⟩) mn mc) Y W1) := hl0.clash hgw (by rw [ccs_app, List.length_append]; exact how)
                        clear hl0 hbk how hgw
                        clear hdep hd hd0 hd11
                        intro K hK
                        refine step_call_append (sv := (.slice vo vn vc)) (xv := .slice (some ⟨cb, 0, none⟩) 1 1) (v := .slice na2 nn2 nc2) (W1 := W1) (by rfl) _ _ 26 (by rfl) (by simp only [Act.put, List.setIfInBounds_toArray, List.set_cons_zero, List.set_cons_succ]; rfl) (by simp only [Act.put, List.setIfInBounds_toArray, List.set_cons_zero, List.set_cons_succ]; rfl) (by exact hrun) ?_
                        simp only [Act.put, List.setIfInBounds_toArray, List.set_cons_zero, List.set_cons_succ]
                        refine hK.out _ _ ⟨cb, na2, nn2, nc2, x6, (.slice vo vn vc), x81, x82, x83, x84, x85, x86, x87, x88, x89, x90, (.slice (some ⟨cb, 0, none⟩) 1 1), (.slice na2 nn2 nc2), by simp only [Act.put, List.setIfInBounds_toArray, List.set_cons_zero, List.set_cons_succ], ?_⟩
                        exact ⟨fun h => hF.out.f0 (by simpa using h), fun h => hF.out.f1 (by simpa using h), fun h => hF.out.f2 (by simpa using h), fun h => hF.out.f3 (by simpa using h), fun h => hF.out.f4 (by simpa using h), fun h => hF.out.f5 (by simpa using h), fun h => hF.out.f6 (by simpa using h), fun h => hF.out.f7 (by simpa using h), fun h => hF.out.f8 (by simpa using h), fun h => hF.out.f9 (by simpa using h), fun h => hF.out.f10 (by simpa using h), fun h => hF.out.f11 (by simpa using h), fun _ => rfl, fun h => by have := HN13.out; simp [this] at h, HL1.out.m, fun h => hF.out.s6 (by simpa using h), fun h => by have := hF.out.o13 (by simpa using h); simpa using this, fun _ => by simp, fun _ => by simpa using e12, fun _ => by simpa using e120, fun h => by simp at h, fun _ h => by simp at h, fun _ => HL1.out⟩
                      · intro d a W hI hd hdep
                        obtain ⟨cb, na, nn, nc, x6, x80, x81, x82, x83, x84, x85, x86, x87, x88, x89, x90, x91, x92, rfl, hF⟩ := hI
                        have hd12 : d 12 = true := dep_of hdep 12 (by kernel_rfl)
                        obtain rfl := hF.out.f12 hd12
                        have e13 := hF.out.o120 hd12
                        have e1312 := hd12
                        clear hdep hd hd12
                        intro K hK
                        simp only [Act.put, List.setIfInBounds_toArray, List.set_cons_zero, List.set_cons_succ]
                        go_simp
                        refine hK.out _ _ ⟨cb, na, nn, nc, (.slice na nn nc), x80, x81, x82, x83, x84, x85, x86, x87, x88, x89, x90, x91, (.slice na nn nc), by simp only [Act.put, List.setIfInBounds_toArray, List.set_cons_zero, List.set_cons_succ], ?_⟩
                        exact ⟨fun h => hF.out.f0 (by simpa using h), fun h => hF.out.f1 (by simpa using h), fun h => hF.out.f2 (by simpa using h), fun h => hF.out.f3 (by simpa using h), fun h => hF.out.f4 (by simpa using h), fun h => hF.out.f5 (by simpa using h), fun h => hF.out.f6 (by simpa using h), fun h => hF.out.f7 (by simpa using h), fun h => hF.out.f8 (by simpa using h), fun h => hF.out.f9 (by simpa using h), fun h => hF.out.f10 (by simpa using h), fun h => hF.out.f11 (by simpa using h), fun h => hF.out.f12 (by simpa using h), fun _ => rfl, hF.out.m, fun h => by simp at h, fun _ => by simpa using e13, fun _ => by simpa using e1312, fun h => by have := hF.out.o12 (by simpa using h); simpa using this, fun h => by have := hF.out.o120 (by simpa using h); simpa using this, fun h => hF.out.l0 (by simpa using h), fun h h2 => hF.out.bs (by simpa using h) (by simpa using h2), fun h => hF.out.l1 (by simpa using h)⟩
                    · intro d a W hI hall
                      obtain ⟨cb, na, nn, nc, x6, x80, x81, x82, x83, x84, x85, x86, x87, x88, x89, x90, x91, x92, rfl, hF⟩ := hI
                      simp only [List.length_cons, List.length_nil] at hall
                      obtain rfl := hF.out.f0 (hall 0 (by omega))
                      obtain rfl := hF.out.f1 (hall 1 (by omega))
                      obtain rfl := hF.out.f2 (hall 2 (by omega))
                      obtain rfl := hF.out.f3 (hall 3 (by omega))
                      obtain rfl := hF.out.f4 (hall 4 (by omega))
                      obtain rfl := hF.out.f5 (hall 5 (by omega))
                      obtain rfl := hF.out.f6 (hall 6 (by omega))
                      obtain rfl := hF.out.f7 (hall 7 (by omega))
                      obtain rfl := hF.out.f8 (hall 8 (by omega))
                      obtain rfl := hF.out.f9 (hall 9 (by omega))
                      obtain rfl := hF.out.f10 (hall 10 (by omega))
                      obtain rfl := hF.out.f11 (hall 11 (by omega))
                      obtain rfl := hF.out.f12 (hall 12 (by omega))
                      obtain rfl := hF.out.f13 (hall 13 (by omega))
                      have HL7 : Hid (LX w T n (.slice ao ps.length c) ps be bf bw br bm cf E F V R M (.slice ra rn rc) us RL (.slice na nn nc) (CC ++ [((k : Int), (col : Int), h0d, z)]) BB (.slice xo xn xc) X B2 (.slice (some ⟨mb, 0, none⟩) mn mc) Y W) := hF.out.l1 (hall 12 (by omega))
                      clear hF hall HM0 HMJ
                      simp only [Act.put, List.setIfInBounds_toArray, List.set_cons_zero, List.set_cons_succ]
                      go_wp2_with fail
                      go_roundw
                      case rel => exact ⟨j + 1, na, nn, nc, by omega, rfl, by go_num, by rw [HNX.out]; exact HL7.out⟩
                      case measure => simp [intOf]; omega
                  · have HL8 : Hid (LR w T n (.slice ao ps.length c) ps be bf bw br bm cf E F V R M (.slice ra rn rc) us RL (.slice vo vn vc) (clsN ps (sts ps E F V) T k ++ clsR ps (sts ps E F V) T k (col + 1)) wr ∧ wr.ownsRow BB 3 1 (.slice xo xn xc) (rowL ps (sts ps E F V) T k (col + 1)).length ((rowL ps (sts ps E F V) T k (col + 1)).map (Value.int .i64)) ∧ BB ≤ wr.heap.size) := by
                      rw [← clsF_end ps (sts ps E F V) T k col (j - 1) (by have := HTLN.out; have := HMN2.out; omega), HX2.out]
                      exact ⟨HL.out.lr, HL.out.x, Nat.le_trans HL.out.b2 HL.out.sz⟩
                    have hjn : ¬ (j : Int) < (mn : Int) := by omega
                    have hT30 : T ≤ 30 := HT.out.1
                    have hcl := HCL.out
                    clear HL
                    go_wp2_with fail
                    go_roundw
                    case rel => exact ⟨col + 1, vo, vn, vc, xo, xn, xc, by omega, rfl, rfl, by go_num, HL8⟩
                    case measure => simp [intOf]; omega
        · obtain ⟨X, HX⟩ : ∃ X, Hid (rowL ps (sts ps E F V) T k col = X) := ⟨_, (rfl : _ = _)⟩
          obtain ⟨C, HC⟩ : ∃ C, Hid (clsN ps (sts ps E F V) T k ++ clsR ps (sts ps E F V) T k col = C) := ⟨_, (rfl : _ = _)⟩
          have HN1 : Hid (rowsL ps (sts ps E F V) T (k + 1) = RL ++ [X] ∧ clsN ps (sts ps E F V) T (k + 1) = C) := by
            obtain rfl : col = T + 1 := by omega
            exact ⟨by rw [rowsL_succ, HRL.out, HX.out], by rw [← HC.out]; rfl⟩
          rw [HX.out, HC.out] at HLM
          have hcn : ¬ (col : Int) ≤ (T : Int) := by omega
          have hsw : w.heap.size + 1 ≤ wr.heap.size := HLM.out.1.gb.lt
          have hul : us.length ≤ 20 := by rw [HLM.out.1.ul, ← HRL.out, rowsL_length]; have := HLT.out; have := HT.out; omega
          have HRO : Hid ((wr.alloc (Obj.cells #[(.slice xo xn xc)] 35)).ownsRow (w.heap.size + 1) 35 1 (.slice ra rn rc) us.length us) := HLM.out.1.ro.alloc _
          go_wp2_with (at_builtin; refine wpList_append_own _ rfl _ _ 25 rfl (w.heap.size + 1) 35 i5 (.slice none 0 0) 1 24 Try.underlying25 hi5 hz5 hs5 hb5 rfl (by decide) _ _ _ rfl HRO.out ⟨wr.heap.size, 0, none⟩ 1 1 [(.slice xo xn xc)] rfl rfl (World.news_of_block (t := 35) (fr := (0, 0)) (heap_alloc_new wr _)) (by simp [Value.oneCell']) (by unfold maxLen; omega) (by omega) (by simp; omega) ?_)
          intro v' w4 hown' hgrow _
          have HL4 : Hid (∃ us, LR w T n (.slice ao ps.length c) ps be bf bw br bm cf E F V R M v' us (rowsL ps (sts ps E F V) T (k + 1)) (.slice vo vn vc) (clsN ps (sts ps E F V) T (k + 1)) w4) := by
            refine ⟨us ++ [(.slice xo xn xc)], ?_⟩
            rw [HN1.out.1, HN1.out.2]
            exact (HLM.out.1.next (below_alloc wr _)).rows HBL.out (own_below HLM.out.2.1 (below_alloc wr _)) hgrow (by rw [List.length_append]; exact hown')
          obtain ⟨v'a, v'n, v'c, rfl⟩ := own_form hown'
          have hn20 : n ≤ 20 := HT.out.2.1
          have hkn := HLT.out
          clear hown' hgrow HLM HRO hsw hul z0
          go_wp2_with fail
          go_roundw
          case rel => exact ⟨k + 1, v'a, v'n, v'c, vo, vn, vc, by omega, rfl, rfl, by go_num, HL4⟩
          case measure => simp [intOf]; omega
    · obtain rfl : k = n := by omega
      have HFIN : Hid (LO w T k ps (.slice ra rn rc) (.slice vo vn vc) wr) := by
        refine ⟨hlr.gb.below, (sts ps E F V), ⟨E, F, V, R, M, HFA.out, rfl⟩, hlr.rws (by rw [rowsL_length]; have := HT.out; omega) (fun r hr => ?_), cls_of_own hlr.cl ?_⟩
        · unfold rowsL at hr
          obtain ⟨i, _, rfl⟩ := List.mem_map.1 hr
          rw [rowL_length]; have := HT.out; omega
        · have := cls_few (S := (sts ps E F V)) (T := T) (k := k) (non := 0) HT.out.2.2 HT.out.1 HT.out.2.1 0 (by omega)
          rw [List.length_append] at this; omega
      clear HLK hlr
      go_wp2_with fail
      go_ret2
      exact ⟨_, _, _, _, _, _, by simp, HFIN.out⟩
end Go.Proofs.Ytdclhkjhbippdaa
