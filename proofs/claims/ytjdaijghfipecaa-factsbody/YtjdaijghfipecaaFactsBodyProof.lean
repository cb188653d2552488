/-
  FactsBody returns true whatever grammar, symbols and sets are handed in, and changes nothing that it was handed; no condition.
-/
import Derived.Test.YtjdaijghfipecaaRows
import Derived.WalkKit
import Derived.ProofKit
import Derived.OpenShut
import Derived.ShutString
import Derived.SizedLaws
import Derived.ChangeOld
import Derived.Below
import Derived.Carry
import Derived.WalkLawsBesides
import Derived.WalkSpells
import Derived.Test.YtjdaijghfipecaaOpens
import Derived.Test.YtjdaijghfipecaaFcFind
namespace Go.Proofs.Ytjdaijghfipecaa.factsBody
open Go.ChangeShapes Go.WideShapes Go.ChangeAt Go.RowKit
open Go.ChangeMaps (open_string shut_string)
open Cg
set_option linter.unusedVariables false

theorem own : ownKnob Try.prog.godebug = none := by kernel_rfl
theorem laidOut : laidOutB Try.prog = true := by kernel_rfl

theorem u64_wd {a : Int} (h : (Lit.int .u64 a).wf = true) : ∃ A : Wd, a = (A.toNat : Int) := by
  have h2 : 0 ≤ a ∧ a < 18446744073709551616 := by
    simp [Lit.wf, IntKind.min, IntKind.max, IntKind.signed, IntKind.bits] at h
    omega
  refine ⟨BitVec.ofNat 64 a.toNat, ?_⟩
  rw [BitVec.toNat_ofNat]
  omega
theorem any_not (M : Nat → Bool) (l : List Sy) : (l.any fun s => !mks M true s) = !amk M true l := by
  unfold amk
  induction l with
  | nil => rfl
  | cons s l ih => simp only [List.any_cons, List.all_cons, ih, Bool.not_and]
theorem brs_three {y : Wd} (h : BgR brs [(2, 0), (1, 1)] 4#64 y) : y = 3#64 := by
  obtain ⟨E, F, M, hE, hM, hF, rfl⟩ := h
  have e0 : E 0 = true := hE.cl (0, []) (by simp [brs]) rfl
  have m0 : M 0 = true := hM.cl (0, []) (by simp [brs]) rfl
  have f1 : le (F 0) 1#64 := by
    refine hF.sn (fun _ => 1#64) ?_ 0
    intro p hp _
    simp only [brs, List.mem_cons, List.not_mem_nil, or_false] at hp
    rcases hp with rfl | rfl
    · exact zero_le _
    · show le (1#64 <<< 0) 1#64
      exact le_refl _
  have f2 : le 1#64 (F 0) := by
    have := hF.cl (0, [(1, 0), (2, 0), (1, 1), (2, 0)]) (by simp [brs]) (by simp [amk, mks, m0])
    exact this
  have f3 := le_anti f1 f2
  show F 0 ||| (if E 0 = true then bg E F [(1, 1)] 4#64 else 0#64) = 3#64
  rw [e0, f3, if_pos rfl]
  unfold bg
  rw [if_pos rfl]
  rfl
theorem begErr_zero {t n : Int} {ps : List Pd} {l : List Sy} (h : begErr t n ps l = 0) : chk t n ps = 0 := by
  unfold begErr at h
  split at h
  · assumption
  · exact h
theorem begErr_prod {t n : Int} {ps : List Pd} (h : chk t n ps = 0) {q : Nat} (hq : q < ps.length) : begErr t n ps ps[q].2 = 0 := by
  have h1 := chkP_zero ((chk_zero h).2.2 _ (List.getElem_mem hq))
  unfold begErr
  rw [if_pos h, if_neg (by omega), if_pos h1.2.2]

/-! ### The walk: the Go text returns true. -/
set_option maxHeartbeats 8000000 in
set_option maxRecDepth 20000 in
theorem walk (a0t : Int) (a0n : Int) (a0s : Value) (a0p : List Pd) (v1 : Value) (a1l : List Sy) (a2 : Int) (a3 : Int) (w : World) (w0s : Pds w a0s a0p) (w1s : Syms w v1 a1l) (w2 : (Lit.int .u64 a2).wf = true) (w3 : (Lit.int .u64 a3).wf = true) :
    Calls Try.prog 4 #[.agg #[.int .i64 a0t, .int .i64 a0n, a0s], v1, .int .u64 a2, .int .u64 a3] w fun e w' => e = .returned (.bool true) ∧ Below w.heap.size w w' := by
  have HG0 : Hid (Gb w w.heap.size a0t a0n a0s a0p (w.alloc (Obj.cells #[.int .i64 a0t, .int .i64 a0n, a0s] 24))) := Gb.box w0s a0t a0n
  obtain ⟨A, rfl⟩ := u64_wd w2
  obtain ⟨Z, rfl⟩ := u64_wd w3
  have HSY : Hid (Syms w v1 a1l) := w1s
  obtain ⟨ao, c, rfl, hm, hcs⟩ := w0s
  obtain ⟨bo, bc, rfl, hlm, -⟩ := w1s
  have HCS : Hid (a0p = [] ∨ _) := hcs
  clear hcs w2 w3
  revert HG0 hm HCS HSY hlm
  generalize a0t = t
  generalize a0n = n0
  generalize a0p = ps
  generalize a1l = l
  intro _ _ _ _ _
  rename Hid (Gb _ _ _ _ _ _ _) => HG0
  rename Hid (Syms _ _ _) => HSY
  rename Hid (ps = [] ∨ _) => HCS
  have hmf : ∀ (fn : Fn) (first cap : Array Value) (w : World), (Instr.makeFunc fn first cap).run Try.prog w = .ok (.func fn first cap) w := fun _ _ _ _ => rfl
  have ho := or64 A Z
  obtain ⟨AZ, HAZ⟩ : ∃ AZ, Hid (A ||| Z = AZ) := ⟨_, (rfl : A ||| Z = A ||| Z)⟩
  rw [HAZ.out] at ho
  go_enter Try.func4, Try.ntmps4
  go_wp2_with fail
  refine (brackets_any _).mono ?_
  rintro _ w1 ⟨bg1, rfl, hpd, hb⟩
  have HG1 : Hid (Gb w w.heap.size t n0 (.slice ao ps.length c) ps w1) := HG0.out.next hb
  have HP1 : Hid (Pds w1 (.slice (some ⟨bg1, 0, none⟩) 2 2) brs) := hpd
  clear hb hpd HG0
  go_wp2_with fail
  refine (non_any 0 _).mono ?_
  rintro _ w2 ⟨rfl, hb⟩
  have HG2 : Hid (Gb w w.heap.size t n0 (.slice ao ps.length c) ps w2) := HG1.out.next hb
  have HP2 : Hid (Pds w2 (.slice (some ⟨bg1, 0, none⟩) 2 2) brs) := HP1.out.below hb
  clear hb HG1 HP1
  go_wp2_with fail
  refine (term_any 1 _).mono ?_
  rintro _ w3 ⟨rfl, hb⟩
  have hba := below_alloc w3 (Obj.cells #[.int .i64 2, .int .i64 0, .int .i64 1, .int .i64 1] 41)
  have HG3 : Hid (Gb w w.heap.size t n0 (.slice ao ps.length c) ps (w3.alloc (Obj.cells #[.int .i64 2, .int .i64 0, .int .i64 1, .int .i64 1] 41))) := (HG2.out.next hb).next hba
  have HP3 : Hid (Pds (w3.alloc (Obj.cells #[.int .i64 2, .int .i64 0, .int .i64 1, .int .i64 1] 41)) (.slice (some ⟨bg1, 0, none⟩) 2 2) brs) := (HP2.out.below hb).below hba
  have HS3 : Hid (Syms (w3.alloc (Obj.cells #[.int .i64 2, .int .i64 0, .int .i64 1, .int .i64 1] 41)) (.slice (some ⟨w3.heap.size, 0, none⟩) 2 2) [(2, 0), (1, 1)]) := by
    have e0 := cell_blk (heap_alloc_new w3 (Obj.cells #[.int .i64 2, .int .i64 0, .int .i64 1, .int .i64 1] 41))
    refine ⟨_, _, rfl, by decide, Or.inr ⟨w3.heap.size, 0, rfl, by simp, fun j hj => ?_⟩⟩
    have : j = 0 ∨ j = 1 := by simp at hj; omega
    rcases this with rfl | rfl
    · exact ⟨e0 0, e0 1⟩
    · exact ⟨e0 2, e0 3⟩
  clear hb hba HG2 HP2
  go_wp2_with fail
  have hc1 := Begin_ok 2 1 _ brs _ [(2, 0), (1, 1)] 4#64 _ HP3.out HS3.out (by decide)
  refine hc1.mono ?_
  rintro _ w4 ⟨y3, rfl, hy3, hb⟩
  obtain rfl := brs_three hy3
  have HG4 : Hid (Gb w w.heap.size t n0 (.slice ao ps.length c) ps w4) := HG3.out.next hb
  have k0 := HG4.out.c0
  have k1 := HG4.out.c1
  have k2 := HG4.out.c2
  have h33 : (((3#64 : Wd).toNat : Int) != 3) = false := by decide
  clear hb hc1 hy3 HG3 HP3 HS3
  go_wp2_with fail
  clear h33
  by_cases hE : begErr t n0 ps l = 0
  · obtain ⟨n, rfl⟩ : ∃ n : Nat, n0 = (n : Int) := ⟨n0.toNat, by have := okTN_le (chk_zero (begErr_zero hE)).1; omega⟩
    have HK : Hid (chk t n ps = 0) := begErr_zero hE
    have HRG : Hid (Rg t n ps) := rg_of HK.out
    refine (Begin_ok t n _ ps _ l A w4 HG4.out.pds (HSY.out.below HG4.out.below) hE).mono ?_
    rintro _ w5 ⟨x, rfl, hx, hb⟩
    have HX : Hid (BgR ps l A x) := hx
    have HG5 : Hid (Gb w w.heap.size t n (.slice ao ps.length c) ps w5) := HG4.out.next hb
    clear hx hb k0 k1 k2 HG4
    have k0 := HG5.out.c0
    have k1 := HG5.out.c1
    have k2 := HG5.out.c2
    go_wp2_with fail
    refine (Begin_ok t n _ ps _ l AZ w5 HG5.out.pds (HSY.out.below HG5.out.below) hE).mono ?_
    rintro _ w6 ⟨y, rfl, hy, hb⟩
    have HY : Hid (BgR ps l AZ y) := hy
    have HG6 : Hid (Gb w w.heap.size t n (.slice ao ps.length c) ps w6) := HG5.out.next hb
    clear hy hb k0 k1 k2 HG5 ho hE
    have k0 := HG6.out.c0
    have k1 := HG6.out.c1
    have k2 := HG6.out.c2
    go_wp2_with fail
    refine (Of_ok t n _ ps w6 HG6.out.pds HK.out).mono ?_
    rintro _ w7 ⟨be, bf, bw, br, bm, rfl, hb, E, F, V, R, M, hfx, hfa⟩
    have hba := below_alloc w7 (Obj.cells #[(.slice (some ⟨be, 0, none⟩) n n), (.slice (some ⟨bf, 0, none⟩) n n), (.slice (some ⟨bw, 0, none⟩) n n), (.slice (some ⟨br, 0, none⟩) n n), (.slice (some ⟨bm, 0, none⟩) n n)] 32)
    have hbx := row_vals5 w7 (.slice (some ⟨be, 0, none⟩) n n) (.slice (some ⟨bf, 0, none⟩) n n) (.slice (some ⟨bw, 0, none⟩) n n) (.slice (some ⟨br, 0, none⟩) n n) (.slice (some ⟨bm, 0, none⟩) n n)
    obtain ⟨w8, HW8⟩ : ∃ w8, Hid (w7.alloc (Obj.cells #[(.slice (some ⟨be, 0, none⟩) n n), (.slice (some ⟨bf, 0, none⟩) n n), (.slice (some ⟨bw, 0, none⟩) n n), (.slice (some ⟨br, 0, none⟩) n n), (.slice (some ⟨bm, 0, none⟩) n n)] 32) = w8) := ⟨_, (rfl : _ = _)⟩
    rw [HW8.out] at hba hbx
    have HG8 : Hid (Gb w w.heap.size t n (.slice ao ps.length c) ps w8) := (HG6.out.next hb).next hba
    have HFX8 : Hid (Fx n be bf bw br bm E F V R M w8) := hfx.next hba
    have HFA : Hid (Fa ps E F V R M) := hfa
    have HBX8 : Hid (w8.rowIs w7.heap.size 32 5 (fv (.slice (some ⟨be, 0, none⟩) n n) (.slice (some ⟨bf, 0, none⟩) n n) (.slice (some ⟨bw, 0, none⟩) n n) (.slice (some ⟨br, 0, none⟩) n n) (.slice (some ⟨bm, 0, none⟩) n n))) := hbx
    clear hb hfx hfa hba hbx k0 k1 k2 HG6
    have k2 := HG8.out.c2
    rw [← HW8.out] at k2
    obtain ⟨cf, HCF⟩ : ∃ cf, Hid (w7.heap.size = cf) := ⟨_, (rfl : w7.heap.size = w7.heap.size)⟩
    rw [HCF.out] at HBX8
    go_wp2_with fail
    rw [HW8.out, HCF.out]
    clear k2 HW8
    go_loopw [73] (fun i wr => ∃ q : Nat, q ≤ ps.length ∧ i = .int .i64 (q : Int) ∧ Hid (Gb w w.heap.size t n (.slice ao ps.length c) ps wr ∧ Fx n be bf bw br bm E F V R M wr ∧ wr.rowIs cf 32 5 (fv (.slice (some ⟨be, 0, none⟩) n n) (.slice (some ⟨bf, 0, none⟩) n n) (.slice (some ⟨bw, 0, none⟩) n n) (.slice (some ⟨br, 0, none⟩) n n) (.slice (some ⟨bm, 0, none⟩) n n)))) (fun i _ => ps.length - (intOf i).toNat)
    case atStart => exact ⟨0, by omega, rfl, HG8.out, HFX8.out, HBX8.out⟩
    case round =>
      obtain ⟨q, hq, rfl, HH⟩ := hrel
      clear HG8 HFX8 HBX8
      by_cases hlt : q < ps.length
      · obtain ⟨b2, o, rfl, hb, hc⟩ := HCS.out.resolve_left (by intro e; subst e; simp at hlt)
        obtain ⟨d0, u, d1, hsy⟩ := hc q hlt
        have hbw := HH.out.1.below
        replace d0 : wr.cell? ⟨b2, o + q * 2, none⟩ = _ := (hbw.cell (p := ⟨b2, o + q * 2, none⟩) hb).trans d0
        replace d1 : wr.cell? ⟨b2, o + q * 2 + 1, none⟩ = _ := (hbw.cell (p := ⟨b2, o + q * 2 + 1, none⟩) hb).trans d1
        have HSQ : Hid (Syms wr u ps[q].2) := hsy.below hbw
        have HOQ : Hid (OkL t n ps[q].2) := HRG.out.ok q hlt
        have HEQ : Hid (begErr t n ps ps[q].2 = 0) := begErr_prod HK.out hlt
        obtain ⟨hd, e1, e2, hdn⟩ := HRG.out.hd q hlt
        have HCL : Hid (amk M true ps[q].2 = true → le (bg E F ps[q].2 0#64) (F hd)) := fun h => by have := HFA.out.f.cl ps[q] (List.getElem_mem hlt) h; rw [e2] at this; exact this
        rw [e1] at d0
        generalize ps[q].2 = lq at HSQ HOQ HEQ HCL
        clear e1 e2 hsy hc hbw
        obtain ⟨uo, uc, rfl, hum, -⟩ := HSQ.out
        have hk1 : (q : Int) < (ps.length : Int) := by omega
        obtain ⟨wa, HWA⟩ : ∃ wa, Hid (wr.alloc (Obj.cells #[.int .i64 (hd : Int), .slice uo lq.length uc] 49) = wa) := ⟨_, (rfl : _ = _)⟩
        have hba := below_alloc wr (Obj.cells #[.int .i64 (hd : Int), .slice uo lq.length uc] 49)
        have hpb := row_two wr (.int .i64 (hd : Int)) (.slice uo lq.length uc) 49
        rw [HWA.out] at hba hpb
        have HA : Hid (Gb w w.heap.size t n (.slice (some ⟨b2, o, none⟩) ps.length c) ps wa ∧ Fx n be bf bw br bm E F V R M wa ∧ wa.rowIs cf 32 5 (fv (.slice (some ⟨be, 0, none⟩) n n) (.slice (some ⟨bf, 0, none⟩) n n) (.slice (some ⟨bw, 0, none⟩) n n) (.slice (some ⟨br, 0, none⟩) n n) (.slice (some ⟨bm, 0, none⟩) n n)) ∧ wa.rowIs wr.heap.size 49 2 (fun i => if i = 0 then .int .i64 (hd : Int) else .slice uo lq.length uc) ∧ Syms wa (.slice uo lq.length uc) lq) := ⟨HH.out.1.next hba, HH.out.2.1.next hba, HH.out.2.2.of_block (hba.block _ HH.out.2.2.lt), hpb, HSQ.out.below hba⟩
        have p1 := HA.out.2.2.2.1.cell (i := 1) (by omega)
        simp only [if_neg (by omega : ¬ (1 : Nat) = 0)] at p1
        rw [← HWA.out] at p1
        obtain ⟨pb, HPB⟩ : ∃ pb, Hid (wr.heap.size = pb) := ⟨_, (rfl : wr.heap.size = wr.heap.size)⟩
        rw [HPB.out] at HA
        clear hba hpb HH HSQ
        go_wp2_with fail
        rw [HWA.out, HPB.out]
        clear p1 HWA HPB d0 d1
        have he17 := enters_of Try.func17 (by kernel_rfl) rfl
        have hcc := containsF_any 17 (.pointer (some ⟨cf, 0, none⟩)) he17 (fun s => !mks M true s) _ lq wa HA.out.2.2.2.2 (fun W i hi hbW => clos17_any t n bm cf M (.slice (some ⟨be, 0, none⟩) n n) (.slice (some ⟨bf, 0, none⟩) n n) (.slice (some ⟨bw, 0, none⟩) n n) (.slice (some ⟨br, 0, none⟩) n n) lq[i].1 lq[i].2 (HOQ.out lq[i] (List.getElem_mem hi)) W (HA.out.2.1.m.of (hbW.block _ HA.out.2.1.m.lt)) (HA.out.2.2.1.of_block (hbW.block _ HA.out.2.2.1.lt)))
        rw [any_not] at hcc
        obtain ⟨mk, HMK⟩ : ∃ mk, Hid (amk M true lq = mk) := ⟨_, (rfl : amk M true lq = amk M true lq)⟩
        rw [HMK.out] at hcc HCL
        refine hcc.mono ?_
        rintro _ wc ⟨rfl, hbc⟩
        have HC : Hid (Gb w w.heap.size t n (.slice (some ⟨b2, o, none⟩) ps.length c) ps wc ∧ Fx n be bf bw br bm E F V R M wc ∧ wc.rowIs cf 32 5 (fv (.slice (some ⟨be, 0, none⟩) n n) (.slice (some ⟨bf, 0, none⟩) n n) (.slice (some ⟨bw, 0, none⟩) n n) (.slice (some ⟨br, 0, none⟩) n n) (.slice (some ⟨bm, 0, none⟩) n n)) ∧ wc.rowIs pb 49 2 (fun i => if i = 0 then .int .i64 (hd : Int) else .slice uo lq.length uc) ∧ Syms wc (.slice uo lq.length uc) lq) := ⟨HA.out.1.next hbc, HA.out.2.1.next hbc, HA.out.2.2.1.of_block (hbc.block _ HA.out.2.2.1.lt), HA.out.2.2.2.1.of_block (hbc.block _ HA.out.2.2.2.1.lt), HA.out.2.2.2.2.below hbc⟩
        clear hcc hbc HA he17
        have k0 := HC.out.1.c0
        have k1 := HC.out.1.c1
        have k2 := HC.out.1.c2
        have p1 := HC.out.2.2.2.1.cell (i := 1) (by omega)
        simp only [if_neg (by omega : ¬ (1 : Nat) = 0)] at p1
        go_wp2_with fail
        have hcb := Begin_ok t n _ ps _ lq 0#64 wc HC.out.1.pds HC.out.2.2.2.2 HEQ.out
        refine hcb.mono ?_
        rintro _ wd ⟨yq, rfl, hyq, hbd⟩
        have HYQ : Hid (yq = bg E F lq 0#64) := by
          obtain ⟨E', F', M', i1, i2, i3, i4⟩ := hyq
          obtain rfl := i1.uniq HFA.out.e
          obtain rfl := i2.uniq HFA.out.m
          obtain rfl := i3.uniq HFA.out.f
          exact i4
        have HD : Hid (Gb w w.heap.size t n (.slice (some ⟨b2, o, none⟩) ps.length c) ps wd ∧ Fx n be bf bw br bm E F V R M wd ∧ wd.rowIs cf 32 5 (fv (.slice (some ⟨be, 0, none⟩) n n) (.slice (some ⟨bf, 0, none⟩) n n) (.slice (some ⟨bw, 0, none⟩) n n) (.slice (some ⟨br, 0, none⟩) n n) (.slice (some ⟨bm, 0, none⟩) n n))) := ⟨HC.out.1.next hbd, HC.out.2.1.next hbd, HC.out.2.2.1.of_block (hbd.block _ HC.out.2.2.1.lt)⟩
        have hpd := HC.out.2.2.2.1.of_block (hbd.block _ HC.out.2.2.2.1.lt)
        have p0 := hpd.cell (i := 0) (by omega)
        simp only [if_true] at p0
        have f1 := HD.out.2.2.cell (i := 1) (by omega)
        simp only [fv] at f1
        have f2 := HD.out.2.1.f.cell hdn
        have hdn2 : (hd : Int) < (n : Int) := by omega
        clear hcb hyq hbd k0 k1 k2 p1 HC hpd
        cases mk with
        | false =>
          go_wp2_with fail
          go_roundw
          case rel => exact ⟨q + 1, by omega, by go_num, HD.out⟩
          case measure => simp [intOf]; omega
        | true =>
          have hz := not_le (HCL.out rfl)
          rw [← HYQ.out] at hz
          go_wp2_with fail
          go_roundw
          case rel => exact ⟨q + 1, by omega, by go_num, HD.out⟩
          case measure => simp [intOf]; omega
      · have HXY : Hid (x = bg E F l A ∧ y = bg E F l AZ) := by
          obtain ⟨E', F', M', i1, i2, i3, i4⟩ := HX.out
          obtain ⟨E2, F2, M2, j1, j2, j3, j4⟩ := HY.out
          obtain rfl := i1.uniq HFA.out.e
          obtain rfl := i2.uniq HFA.out.m
          obtain rfl := i3.uniq HFA.out.f
          obtain rfl := j1.uniq HFA.out.e
          obtain rfl := j2.uniq HFA.out.m
          obtain rfl := j3.uniq HFA.out.f
          exact ⟨i4, j4⟩
        have h1 := not_le (a := x) (b := y) (by rw [HXY.out.1, HXY.out.2, ← HAZ.out]; exact bg_mono (fun _ => le_refl _) (le_orl _ _) _)
        have h2 := not_le (a := y) (b := x ||| Z) (by rw [HXY.out.1, HXY.out.2, ← HAZ.out]; exact bg_more E F A Z l)
        have h3 := or64 x Z
        obtain ⟨xz, HXZ⟩ : ∃ xz, Hid (x ||| Z = xz) := ⟨_, (rfl : x ||| Z = x ||| Z)⟩
        rw [HXZ.out] at h2 h3
        have HB : Hid (Below w.heap.size w wr) := HH.out.1.below
        clear HH HXY
        go_wp2_with fail
        go_ret
        exact ⟨by simp, HB.out⟩
  · have hc2 := fun (X : Wd) (W : World) (h : Pds W (.slice ao ps.length c) ps) (h2 : Syms W (.slice bo l.length bc) l) => Begin_bad t n0 _ ps _ l X W h h2 hE
    obtain ⟨r, HR⟩ : ∃ r, Hid (begErr t n0 ps l = r) := ⟨_, (rfl : begErr t n0 ps l = begErr t n0 ps l)⟩
    rw [HR.out] at hE
    simp only [HR.out] at hc2
    have hr2 : (r != 0) = true := by simpa using hE
    have HC2 : Hid (∀ (X : Wd) (W : World) (h : Pds W (.slice ao ps.length c) ps) (h2 : Syms W (.slice bo l.length bc) l), Calls Try.prog 7 #[.agg #[.int .i64 t, .int .i64 n0, .slice ao ps.length c], .slice bo l.length bc, .int .u64 (X.toNat : Int)] W fun e w' => e = .returned (.tuple #[.int .u64 0, .int .i64 r]) ∧ Below W.heap.size W w') := hc2
    clear hE hc2
    refine (HC2.out A w4 HG4.out.pds (HSY.out.below HG4.out.below)).mono ?_
    rintro _ w5 ⟨rfl, hb⟩
    have HG5 : Hid (Gb w w.heap.size t n0 (.slice ao ps.length c) ps w5) := HG4.out.next hb
    clear hb k0 k1 k2 HG4
    have k0 := HG5.out.c0
    have k1 := HG5.out.c1
    have k2 := HG5.out.c2
    go_wp2_with fail
    refine (HC2.out AZ w5 HG5.out.pds (HSY.out.below HG5.out.below)).mono ?_
    rintro _ w6 ⟨rfl, hb⟩
    have HG6 : Hid (Gb w w.heap.size t n0 (.slice ao ps.length c) ps w6) := HG5.out.next hb
    clear hb k0 k1 k2 HG5 ho
    go_wp2_with fail
    go_ret
    exact ⟨by simp, HG6.out.below⟩

/-! ### What the walk gives, for every argument -/
set_option maxRecDepth 100000 in
theorem contract (H : Type) (enc : TypeId × Value → H) (W : World) (base : Nat) (args : Array Value) (ds gs : List (DataW H)) (before : List MemPlace)
    (hval : ∀ (j : Nat) t v, Try.f4.params[j]? = some t → args[j]? = some v → Value.okWide Try.prog W .any base t v)
    (hW : DataW.Whole enc Try.prog Try.f4.params.toList Rows.factsBodySpec.vars false W args.toList ds gs before) (hsz : (DataW.weightsEach Try.prog (Try.f4.params.toList ++ Rows.factsBodySpec.plain.varTypes Try.prog) (ds ++ gs)).all (· ≤ reachBytes) = true) :
    Calls Try.prog 4 args W fun e W' => ∃ v, e = .returned v ∧ Rows.factsBodySpec.post enc Try.prog Try.f4 false true false false W args v W' := by
  have hW' := hW
  obtain ⟨p, q, hA0, hV, rfl, hfz, hnd⟩ := hW
  have hA : DataW.TrodAll enc Try.prog W 0 (fun _ => true) true Try.f4.params.toList args.toList ds p := hA0
  rw [Try.params4] at hA hval hsz
  obtain ⟨v0, vs0, d0, ds0, p0, q0, hargs, rfl, rfl, h0, r0⟩ := trodAll_cons hA
  obtain ⟨v1, vs1, d1, ds1, p1, q1, rfl, rfl, rfl, h1, r1⟩ := trodAll_cons r0
  obtain ⟨v2, vs2, d2, ds2, p2, q2, rfl, rfl, rfl, h2, r2⟩ := trodAll_cons r1
  obtain ⟨v3, vs3, d3, ds3, p3, q3, rfl, rfl, rfl, h3, r3⟩ := trodAll_cons r2
  obtain ⟨rfl, rfl, rfl⟩ := trodAll_nil r3
  obtain rfl : args = #[v0, v1, v2, v3] := by cases args; simp_all
  obtain ⟨rfl, rfl⟩ := trodVars_none hV
  have k0 := h0
  have lt0 : ∀ x ∈ p0, x.block < W.heap.size := by obtain ⟨m, hm⟩ := k0; exact DataW.trod_lt m _ _ _ hm
  obtain ⟨a0t, a0n, a0s, a0p, rfl, w0s⟩ := open_gram (hval 0 24 v0 rfl rfl) h0
  have k1 := h1
  have lt1 : ∀ x ∈ p1, x.block < W.heap.size := by obtain ⟨m, hm⟩ := k1; exact DataW.trod_lt m _ _ _ hm
  obtain ⟨a1l, w1s⟩ := open_symsv (hval 1 25 v1 rfl rfl) h1
  obtain ⟨a2, rfl, rfl, rfl, w2⟩ := open_int Try.underlying26 (hval 2 26 v2 rfl rfl) h2
  obtain ⟨a3, rfl, rfl, rfl, w3⟩ := open_int Try.underlying26 (hval 3 26 v3 rfl rfl) h3
  clear hA0
  refine (walk a0t a0n a0s a0p _ a1l a2 a3 W w0s w1s w2 w3).mono fun e W' ⟨he, bel⟩ => ?_
  subst he
  exact ⟨_, rfl, _, _, _, [], _, [], hW', trodAll_mk1 (shut_bool Try.underlying4 _), (trodAll_cons_mk (Below.trod laidOut (by kernel_rfl) (of_decide_eq_true (by kernel_rfl)) k0 bel lt0) (trodAll_cons_mk (Below.trod laidOut (by kernel_rfl) (of_decide_eq_true (by kernel_rfl)) k1 bel lt1) (trodAll_cons_mk (shut_int Try.underlying26 w2) (trodAll_cons_mk (shut_int Try.underlying26 w3) trodAll_mk0)))), rfl, bel.frame _, fun h => by cases h⟩

/-! ### The row's step -/
set_option maxRecDepth 100000 in
theorem lifted (os : Os) (started : os.Started) (H : Type) (enc : TypeId × Value → H) :
    ReturnsInHanded {} Try.checked os 4 .any (Rows.factsBodySpec.pre6 enc Try.prog Try.f4 Rows.factsBodyRow.domain false) (Rows.factsBodySpec.post enc Try.prog Try.f4 false true false false) := by
  refine returnsInHanded_of_change_sized (C := Try.checked) own started (by kernel_rfl) Try.func4
    (ChangeSpec.witness6 (enc := enc) (C := Try.checked) false ⟨#[], #[.agg #[.int .i64 0, .int .i64 0, .slice none 0 0], .slice none 0 0, .int .u64 0, .int .u64 0], []⟩ 8 (by kernel_rfl) (by kernel_rfl) (by kernel_rfl) (by kernel_rfl)) ?_
  intro W base args ds gs before hval hW hcnd hsz _
  exact contract H enc W base args ds gs before hval hW hsz

theorem over : Rows.factsBodyRow.holds Try.pinned (OpenSpec.ofChange Rows.factsBodySpec) :=
  OpenClaim.holds_of_wide 4 Try.f4 rfl rfl rfl rfl rfl rfl rfl ⟨rfl, rfl, rfl, rfl, rfl⟩ rfl rfl rfl rfl rfl (by kernel_rfl) Try.func4 (by kernel_rfl)
    (of_decide_eq_true (by kernel_rfl)) (by unfold Func.isWrapper; first | (rw [if_pos (by decide +kernel)]; kernel_rfl) | (rw [if_neg (by decide +kernel)]; exact ⟨rfl, rfl⟩))
    (fun os started H enc _ => lifted os started H enc)

end Go.Proofs.Ytjdaijghfipecaa.factsBody
namespace Go.Proofs.Ytjdaijghfipecaa
/-- The given statement. -/
theorem factsBody_holds : Rows.FactsBodySaid := factsBody.over
#print axioms factsBody_holds
end Go.Proofs.Ytjdaijghfipecaa
