/-
  FactsSays returns true whatever grammar, symbols and set are handed in, and changes nothing that it was handed; no condition.
-/
import Derived.Test.YtjdaijghfipecaaRows
import Derived.WalkKit
import Derived.ProofKit
import Derived.OpenShut
import Derived.ShutString
import Derived.SizedLaws
import Derived.ChangeOld
import Derived.Below
import Derived.Carry
import Derived.WalkLawsBesides
import Derived.WalkSpells
import Derived.Test.YtjdaijghfipecaaOpens
import Derived.Test.YtjdaijghfipecaaFcFind
import Derived.Test.YtjdaijghfipecaaFcAll
import Derived.Test.YtjdaijghfipecaaFcSame
namespace Go.Proofs.Ytjdaijghfipecaa.factsSays
open Go.ChangeShapes Go.WideShapes Go.ChangeAt Go.RowKit
open Go.ChangeMaps (open_string shut_string)
open Cg
set_option linter.unusedVariables false

theorem own : ownKnob Try.prog.godebug = none := by kernel_rfl
theorem laidOut : laidOutB Try.prog = true := by kernel_rfl

theorem u64_wd {a : Int} (h : (Lit.int .u64 a).wf = true) : ∃ A : Wd, a = (A.toNat : Int) := by
  have h2 : 0 ≤ a ∧ a < 18446744073709551616 := by
    simp [Lit.wf, IntKind.min, IntKind.max, IntKind.signed, IntKind.bits] at h
    omega
  refine ⟨BitVec.ofNat 64 a.toNat, ?_⟩
  rw [BitVec.toNat_ofNat]
  omega
theorem begErr_zero {t n : Int} {ps : List Pd} {l : List Sy} (h : begErr t n ps l = 0) : chk t n ps = 0 := by
  unfold begErr at h
  split at h
  · assumption
  · exact h

theorem any_bad (t n : Int) (l : List Sy) : (l.any fun s => !okSy t n s) = !l.all (okSy t n) := by
  induction l with
  | nil => rfl
  | cons s l ih => simp only [List.any_cons, List.all_cons, ih, Bool.not_and]

/-! ### The walk: the Go text returns true. -/
set_option maxHeartbeats 16000000 in
set_option maxRecDepth 20000 in
theorem walk (a0t : Int) (a0n : Int) (a0s : Value) (a0p : List Pd) (v1 : Value) (a1l : List Sy) (a2 : Int) (w : World) (w0s : Pds w a0s a0p) (w1s : Syms w v1 a1l) (w2 : (Lit.int .u64 a2).wf = true) :
    Calls Try.prog 3 #[.agg #[.int .i64 a0t, .int .i64 a0n, a0s], v1, .int .u64 a2] w fun e w' => e = .returned (.bool true) ∧ Below w.heap.size w w' := by
  have HG0 : Hid (Gb w w.heap.size a0t a0n a0s a0p (w.alloc (Obj.cells #[.int .i64 a0t, .int .i64 a0n, a0s] 24))) := Gb.box w0s a0t a0n
  obtain ⟨A, rfl⟩ := u64_wd w2
  have HSY : Hid (Syms w v1 a1l) := w1s
  obtain ⟨ao, c, rfl, hm, -⟩ := w0s
  obtain ⟨bo, bc, rfl, hlm, -⟩ := w1s
  clear w2
  revert HG0 hm HSY hlm
  generalize a0t = t
  generalize a0n = n0
  generalize a0p = ps
  generalize a1l = l
  intro _ _ _ _
  rename Hid (Gb _ _ _ _ _ _ _) => HG0
  rename Hid (Syms _ _ _) => HSY
  have hmf : ∀ (fn : Fn) (first cap : Array Value) (w : World), (Instr.makeFunc fn first cap).run Try.prog w = .ok (.func fn first cap) w := fun _ _ _ _ => rfl
  have he11 := enters_of Try.func11 (by kernel_rfl) rfl
  obtain ⟨r, HR⟩ : ∃ r, Hid (chk t n0 ps = r) := ⟨_, (rfl : chk t n0 ps = chk t n0 ps)⟩
  have hcfg := Cfg_any t n0 _ ps _ HG0.out.pds
  rw [HR.out] at hcfg
  go_enter Try.func3, Try.ntmps3
  go_wp2_with fail
  refine hcfg.mono ?_
  rintro _ w1 ⟨rfl, hb⟩
  have HG1 : Hid (Gb w w.heap.size t n0 (.slice ao ps.length c) ps w1) := HG0.out.next hb
  clear hb hcfg HG0
  have k0 := HG1.out.c0
  have k1 := HG1.out.c1
  have k2 := HG1.out.c2
  go_wp2_with fail
  by_cases h0 : r = 0
  · subst h0
    obtain ⟨n, rfl⟩ : ∃ n : Nat, n0 = (n : Int) := ⟨n0.toNat, by have := okTN_le (chk_zero HR.out).1; omega⟩
    have HK : Hid (chk t n ps = 0) := HR.out
    have HRG : Hid (Rg t n ps) := rg_of HK.out
    clear HR
    by_cases hE : begErr t n ps l = 0
    · have HEZ : Hid (begErr t n ps l = 0) := hE
      have HAL : Hid (¬ 60 < l.length ∧ l.all (okSy t n) = true) := by
        unfold begErr at hE
        rw [if_pos HK.out] at hE
        by_cases h6 : 60 < l.length
        · rw [if_pos h6] at hE; omega
        · rw [if_neg h6] at hE
          refine ⟨h6, ?_⟩
          cases e : l.all (okSy t n) with
          | true => rfl
          | false => rw [e] at hE; simp at hE
      have HALL : Hid (l.all (okSy t n) = true) := HAL.out.2
      have b1 : decide ((60 : Int) < (l.length : Int)) = false := by have := HAL.out.1; simp; omega
      clear hE
      refine (Of_ok t n _ ps _ HG1.out.pds HK.out).mono ?_
      rintro _ w2 ⟨be, bf, bw, br, bm, rfl, hb, E, F, V, R, M, hfx, hfa⟩
      have hba := below_alloc w2 (Obj.cells #[(.slice (some ⟨be, 0, none⟩) n n), (.slice (some ⟨bf, 0, none⟩) n n), (.slice (some ⟨bw, 0, none⟩) n n), (.slice (some ⟨br, 0, none⟩) n n), (.slice (some ⟨bm, 0, none⟩) n n)] 32)
      have hbx := row_vals5 w2 (.slice (some ⟨be, 0, none⟩) n n) (.slice (some ⟨bf, 0, none⟩) n n) (.slice (some ⟨bw, 0, none⟩) n n) (.slice (some ⟨br, 0, none⟩) n n) (.slice (some ⟨bm, 0, none⟩) n n)
      obtain ⟨w3, HW3⟩ : ∃ w3, Hid (w2.alloc (Obj.cells #[(.slice (some ⟨be, 0, none⟩) n n), (.slice (some ⟨bf, 0, none⟩) n n), (.slice (some ⟨bw, 0, none⟩) n n), (.slice (some ⟨br, 0, none⟩) n n), (.slice (some ⟨bm, 0, none⟩) n n)] 32) = w3) := ⟨_, (rfl : _ = _)⟩
      rw [HW3.out] at hba hbx
      have HG3 : Hid (Gb w w.heap.size t n (.slice ao ps.length c) ps w3) := (HG1.out.next hb).next hba
      have HFX3 : Hid (Fx n be bf bw br bm E F V R M w3) := hfx.next hba
      have HFA : Hid (Fa ps E F V R M) := hfa
      have HBX3 : Hid (w3.rowIs w2.heap.size 32 5 (fv (.slice (some ⟨be, 0, none⟩) n n) (.slice (some ⟨bf, 0, none⟩) n n) (.slice (some ⟨bw, 0, none⟩) n n) (.slice (some ⟨br, 0, none⟩) n n) (.slice (some ⟨bm, 0, none⟩) n n))) := hbx
      clear hb hfx hfa hba hbx k0 k1 k2 HG1
      obtain ⟨cf, HCF⟩ : ∃ cf, Hid (w2.heap.size = cf) := ⟨_, (rfl : w2.heap.size = w2.heap.size)⟩
      rw [HCF.out] at HBX3
      have k0 := HG3.out.c0
      have k1 := HG3.out.c1
      have k2 := HG3.out.c2
      rw [← HW3.out] at k0 k1 k2
      go_wp2_with fail
      rw [HW3.out, HCF.out]
      clear k0 k1 k2 HW3 HCF
      refine (Begin_ok t n _ ps _ l A w3 HG3.out.pds (HSY.out.below HG3.out.below) HEZ.out).mono ?_
      rintro _ w4 ⟨y, rfl, hy, hb⟩
      have HY : Hid (y = bg E F l A) := by
        obtain ⟨E', F', M', i1, i2, i3, i4⟩ := hy
        obtain rfl := i1.uniq HFA.out.e
        obtain rfl := i2.uniq HFA.out.m
        obtain rfl := i3.uniq HFA.out.f
        exact i4
      clear hy
      have HG4 : Hid (Gb w w.heap.size t n (.slice ao ps.length c) ps w4) := HG3.out.next hb
      have HFX4 : Hid (Fx n be bf bw br bm E F V R M w4 ∧ w4.rowIs cf 32 5 (fv (.slice (some ⟨be, 0, none⟩) n n) (.slice (some ⟨bf, 0, none⟩) n n) (.slice (some ⟨bw, 0, none⟩) n n) (.slice (some ⟨br, 0, none⟩) n n) (.slice (some ⟨bm, 0, none⟩) n n))) := ⟨HFX3.out.next hb, HBX3.out.of_block (hb.block _ HBX3.out.lt)⟩
      clear hb HG3 HFX3 HBX3
      have k0 := HG4.out.c0
      have k1 := HG4.out.c1
      have k2 := HG4.out.c2
      go_wp2_with fail
      refine (AllFacts_any t n _ ps w4 HG4.out.pds HK.out).mono ?_
      rintro _ w5 ⟨be2, bf2, bw2, br2, bm2, rfl, hb, E2, F2, V2, R2, M2, hfx, hfa⟩
      obtain ⟨rfl, rfl, rfl, rfl, rfl⟩ := hfa.uniq HFA.out
      have hba := below_alloc w5 (Obj.cells #[(.slice (some ⟨be2, 0, none⟩) n n), (.slice (some ⟨bf2, 0, none⟩) n n), (.slice (some ⟨bw2, 0, none⟩) n n), (.slice (some ⟨br2, 0, none⟩) n n), (.slice (some ⟨bm2, 0, none⟩) n n)] 32)
      have hbx := row_vals5 w5 (.slice (some ⟨be2, 0, none⟩) n n) (.slice (some ⟨bf2, 0, none⟩) n n) (.slice (some ⟨bw2, 0, none⟩) n n) (.slice (some ⟨br2, 0, none⟩) n n) (.slice (some ⟨bm2, 0, none⟩) n n)
      obtain ⟨w6, HW6⟩ : ∃ w6, Hid (w5.alloc (Obj.cells #[(.slice (some ⟨be2, 0, none⟩) n n), (.slice (some ⟨bf2, 0, none⟩) n n), (.slice (some ⟨bw2, 0, none⟩) n n), (.slice (some ⟨br2, 0, none⟩) n n), (.slice (some ⟨bm2, 0, none⟩) n n)] 32) = w6) := ⟨_, (rfl : _ = _)⟩
      rw [HW6.out] at hba hbx
      have hb2 : Below w4.heap.size w4 w6 := hb.trans (hba.mono hb.size)
      have HG6 : Hid (Gb w w.heap.size t n (.slice ao ps.length c) ps w6) := HG4.out.next hb2
      have HFX6 : Hid (Fx n be bf bw br bm E2 F2 V2 R2 M2 w6 ∧ w6.rowIs cf 32 5 (fv (.slice (some ⟨be, 0, none⟩) n n) (.slice (some ⟨bf, 0, none⟩) n n) (.slice (some ⟨bw, 0, none⟩) n n) (.slice (some ⟨br, 0, none⟩) n n) (.slice (some ⟨bm, 0, none⟩) n n)) ∧ Fx n be2 bf2 bw2 br2 bm2 E2 F2 V2 R2 M2 w6 ∧ w6.rowIs w5.heap.size 32 5 (fv (.slice (some ⟨be2, 0, none⟩) n n) (.slice (some ⟨bf2, 0, none⟩) n n) (.slice (some ⟨bw2, 0, none⟩) n n) (.slice (some ⟨br2, 0, none⟩) n n) (.slice (some ⟨bm2, 0, none⟩) n n))) := ⟨HFX4.out.1.next hb2, HFX4.out.2.of_block (hb2.block _ HFX4.out.2.lt), hfx.next hba, hbx⟩
      clear hb hb2 hfx hfa hba hbx k0 k1 k2 HG4 HFX4
      obtain ⟨cg, HCG⟩ : ∃ cg, Hid (w5.heap.size = cg) := ⟨_, (rfl : w5.heap.size = w5.heap.size)⟩
      rw [HCG.out] at HFX6
      have f0 := HFX6.out.2.1.cell (i := 0) (by omega)
      have g0 := HFX6.out.2.2.2.cell (i := 0) (by omega)
      have f1 := HFX6.out.2.1.cell (i := 1) (by omega)
      have g1 := HFX6.out.2.2.2.cell (i := 1) (by omega)
      have f2 := HFX6.out.2.1.cell (i := 2) (by omega)
      have g2 := HFX6.out.2.2.2.cell (i := 2) (by omega)
      have f3 := HFX6.out.2.1.cell (i := 3) (by omega)
      have g3 := HFX6.out.2.2.2.cell (i := 3) (by omega)
      have f4 := HFX6.out.2.1.cell (i := 4) (by omega)
      have g4 := HFX6.out.2.2.2.cell (i := 4) (by omega)
      simp only [fv] at f0 f1 f2 f3 f4 g0 g1 g2 g3 g4
      rw [← HW6.out] at f0 f1 f2 f3 f4 g0 g1 g2 g3 g4
      rw [← HCG.out] at g0 g1 g2 g3 g4
      go_wp2_with fail
      rw [HW6.out]
      clear f0 f1 f2 f3 f4 g0 g1 g2 g3 g4 HW6
      refine (same_facts n (by have := HRG.out.n2; omega) be bf bw br bm be2 bf2 bw2 br2 bm2 E2 F2 V2 R2 M2 w6 HFX6.out.1 HFX6.out.2.2.1).mono ?_
      rintro _ w7 ⟨rfl, hb⟩
      have HG7 : Hid (Gb w w.heap.size t n (.slice ao ps.length c) ps w7) := HG6.out.next hb
      have HFX7 : Hid (Fx n be2 bf2 bw2 br2 bm2 E2 F2 V2 R2 M2 w7 ∧ w7.rowIs w5.heap.size 32 5 (fv (.slice (some ⟨be2, 0, none⟩) n n) (.slice (some ⟨bf2, 0, none⟩) n n) (.slice (some ⟨bw2, 0, none⟩) n n) (.slice (some ⟨br2, 0, none⟩) n n) (.slice (some ⟨bm2, 0, none⟩) n n))) := ⟨HFX6.out.2.2.1.next hb, by rw [HCG.out]; exact HFX6.out.2.2.2.of_block (hb.block _ HFX6.out.2.2.2.lt)⟩
      clear hb HG6 HFX6
      have hcc := containsF_any 11 (.pointer (some ⟨w.heap.size, 0, none⟩)) he11 (fun s => !okSy t n s) _ l w7 (HSY.out.below HG7.out.below) (fun W i hi hbW => clos11_any t n ao ps.length c w.heap.size l[i].1 l[i].2 W (HG7.out.next hbW).c0 (HG7.out.next hbW).c1 (HG7.out.next hbW).c2 (HG7.out.next hbW).lt)
      rw [any_bad, HALL.out] at hcc
      go_wp2_with fail
      refine hcc.mono ?_
      rintro _ w8 ⟨rfl, hb⟩
      have HG8 : Hid (Gb w w.heap.size t n (.slice ao ps.length c) ps w8) := HG7.out.next hb
      have HFX8 : Hid (Fx n be2 bf2 bw2 br2 bm2 E2 F2 V2 R2 M2 w8 ∧ w8.rowIs w5.heap.size 32 5 (fv (.slice (some ⟨be2, 0, none⟩) n n) (.slice (some ⟨bf2, 0, none⟩) n n) (.slice (some ⟨bw2, 0, none⟩) n n) (.slice (some ⟨br2, 0, none⟩) n n) (.slice (some ⟨bm2, 0, none⟩) n n))) := ⟨HFX7.out.1.next hb, HFX7.out.2.of_block (hb.block _ HFX7.out.2.lt)⟩
      clear hb hcc HG7 HFX7
      have g0 := HFX8.out.2.cell (i := 0) (by omega)
      have g1 := HFX8.out.2.cell (i := 1) (by omega)
      have g2 := HFX8.out.2.cell (i := 2) (by omega)
      have g3 := HFX8.out.2.cell (i := 3) (by omega)
      have g4 := HFX8.out.2.cell (i := 4) (by omega)
      simp only [fv] at g0 g1 g2 g3 g4
      go_wp2_with fail
      have hrb := refBegin_any t HRG.out.t2 n be2 bf2 E2 F2 (.slice (some ⟨bw2, 0, none⟩) n n) (.slice (some ⟨br2, 0, none⟩) n n) (.slice (some ⟨bm2, 0, none⟩) n n) A l (.slice bo l.length bc) w8 (HSY.out.below HG8.out.below) HFX8.out.1.e HFX8.out.1.f (okL_of HALL.out)
      rw [← HY.out] at hrb
      refine hrb.mono ?_
      rintro _ w9 ⟨rfl, hb⟩
      have HB9 : Hid (Below w.heap.size w w9) := (HG8.out.next hb).below
      clear hb hrb
      go_wp2_with fail
      go_ret
      exact ⟨by simp, HB9.out⟩
    · have h1 : begErr t n ps l = 1 := by
        unfold begErr at hE ⊢
        rw [if_pos HK.out] at hE ⊢
        by_cases h6 : 60 < l.length
        · rw [if_pos h6]
        · rw [if_neg h6] at hE ⊢
          by_cases h7 : l.all (okSy t n) = true
          · rw [if_pos h7] at hE; exact absurd rfl hE
          · rw [if_neg h7]
      have HBB : Hid (∀ W : World, Pds W (.slice ao ps.length c) ps → Syms W (.slice bo l.length bc) l → Calls Try.prog 7 #[.agg #[.int .i64 t, .int .i64 (n : Int), .slice ao ps.length c], .slice bo l.length bc, .int .u64 (A.toNat : Int)] W fun e w' => e = .returned (.tuple #[.int .u64 0, .int .i64 1]) ∧ Below W.heap.size W w') := fun W h2 h3 => by
        have := Begin_bad t n _ ps _ l A W h2 h3 hE
        rw [h1] at this; exact this
      have HL : Hid (¬ 60 < l.length → l.all (okSy t n) = false) := fun h6 => by
        unfold begErr at hE
        rw [if_pos HK.out, if_neg h6] at hE
        cases e : l.all (okSy t n) with
        | false => rfl
        | true => rw [e] at hE; exact absurd rfl hE
      clear hE h1
      by_cases h6 : 60 < l.length
      · have b1 : decide ((60 : Int) < (l.length : Int)) = true := by simp; omega
        clear h6 HL
        refine (Of_ok t n _ ps _ HG1.out.pds HK.out).mono ?_
        rintro _ w2 ⟨be, bf, bw, br, bm, rfl, hb, E, F, V, R, M, hfx, hfa⟩
        have hba := below_alloc w2 (Obj.cells #[(.slice (some ⟨be, 0, none⟩) n n), (.slice (some ⟨bf, 0, none⟩) n n), (.slice (some ⟨bw, 0, none⟩) n n), (.slice (some ⟨br, 0, none⟩) n n), (.slice (some ⟨bm, 0, none⟩) n n)] 32)
        have hbx := row_vals5 w2 (.slice (some ⟨be, 0, none⟩) n n) (.slice (some ⟨bf, 0, none⟩) n n) (.slice (some ⟨bw, 0, none⟩) n n) (.slice (some ⟨br, 0, none⟩) n n) (.slice (some ⟨bm, 0, none⟩) n n)
        obtain ⟨w3, HW3⟩ : ∃ w3, Hid (w2.alloc (Obj.cells #[(.slice (some ⟨be, 0, none⟩) n n), (.slice (some ⟨bf, 0, none⟩) n n), (.slice (some ⟨bw, 0, none⟩) n n), (.slice (some ⟨br, 0, none⟩) n n), (.slice (some ⟨bm, 0, none⟩) n n)] 32) = w3) := ⟨_, (rfl : _ = _)⟩
        rw [HW3.out] at hba hbx
        have HG3 : Hid (Gb w w.heap.size t n (.slice ao ps.length c) ps w3) := (HG1.out.next hb).next hba
        have HFX3 : Hid (Fx n be bf bw br bm E F V R M w3) := hfx.next hba
        have HFA : Hid (Fa ps E F V R M) := hfa
        have HBX3 : Hid (w3.rowIs w2.heap.size 32 5 (fv (.slice (some ⟨be, 0, none⟩) n n) (.slice (some ⟨bf, 0, none⟩) n n) (.slice (some ⟨bw, 0, none⟩) n n) (.slice (some ⟨br, 0, none⟩) n n) (.slice (some ⟨bm, 0, none⟩) n n))) := hbx
        clear hb hfx hfa hba hbx k0 k1 k2 HG1
        obtain ⟨cf, HCF⟩ : ∃ cf, Hid (w2.heap.size = cf) := ⟨_, (rfl : w2.heap.size = w2.heap.size)⟩
        rw [HCF.out] at HBX3
        have k0 := HG3.out.c0
        have k1 := HG3.out.c1
        have k2 := HG3.out.c2
        rw [← HW3.out] at k0 k1 k2
        go_wp2_with fail
        rw [HW3.out, HCF.out]
        clear k0 k1 k2 HW3 HCF
        refine (HBB.out w3 HG3.out.pds (HSY.out.below HG3.out.below)).mono ?_
        rintro _ w4 ⟨rfl, hb⟩
        have HG4 : Hid (Gb w w.heap.size t n (.slice ao ps.length c) ps w4) := HG3.out.next hb
        have HFX4 : Hid (Fx n be bf bw br bm E F V R M w4 ∧ w4.rowIs cf 32 5 (fv (.slice (some ⟨be, 0, none⟩) n n) (.slice (some ⟨bf, 0, none⟩) n n) (.slice (some ⟨bw, 0, none⟩) n n) (.slice (some ⟨br, 0, none⟩) n n) (.slice (some ⟨bm, 0, none⟩) n n))) := ⟨HFX3.out.next hb, HBX3.out.of_block (hb.block _ HBX3.out.lt)⟩
        clear hb HG3 HFX3 HBX3
        have k0 := HG4.out.c0
        have k1 := HG4.out.c1
        have k2 := HG4.out.c2
        go_wp2_with fail
        refine (AllFacts_any t n _ ps w4 HG4.out.pds HK.out).mono ?_
        rintro _ w5 ⟨be2, bf2, bw2, br2, bm2, rfl, hb, E2, F2, V2, R2, M2, hfx, hfa⟩
        obtain ⟨rfl, rfl, rfl, rfl, rfl⟩ := hfa.uniq HFA.out
        have hba := below_alloc w5 (Obj.cells #[(.slice (some ⟨be2, 0, none⟩) n n), (.slice (some ⟨bf2, 0, none⟩) n n), (.slice (some ⟨bw2, 0, none⟩) n n), (.slice (some ⟨br2, 0, none⟩) n n), (.slice (some ⟨bm2, 0, none⟩) n n)] 32)
        have hbx := row_vals5 w5 (.slice (some ⟨be2, 0, none⟩) n n) (.slice (some ⟨bf2, 0, none⟩) n n) (.slice (some ⟨bw2, 0, none⟩) n n) (.slice (some ⟨br2, 0, none⟩) n n) (.slice (some ⟨bm2, 0, none⟩) n n)
        obtain ⟨w6, HW6⟩ : ∃ w6, Hid (w5.alloc (Obj.cells #[(.slice (some ⟨be2, 0, none⟩) n n), (.slice (some ⟨bf2, 0, none⟩) n n), (.slice (some ⟨bw2, 0, none⟩) n n), (.slice (some ⟨br2, 0, none⟩) n n), (.slice (some ⟨bm2, 0, none⟩) n n)] 32) = w6) := ⟨_, (rfl : _ = _)⟩
        rw [HW6.out] at hba hbx
        have hb2 : Below w4.heap.size w4 w6 := hb.trans (hba.mono hb.size)
        have HG6 : Hid (Gb w w.heap.size t n (.slice ao ps.length c) ps w6) := HG4.out.next hb2
        have HFX6 : Hid (Fx n be bf bw br bm E2 F2 V2 R2 M2 w6 ∧ w6.rowIs cf 32 5 (fv (.slice (some ⟨be, 0, none⟩) n n) (.slice (some ⟨bf, 0, none⟩) n n) (.slice (some ⟨bw, 0, none⟩) n n) (.slice (some ⟨br, 0, none⟩) n n) (.slice (some ⟨bm, 0, none⟩) n n)) ∧ Fx n be2 bf2 bw2 br2 bm2 E2 F2 V2 R2 M2 w6 ∧ w6.rowIs w5.heap.size 32 5 (fv (.slice (some ⟨be2, 0, none⟩) n n) (.slice (some ⟨bf2, 0, none⟩) n n) (.slice (some ⟨bw2, 0, none⟩) n n) (.slice (some ⟨br2, 0, none⟩) n n) (.slice (some ⟨bm2, 0, none⟩) n n))) := ⟨HFX4.out.1.next hb2, HFX4.out.2.of_block (hb2.block _ HFX4.out.2.lt), hfx.next hba, hbx⟩
        clear hb hb2 hfx hfa hba hbx k0 k1 k2 HG4 HFX4
        obtain ⟨cg, HCG⟩ : ∃ cg, Hid (w5.heap.size = cg) := ⟨_, (rfl : w5.heap.size = w5.heap.size)⟩
        rw [HCG.out] at HFX6
        have f0 := HFX6.out.2.1.cell (i := 0) (by omega)
        have g0 := HFX6.out.2.2.2.cell (i := 0) (by omega)
        have f1 := HFX6.out.2.1.cell (i := 1) (by omega)
        have g1 := HFX6.out.2.2.2.cell (i := 1) (by omega)
        have f2 := HFX6.out.2.1.cell (i := 2) (by omega)
        have g2 := HFX6.out.2.2.2.cell (i := 2) (by omega)
        have f3 := HFX6.out.2.1.cell (i := 3) (by omega)
        have g3 := HFX6.out.2.2.2.cell (i := 3) (by omega)
        have f4 := HFX6.out.2.1.cell (i := 4) (by omega)
        have g4 := HFX6.out.2.2.2.cell (i := 4) (by omega)
        simp only [fv] at f0 f1 f2 f3 f4 g0 g1 g2 g3 g4
        rw [← HW6.out] at f0 f1 f2 f3 f4 g0 g1 g2 g3 g4
        rw [← HCG.out] at g0 g1 g2 g3 g4
        go_wp2_with fail
        rw [HW6.out]
        clear f0 f1 f2 f3 f4 g0 g1 g2 g3 g4 HW6
        refine (same_facts n (by have := HRG.out.n2; omega) be bf bw br bm be2 bf2 bw2 br2 bm2 E2 F2 V2 R2 M2 w6 HFX6.out.1 HFX6.out.2.2.1).mono ?_
        rintro _ w7 ⟨rfl, hb⟩
        have HG7 : Hid (Gb w w.heap.size t n (.slice ao ps.length c) ps w7) := HG6.out.next hb
        have HFX7 : Hid (Fx n be2 bf2 bw2 br2 bm2 E2 F2 V2 R2 M2 w7 ∧ w7.rowIs w5.heap.size 32 5 (fv (.slice (some ⟨be2, 0, none⟩) n n) (.slice (some ⟨bf2, 0, none⟩) n n) (.slice (some ⟨bw2, 0, none⟩) n n) (.slice (some ⟨br2, 0, none⟩) n n) (.slice (some ⟨bm2, 0, none⟩) n n))) := ⟨HFX6.out.2.2.1.next hb, by rw [HCG.out]; exact HFX6.out.2.2.2.of_block (hb.block _ HFX6.out.2.2.2.lt)⟩
        clear hb HG6 HFX6
        have HB9 : Hid (Below w.heap.size w w7) := HG7.out.below
        go_wp2_with fail
        go_ret
        exact ⟨by simp, HB9.out⟩
      · have b1 : decide ((60 : Int) < (l.length : Int)) = false := by simp; omega
        have HALL : Hid (l.all (okSy t n) = false) := HL.out h6
        clear h6 HL
        refine (Of_ok t n _ ps _ HG1.out.pds HK.out).mono ?_
        rintro _ w2 ⟨be, bf, bw, br, bm, rfl, hb, E, F, V, R, M, hfx, hfa⟩
        have hba := below_alloc w2 (Obj.cells #[(.slice (some ⟨be, 0, none⟩) n n), (.slice (some ⟨bf, 0, none⟩) n n), (.slice (some ⟨bw, 0, none⟩) n n), (.slice (some ⟨br, 0, none⟩) n n), (.slice (some ⟨bm, 0, none⟩) n n)] 32)
        have hbx := row_vals5 w2 (.slice (some ⟨be, 0, none⟩) n n) (.slice (some ⟨bf, 0, none⟩) n n) (.slice (some ⟨bw, 0, none⟩) n n) (.slice (some ⟨br, 0, none⟩) n n) (.slice (some ⟨bm, 0, none⟩) n n)
        obtain ⟨w3, HW3⟩ : ∃ w3, Hid (w2.alloc (Obj.cells #[(.slice (some ⟨be, 0, none⟩) n n), (.slice (some ⟨bf, 0, none⟩) n n), (.slice (some ⟨bw, 0, none⟩) n n), (.slice (some ⟨br, 0, none⟩) n n), (.slice (some ⟨bm, 0, none⟩) n n)] 32) = w3) := ⟨_, (rfl : _ = _)⟩
        rw [HW3.out] at hba hbx
        have HG3 : Hid (Gb w w.heap.size t n (.slice ao ps.length c) ps w3) := (HG1.out.next hb).next hba
        have HFX3 : Hid (Fx n be bf bw br bm E F V R M w3) := hfx.next hba
        have HFA : Hid (Fa ps E F V R M) := hfa
        have HBX3 : Hid (w3.rowIs w2.heap.size 32 5 (fv (.slice (some ⟨be, 0, none⟩) n n) (.slice (some ⟨bf, 0, none⟩) n n) (.slice (some ⟨bw, 0, none⟩) n n) (.slice (some ⟨br, 0, none⟩) n n) (.slice (some ⟨bm, 0, none⟩) n n))) := hbx
        clear hb hfx hfa hba hbx k0 k1 k2 HG1
        obtain ⟨cf, HCF⟩ : ∃ cf, Hid (w2.heap.size = cf) := ⟨_, (rfl : w2.heap.size = w2.heap.size)⟩
        rw [HCF.out] at HBX3
        have k0 := HG3.out.c0
        have k1 := HG3.out.c1
        have k2 := HG3.out.c2
        rw [← HW3.out] at k0 k1 k2
        go_wp2_with fail
        rw [HW3.out, HCF.out]
        clear k0 k1 k2 HW3 HCF
        refine (HBB.out w3 HG3.out.pds (HSY.out.below HG3.out.below)).mono ?_
        rintro _ w4 ⟨rfl, hb⟩
        have HG4 : Hid (Gb w w.heap.size t n (.slice ao ps.length c) ps w4) := HG3.out.next hb
        have HFX4 : Hid (Fx n be bf bw br bm E F V R M w4 ∧ w4.rowIs cf 32 5 (fv (.slice (some ⟨be, 0, none⟩) n n) (.slice (some ⟨bf, 0, none⟩) n n) (.slice (some ⟨bw, 0, none⟩) n n) (.slice (some ⟨br, 0, none⟩) n n) (.slice (some ⟨bm, 0, none⟩) n n))) := ⟨HFX3.out.next hb, HBX3.out.of_block (hb.block _ HBX3.out.lt)⟩
        clear hb HG3 HFX3 HBX3
        have k0 := HG4.out.c0
        have k1 := HG4.out.c1
        have k2 := HG4.out.c2
        go_wp2_with fail
        refine (AllFacts_any t n _ ps w4 HG4.out.pds HK.out).mono ?_
        rintro _ w5 ⟨be2, bf2, bw2, br2, bm2, rfl, hb, E2, F2, V2, R2, M2, hfx, hfa⟩
        obtain ⟨rfl, rfl, rfl, rfl, rfl⟩ := hfa.uniq HFA.out
        have hba := below_alloc w5 (Obj.cells #[(.slice (some ⟨be2, 0, none⟩) n n), (.slice (some ⟨bf2, 0, none⟩) n n), (.slice (some ⟨bw2, 0, none⟩) n n), (.slice (some ⟨br2, 0, none⟩) n n), (.slice (some ⟨bm2, 0, none⟩) n n)] 32)
        have hbx := row_vals5 w5 (.slice (some ⟨be2, 0, none⟩) n n) (.slice (some ⟨bf2, 0, none⟩) n n) (.slice (some ⟨bw2, 0, none⟩) n n) (.slice (some ⟨br2, 0, none⟩) n n) (.slice (some ⟨bm2, 0, none⟩) n n)
        obtain ⟨w6, HW6⟩ : ∃ w6, Hid (w5.alloc (Obj.cells #[(.slice (some ⟨be2, 0, none⟩) n n), (.slice (some ⟨bf2, 0, none⟩) n n), (.slice (some ⟨bw2, 0, none⟩) n n), (.slice (some ⟨br2, 0, none⟩) n n), (.slice (some ⟨bm2, 0, none⟩) n n)] 32) = w6) := ⟨_, (rfl : _ = _)⟩
        rw [HW6.out] at hba hbx
        have hb2 : Below w4.heap.size w4 w6 := hb.trans (hba.mono hb.size)
        have HG6 : Hid (Gb w w.heap.size t n (.slice ao ps.length c) ps w6) := HG4.out.next hb2
        have HFX6 : Hid (Fx n be bf bw br bm E2 F2 V2 R2 M2 w6 ∧ w6.rowIs cf 32 5 (fv (.slice (some ⟨be, 0, none⟩) n n) (.slice (some ⟨bf, 0, none⟩) n n) (.slice (some ⟨bw, 0, none⟩) n n) (.slice (some ⟨br, 0, none⟩) n n) (.slice (some ⟨bm, 0, none⟩) n n)) ∧ Fx n be2 bf2 bw2 br2 bm2 E2 F2 V2 R2 M2 w6 ∧ w6.rowIs w5.heap.size 32 5 (fv (.slice (some ⟨be2, 0, none⟩) n n) (.slice (some ⟨bf2, 0, none⟩) n n) (.slice (some ⟨bw2, 0, none⟩) n n) (.slice (some ⟨br2, 0, none⟩) n n) (.slice (some ⟨bm2, 0, none⟩) n n))) := ⟨HFX4.out.1.next hb2, HFX4.out.2.of_block (hb2.block _ HFX4.out.2.lt), hfx.next hba, hbx⟩
        clear hb hb2 hfx hfa hba hbx k0 k1 k2 HG4 HFX4
        obtain ⟨cg, HCG⟩ : ∃ cg, Hid (w5.heap.size = cg) := ⟨_, (rfl : w5.heap.size = w5.heap.size)⟩
        rw [HCG.out] at HFX6
        have f0 := HFX6.out.2.1.cell (i := 0) (by omega)
        have g0 := HFX6.out.2.2.2.cell (i := 0) (by omega)
        have f1 := HFX6.out.2.1.cell (i := 1) (by omega)
        have g1 := HFX6.out.2.2.2.cell (i := 1) (by omega)
        have f2 := HFX6.out.2.1.cell (i := 2) (by omega)
        have g2 := HFX6.out.2.2.2.cell (i := 2) (by omega)
        have f3 := HFX6.out.2.1.cell (i := 3) (by omega)
        have g3 := HFX6.out.2.2.2.cell (i := 3) (by omega)
        have f4 := HFX6.out.2.1.cell (i := 4) (by omega)
        have g4 := HFX6.out.2.2.2.cell (i := 4) (by omega)
        simp only [fv] at f0 f1 f2 f3 f4 g0 g1 g2 g3 g4
        rw [← HW6.out] at f0 f1 f2 f3 f4 g0 g1 g2 g3 g4
        rw [← HCG.out] at g0 g1 g2 g3 g4
        go_wp2_with fail
        rw [HW6.out]
        clear f0 f1 f2 f3 f4 g0 g1 g2 g3 g4 HW6
        refine (same_facts n (by have := HRG.out.n2; omega) be bf bw br bm be2 bf2 bw2 br2 bm2 E2 F2 V2 R2 M2 w6 HFX6.out.1 HFX6.out.2.2.1).mono ?_
        rintro _ w7 ⟨rfl, hb⟩
        have HG7 : Hid (Gb w w.heap.size t n (.slice ao ps.length c) ps w7) := HG6.out.next hb
        have HFX7 : Hid (Fx n be2 bf2 bw2 br2 bm2 E2 F2 V2 R2 M2 w7 ∧ w7.rowIs w5.heap.size 32 5 (fv (.slice (some ⟨be2, 0, none⟩) n n) (.slice (some ⟨bf2, 0, none⟩) n n) (.slice (some ⟨bw2, 0, none⟩) n n) (.slice (some ⟨br2, 0, none⟩) n n) (.slice (some ⟨bm2, 0, none⟩) n n))) := ⟨HFX6.out.2.2.1.next hb, by rw [HCG.out]; exact HFX6.out.2.2.2.of_block (hb.block _ HFX6.out.2.2.2.lt)⟩
        clear hb HG6 HFX6
        have hcc := containsF_any 11 (.pointer (some ⟨w.heap.size, 0, none⟩)) he11 (fun s => !okSy t n s) _ l w7 (HSY.out.below HG7.out.below) (fun W i hi hbW => clos11_any t n ao ps.length c w.heap.size l[i].1 l[i].2 W (HG7.out.next hbW).c0 (HG7.out.next hbW).c1 (HG7.out.next hbW).c2 (HG7.out.next hbW).lt)
        rw [any_bad, HALL.out] at hcc
        go_wp2_with fail
        refine hcc.mono ?_
        rintro _ w8 ⟨rfl, hb⟩
        have HB9 : Hid (Below w.heap.size w w8) := (HG7.out.next hb).below
        clear hb hcc
        go_wp2_with fail
        go_ret
        exact ⟨by simp, HB9.out⟩
  · have hr2 : (r != 0) = true := by simpa using h0
    have hof := Of_bad t n0 _ ps w1 HG1.out.pds (by rw [HR.out]; exact h0)
    rw [HR.out] at hof
    have HBB : Hid (∀ W : World, Pds W (.slice ao ps.length c) ps → Syms W (.slice bo l.length bc) l → Calls Try.prog 7 #[.agg #[.int .i64 t, .int .i64 n0, .slice ao ps.length c], .slice bo l.length bc, .int .u64 (A.toNat : Int)] W fun e w' => e = .returned (.tuple #[.int .u64 0, .int .i64 r]) ∧ Below W.heap.size W w') := fun W h2 h3 => by
      have hne : begErr t n0 ps l = r := by unfold begErr; rw [if_neg (by rw [HR.out]; exact h0), HR.out]
      have := Begin_bad t n0 _ ps _ l A W h2 h3 (by rw [hne]; exact h0)
      rw [hne] at this; exact this
    clear h0
    refine hof.mono ?_
    rintro _ w2 ⟨rfl, hb⟩
    have hba := below_alloc w2 (Obj.cells #[(.slice none 0 0), (.slice none 0 0), (.slice none 0 0), (.slice none 0 0), (.slice none 0 0)] 32)
    have hbx := row_vals5 w2 (.slice none 0 0) (.slice none 0 0) (.slice none 0 0) (.slice none 0 0) (.slice none 0 0)
    obtain ⟨w3, HW3⟩ : ∃ w3, Hid (w2.alloc (Obj.cells #[(.slice none 0 0), (.slice none 0 0), (.slice none 0 0), (.slice none 0 0), (.slice none 0 0)] 32) = w3) := ⟨_, (rfl : _ = _)⟩
    rw [HW3.out] at hba hbx
    have HG3 : Hid (Gb w w.heap.size t n0 (.slice ao ps.length c) ps w3) := (HG1.out.next hb).next hba
    have HBX3 : Hid (w3.rowIs w2.heap.size 32 5 (fv (.slice none 0 0) (.slice none 0 0) (.slice none 0 0) (.slice none 0 0) (.slice none 0 0))) := hbx
    clear hb hba hbx k0 k1 k2 HG1 hof
    obtain ⟨cf, HCF⟩ : ∃ cf, Hid (w2.heap.size = cf) := ⟨_, (rfl : w2.heap.size = w2.heap.size)⟩
    rw [HCF.out] at HBX3
    have k0 := HG3.out.c0
    have k1 := HG3.out.c1
    have k2 := HG3.out.c2
    rw [← HW3.out] at k0 k1 k2
    go_wp2_with fail
    rw [HW3.out, HCF.out]
    clear k0 k1 k2 HW3 HCF
    refine (HBB.out w3 HG3.out.pds (HSY.out.below HG3.out.below)).mono ?_
    rintro _ w4 ⟨rfl, hb⟩
    have HG4 : Hid (Gb w w.heap.size t n0 (.slice ao ps.length c) ps w4) := HG3.out.next hb
    have hbx := HBX3.out.of_block (hb.block _ HBX3.out.lt)
    have f0 := hbx.cell (i := 0) (by omega)
    have f1 := hbx.cell (i := 1) (by omega)
    have f2 := hbx.cell (i := 2) (by omega)
    have f3 := hbx.cell (i := 3) (by omega)
    have f4 := hbx.cell (i := 4) (by omega)
    simp only [fv] at f0 f1 f2 f3 f4
    clear hb HG3 HBX3 hbx
    go_wp2_with fail
    refine (same_nil w4).mono ?_
    rintro _ w5 ⟨rfl, hb⟩
    have HB5 : Hid (Below w.heap.size w w5) := (HG4.out.next hb).below
    clear hb
    go_wp2_with fail
    go_ret
    exact ⟨by simp, HB5.out⟩

/-! ### What the walk gives, for every argument -/
set_option maxRecDepth 100000 in
theorem contract (H : Type) (enc : TypeId × Value → H) (W : World) (base : Nat) (args : Array Value) (ds gs : List (DataW H)) (before : List MemPlace)
    (hval : ∀ (j : Nat) t v, Try.f3.params[j]? = some t → args[j]? = some v → Value.okWide Try.prog W .any base t v)
    (hW : DataW.Whole enc Try.prog Try.f3.params.toList Rows.factsSaysSpec.vars false W args.toList ds gs before) (hsz : (DataW.weightsEach Try.prog (Try.f3.params.toList ++ Rows.factsSaysSpec.plain.varTypes Try.prog) (ds ++ gs)).all (· ≤ reachBytes) = true) :
    Calls Try.prog 3 args W fun e W' => ∃ v, e = .returned v ∧ Rows.factsSaysSpec.post enc Try.prog Try.f3 false true false false W args v W' := by
  have hW' := hW
  obtain ⟨p, q, hA0, hV, rfl, hfz, hnd⟩ := hW
  have hA : DataW.TrodAll enc Try.prog W 0 (fun _ => true) true Try.f3.params.toList args.toList ds p := hA0
  rw [Try.params3] at hA hval hsz
  obtain ⟨v0, vs0, d0, ds0, p0, q0, hargs, rfl, rfl, h0, r0⟩ := trodAll_cons hA
  obtain ⟨v1, vs1, d1, ds1, p1, q1, rfl, rfl, rfl, h1, r1⟩ := trodAll_cons r0
  obtain ⟨v2, vs2, d2, ds2, p2, q2, rfl, rfl, rfl, h2, r2⟩ := trodAll_cons r1
  obtain ⟨rfl, rfl, rfl⟩ := trodAll_nil r2
  obtain rfl : args = #[v0, v1, v2] := by cases args; simp_all
  obtain ⟨rfl, rfl⟩ := trodVars_none hV
  have k0 := h0
  have lt0 : ∀ x ∈ p0, x.block < W.heap.size := by obtain ⟨m, hm⟩ := k0; exact DataW.trod_lt m _ _ _ hm
  obtain ⟨a0t, a0n, a0s, a0p, rfl, w0s⟩ := open_gram (hval 0 24 v0 rfl rfl) h0
  have k1 := h1
  have lt1 : ∀ x ∈ p1, x.block < W.heap.size := by obtain ⟨m, hm⟩ := k1; exact DataW.trod_lt m _ _ _ hm
  obtain ⟨a1l, w1s⟩ := open_symsv (hval 1 25 v1 rfl rfl) h1
  obtain ⟨a2, rfl, rfl, rfl, w2⟩ := open_int Try.underlying26 (hval 2 26 v2 rfl rfl) h2
  clear hA0
  refine (walk a0t a0n a0s a0p _ a1l a2 W w0s w1s w2).mono fun e W' ⟨he, bel⟩ => ?_
  subst he
  exact ⟨_, rfl, _, _, _, [], _, [], hW', trodAll_mk1 (shut_bool Try.underlying4 _), (trodAll_cons_mk (Below.trod laidOut (by kernel_rfl) (of_decide_eq_true (by kernel_rfl)) k0 bel lt0) (trodAll_cons_mk (Below.trod laidOut (by kernel_rfl) (of_decide_eq_true (by kernel_rfl)) k1 bel lt1) (trodAll_cons_mk (shut_int Try.underlying26 w2) trodAll_mk0))), rfl, bel.frame _, fun h => by cases h⟩

/-! ### The row's step -/
set_option maxRecDepth 100000 in
theorem lifted (os : Os) (started : os.Started) (H : Type) (enc : TypeId × Value → H) :
    ReturnsInHanded {} Try.checked os 3 .any (Rows.factsSaysSpec.pre6 enc Try.prog Try.f3 Rows.factsSaysRow.domain false) (Rows.factsSaysSpec.post enc Try.prog Try.f3 false true false false) := by
  refine returnsInHanded_of_change_sized (C := Try.checked) own started (by kernel_rfl) Try.func3
    (ChangeSpec.witness6 (enc := enc) (C := Try.checked) false ⟨#[], #[.agg #[.int .i64 0, .int .i64 0, .slice none 0 0], .slice none 0 0, .int .u64 0], []⟩ 8 (by kernel_rfl) (by kernel_rfl) (by kernel_rfl) (by kernel_rfl)) ?_
  intro W base args ds gs before hval hW hcnd hsz _
  exact contract H enc W base args ds gs before hval hW hsz

theorem over : Rows.factsSaysRow.holds Try.pinned (OpenSpec.ofChange Rows.factsSaysSpec) :=
  OpenClaim.holds_of_wide 3 Try.f3 rfl rfl rfl rfl rfl rfl rfl ⟨rfl, rfl, rfl, rfl, rfl⟩ rfl rfl rfl rfl rfl (by kernel_rfl) Try.func3 (by kernel_rfl)
    (of_decide_eq_true (by kernel_rfl)) (by unfold Func.isWrapper; first | (rw [if_pos (by decide +kernel)]; kernel_rfl) | (rw [if_neg (by decide +kernel)]; exact ⟨rfl, rfl⟩))
    (fun os started H enc _ => lifted os started H enc)

end Go.Proofs.Ytjdaijghfipecaa.factsSays
namespace Go.Proofs.Ytjdaijghfipecaa
/-- The given statement. -/
theorem factsSays_holds : Rows.FactsSaysSaid := factsSays.over
#print axioms factsSays_holds
end Go.Proofs.Ytjdaijghfipecaa
