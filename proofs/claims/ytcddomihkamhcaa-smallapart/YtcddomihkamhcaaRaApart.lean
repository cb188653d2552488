/-
  The contract of the document's own answer: pushref.Apart.
-/
import Derived.Test.YtcddomihkamhcaaRaRegs
import Derived.Deep.Cut
namespace Go.Proofs.Ytcddomihkamhcaa
open Go.RowKit
open Dfa

theorem bytes_cat (l : List UInt8) (b : UInt8) : (⟨l.toArray⟩ : ByteArray) ++ ⟨#[b]⟩ = ⟨(l ++ [b]).toArray⟩ := by
  apply bytes_ext2
  simp
theorem own_len {w : World} {base e size n : Nat} {v : Value} {xs : List Value} (h : w.ownsRow base e size v n xs) : ∃ ad c, v = .slice ad n c := by
  rcases h.2 with ⟨h, h2⟩ | ⟨g, c, cur, h, _⟩
  · exact ⟨none, 0, by rw [h, h2]⟩
  · exact ⟨_, _, h⟩
theorem info52 : (Try.prog.info? 52).map (fun i => (i.zero, i.size, i.bytes)) = some (some (.agg #[.int .i64 0, .int .i64 0]), 2, 16) := by kernel_rfl
theorem exists_least {P : Nat → Prop} (h : ∃ n, P n) : ∃ n, P n ∧ ∀ m, P m → n ≤ m := by
  obtain ⟨n, hn⟩ := h
  induction n using Nat.strongRecOn with
  | _ n ih =>
    by_cases h : ∃ m, m < n ∧ P m
    · obtain ⟨m, h1, h2⟩ := h
      exact ih m h1 h2
    · exact ⟨n, hn, fun m hm => Nat.le_of_not_lt fun hl => h ⟨m, hl, hm⟩⟩
open Classical in
/-- The least number of which it holds, for a loop whose measure is not read off the world. -/
noncomputable def leastOf (P : Nat → Prop) : Nat := if h : ∃ n, P n then Classical.choose (exists_least h) else 0
theorem leastOf_holds {P : Nat → Prop} (h : ∃ n, P n) : P (leastOf P) := by
  unfold leastOf; rw [dif_pos h]; exact (Classical.choose_spec (exists_least h)).1
theorem leastOf_le {P : Nat → Prop} {n : Nat} (h : P n) : leastOf P ≤ n := by
  have h' : ∃ n, P n := ⟨n, h⟩
  unfold leastOf; rw [dif_pos h']; exact (Classical.choose_spec (exists_least h')).2 n h
def Lv (w : World) (RA RB : Nat → Nat → Int) (TA TB : Nat → Int) (vA tA vB tB v9 v10 : Value) (wr : World) (k0 : Nat) : Prop := ∃ Q lo F, Inv (pr RA RB) Q lo 0 ∧ Fs RA RB F Q ∧ (∀ k, k < lo → ¬ Df TA TB (pr RA RB (Dfa.g Q k).wd)) ∧ lo ≤ Q.length ∧ RK w RA RB vA tA vB tB F (Q.drop lo) [] [] v9 v10 (.slice none 0 0) (.slice none 0 0) wr ∧ k0 = 50000 - lo

set_option maxHeartbeats 16000000 in
set_option maxRecDepth 20000 in
theorem refApart_ok (vA tA vB tB : Value) (n m : Nat) (RA RB : Nat → Nat → Int) (TA TB : Nat → Int) (w : World) (hA : Rw w vA n RA) (hTA : Ts w tA n TA) (hB : Rw w vB m RB) (hTB : Ts w tB m TB) (h1 : chk n n RA TA = 0) (h2 : chk m m RB TB = 0) :
    Calls Try.prog 7 #[.agg #[vA, tA], .agg #[vB, tB]] w fun e w' => ∃ s is, e = .returned (.tuple #[.string s, .bool is]) ∧ Told RA RB TA TB s.data.toList is ∧ Below w.heap.size w w' := by
  obtain ⟨n0, n1, -, n2, -⟩ := chk_zero h1
  obtain ⟨m0, m1, -, m2, -⟩ := chk_zero h2
  have HRW : Hid (Rw w vA n RA ∧ Ts w tA n TA ∧ Rw w vB m RB ∧ Ts w tB m TB) := ⟨hA, hTA, hB, hTB⟩
  have HNM : Hid (n ≤ 200 ∧ m ≤ 200 ∧ 0 < n ∧ 0 < m) := ⟨n1, m1, n0, m0⟩
  have HPA : Hid (∀ l, At n (pr RA RB l).1 ∧ At m (pr RA RB l).2) := fun l => pr_at n2 m2 n0 m0 l
  clear h1 h2 n2 m2 hA hTA hB hTB n0 n1 m0 m1
  have hmk : ∃ cs : Array Value, cs.size = 40602 ∧ (∀ i, i < 40602 → cs[i]? = some (.bool false)) ∧ ∀ W : World, (Instr.makeSlice 54 (.int .i64 40602) (.int .i64 40602)).run Try.prog W = .ok (.slice (some ⟨W.heap.size, 0, none⟩) 40602 40602) (W.alloc (.cells cs 4)) := by
    refine ⟨madeCells #[.bool false] 40602, size_madeCells _ _, fun i hi => by simp [madeCells, hi, Nat.mod_one], fun W => ?_⟩
    exact run_make_row' (P := Try.prog) 54 4 (.bool false) 1 Try.underlying54 info4 rfl .i64 .i64 40602 (by omega) (by omega) W
  obtain ⟨cs, hcs1, hcs2, hmk⟩ := hmk
  obtain ⟨i52, hi52, hz52, hs52, hb52⟩ := info_parts info52
  have H52 : Hid (Try.prog.info? 52 = some i52 ∧ i52.zero = some (.agg #[.int .i64 0, .int .i64 0]) ∧ i52.size = 2 ∧ i52.bytes = 16) := ⟨hi52, hz52, hs52, hb52⟩
  obtain ⟨i9, hi9, hz9, hs9, hb9⟩ := info_parts info9
  have H9 : Hid (Try.prog.info? 9 = some i9 ∧ i9.zero = some (.string ⟨#[]⟩) ∧ i9.size = 1 ∧ i9.bytes = 16) := ⟨hi9, hz9, hs9, hb9⟩
  clear hi52 hz52 hs52 hb52 hi9 hz9 hs9 hb9
  have HK0 : Hid (RK w RA RB vA tA vB tB (fun _ => false) [s0] [] [] (.slice (some ⟨w.heap.size + 3, 0, none⟩) 1 1) (.slice (some ⟨w.heap.size + 4, 0, none⟩) 1 1) (.slice none 0 0) (.slice none 0 0) (((((w.alloc (Obj.cells #[vA, tA] 25)).alloc (Obj.cells #[vB, tB] 25)).alloc (Obj.cells cs 4)).alloc (Obj.cells #[Value.int IntKind.i64 0, Value.int IntKind.i64 0] 52)).alloc (Obj.cells #[Value.string ⟨#[]⟩] 9))) := rk_start w RA RB vA tA vB tB cs hcs1 hcs2
  clear hcs1 hcs2
  go_enter Try.func7, Try.ntmps7
  go_wp2_with fail
  refine (atR_any 0 0 _ (by omega) (by omega)).mono ?_
  rintro _ w1 ⟨rfl, hb⟩
  have HK1 : Hid (RK w RA RB vA tA vB tB (fun _ => false) [s0] [] [] (.slice (some ⟨w.heap.size + 3, 0, none⟩) 1 1) (.slice (some ⟨w.heap.size + 4, 0, none⟩) 1 1) (.slice none 0 0) (.slice none 0 0) w1) := HK0.out.next hb
  clear hb HK0
  have z0 := HK1.out.seen.cell (i := 202) (by omega)
  have z1 := HK1.out.seen.frozen 202
  have HK2 : Hid (RK w RA RB vA tA vB tB (upd1 (fun _ => false) 202) [s0] [] [] (.slice (some ⟨w.heap.size + 3, 0, none⟩) 1 1) (.slice (some ⟨w.heap.size + 4, 0, none⟩) 1 1) (.slice none 0 0) (.slice none 0 0) (w1.setCell ⟨w.heap.size + 2, 202, none⟩ (.bool true))) := HK1.out.mark 202
  have HL0 : Hid (Lv w RA RB TA TB vA tA vB tB (.slice (some ⟨w.heap.size + 3, 0, none⟩) 1 1) (.slice (some ⟨w.heap.size + 4, 0, none⟩) 1 1) (w1.setCell ⟨w.heap.size + 2, 202, none⟩ (.bool true)) 50000) := by
    refine ⟨[s0], 0, _, Inv.start _, ?_, fun k hk => by omega, by simp, HK2.out, by simp⟩
    have hf0 : Fs RA RB (fun _ => false) [] := fun x y _ _ _ _ => ⟨fun h => (by cases h), fun ⟨k, hk, _⟩ => (by simp at hk)⟩
    exact hf0.new (s := s0) (x := 0) (y := 0) (by omega) (by omega) rfl
  go_wp2_with fail
  clear z0 z1 HK1 HK2
  go_loopw [9, 10] (fun v9 v10 wr => ∃ k0, Lv w RA RB TA TB vA tA vB tB v9 v10 wr k0) (fun v9 v10 wr => leastOf (Lv w RA RB TA TB vA tA vB tB v9 v10 wr))
  case atStart => exact ⟨50000, HL0.out⟩
  case round =>
    clear HL0
    have hlv := leastOf_holds hrel
    obtain ⟨k0, HK0⟩ : ∃ q, Hid (leastOf (Lv w RA RB TA TB vA tA vB tB u9 u10 wr) = q) := ⟨_, (rfl : _ = _)⟩
    rw [HK0.out] at hlv
    obtain ⟨Q, lo, F, hiv, hfs, hnd, hlo, hrk, hk0⟩ := hlv
    have HIV0 : Hid (Inv (pr RA RB) Q lo 0) := hiv
    have HFS0 : Hid (Fs RA RB F Q) := hfs
    have HND0 : Hid (∀ k, k < lo → ¬ Df TA TB (pr RA RB (Dfa.g Q k).wd)) := hnd
    have HKK : Hid (k0 = 50000 - lo) := hk0
    have hql : Q.length ≤ 40401 := by
      have h := hiv.few n m (fun i _ => HPA.out _)
      have h2 : (n + 1) * (m + 1) ≤ 201 * 201 := Nat.mul_le_mul (by have := HNM.out.1; omega) (by have := HNM.out.2.1; omega)
      omega
    have HDL : Hid ((Q.drop lo).length = Q.length - lo) := by show _ = _; simp
    clear hiv hfs hnd hk0 hrel
    by_cases hem : lo = Q.length
    · have HDZ : Hid ((Q.drop lo).length = 0) := by show _ = _; rw [HDL.out]; omega
      obtain ⟨na, nc, hnv⟩ := own_len hrk.now
      rw [HDZ.out] at hnv
      subst hnv
      have HTO : Hid (Told RA RB TA TB [] false) := by
        refine Or.inr ⟨rfl, rfl, fun v hv => ?_⟩
        have := (HIV0.out.least (pr_next RA RB) (Df TA TB) (fun i hi _ => HND0.out i hi) v hv).1
        omega
      have HB : Hid (Below w.heap.size w wr) := hrk.below
      clear hrk HK0
      go_wp2_with fail
      go_ret2
      exact ⟨⟨#[]⟩, false, rfl, HTO.out, HB.out⟩
    · have hpos : 0 < (Q.drop lo).length := by rw [HDL.out]; omega
      obtain ⟨gv, ncap, hnv, -, -, -⟩ := own_cells hrk.now hpos
      obtain ⟨gt, tcap, htv, -, -, -⟩ := own_cells hrk.txt hpos
      obtain ⟨L, HL⟩ : ∃ q, Hid ((Q.drop lo).length = q) := ⟨_, (rfl : _ = _)⟩
      rw [HL.out] at hnv htv hpos
      subst hnv
      subst htv
      have HRK : Hid (RK w RA RB vA tA vB tB F (Q.drop lo) [] [] (.slice (some ⟨gv, 0, none⟩) L ncap) (.slice (some ⟨gt, 0, none⟩) L tcap) (.slice none 0 0) (.slice none 0 0) wr) := hrk
      have HPCC : Hid (∀ (F : Nat → Bool) (M1 M2 : List S) (hv sv : Value) (i : Nat) (W : World), i < L → RK w RA RB vA tA vB tB F (Q.drop lo) M1 M2 (.slice (some ⟨gv, 0, none⟩) L ncap) (.slice (some ⟨gt, 0, none⟩) L tcap) hv sv W → W.cell? ⟨gv, i * 2, none⟩ = some (.int .i64 (pr RA RB (Dfa.g Q (lo + i)).wd).1) ∧ W.cell? ⟨gv, i * 2 + 1, none⟩ = some (.int .i64 (pr RA RB (Dfa.g Q (lo + i)).wd).2) ∧ W.cell? ⟨gt, i, none⟩ = some (.string ⟨(Dfa.g Q (lo + i)).wd.toArray⟩)) := fun F M1 M2 hv sv i W hi0 h => by
        have hi : i < (Q.drop lo).length := by rw [HL.out]; exact hi0
        obtain ⟨g4, c4, e4, -, -, h4⟩ := own_cells h.now (by omega)
        obtain ⟨g5, c5, e5, -, -, h5⟩ := own_cells h.txt (by omega)
        simp at e4 e5
        have k0 := pcs_at RA RB (Q.drop lo) i 0 hi (by omega)
        have k1 := pcs_at RA RB (Q.drop lo) i 1 hi (by omega)
        have k2 := txs_at (Q.drop lo) i hi
        rw [g_drop] at k0 k1 k2
        rw [e4.1, e5.1]
        exact ⟨h4 _ _ k0, h4 _ _ k1, h5 _ _ k2⟩
      have hl0 : (0 : Int) < (L : Int) := by omega
      have hll : lo + L = Q.length := by have h1 := HL.out; have h2 := HDL.out; omega
      clear hrk
      go_wp2_with fail
      go_loopw [13] (fun i2 wr => ∃ i : Nat, i ≤ L ∧ i2 = .int .i64 (i : Int) ∧ Hid (∀ k, k < lo + i → ¬ Df TA TB (pr RA RB (Dfa.g Q k).wd)) ∧ Hid (RK w RA RB vA tA vB tB F (Q.drop lo) [] [] (.slice (some ⟨gv, 0, none⟩) L ncap) (.slice (some ⟨gt, 0, none⟩) L tcap) (.slice none 0 0) (.slice none 0 0) wr)) (fun i2 _ => L - (intOf i2).toNat)
      case atStart => exact ⟨0, by omega, rfl, HND0.out, HRK.out⟩
      case round =>
        clear HRK
        obtain ⟨i, hi, rfl, HND, HRK⟩ := hrel
        by_cases hil : i < L
        · have hi0 : (0 : Int) ≤ (i : Int) := by omega
          have hi1 : (i : Int) < (L : Int) := by omega
          obtain ⟨wd, HGQ⟩ : ∃ q, Hid ((Dfa.g Q (lo + i)).wd = q) := ⟨_, (rfl : _ = _)⟩
          obtain ⟨x, HXX⟩ : ∃ q, Hid ((pr RA RB (Dfa.g Q (lo + i)).wd).1 = q) := ⟨_, (rfl : _ = _)⟩
          obtain ⟨y, HYY⟩ : ∃ q, Hid ((pr RA RB (Dfa.g Q (lo + i)).wd).2 = q) := ⟨_, (rfl : _ = _)⟩
          have HAT : Hid (At n x ∧ At m y) := by have := HPA.out (Dfa.g Q (lo + i)).wd; rw [HXX.out, HYY.out] at this; exact this
          have HPC : Hid (∀ W, RK w RA RB vA tA vB tB F (Q.drop lo) [] [] (.slice (some ⟨gv, 0, none⟩) L ncap) (.slice (some ⟨gt, 0, none⟩) L tcap) (.slice none 0 0) (.slice none 0 0) W → W.cell? ⟨gv, i * 2, none⟩ = some (.int .i64 x) ∧ W.cell? ⟨gv, i * 2 + 1, none⟩ = some (.int .i64 y) ∧ W.cell? ⟨gt, i, none⟩ = some (.string ⟨wd.toArray⟩)) := fun W h => by
            have := HPCC.out _ _ _ _ _ i W hil h
            rw [HXX.out, HYY.out, HGQ.out] at this
            exact this
          obtain ⟨t1, HT1⟩ : ∃ q, Hid (tagOf TA x = q) := ⟨_, (rfl : _ = _)⟩
          obtain ⟨t2, HT2⟩ : ∃ q, Hid (tagOf TB y = q) := ⟨_, (rfl : _ = _)⟩
          have HCA : Hid (∀ p : Kp (RK w RA RB vA tA vB tB F (Q.drop lo) [] [] (.slice (some ⟨gv, 0, none⟩) L ncap) (.slice (some ⟨gt, 0, none⟩) L tcap) (.slice none 0 0) (.slice none 0 0)), Calls Try.prog 17 #[.agg #[vA, tA], .int .i64 x] p.W fun e w'' => e = .returned (.int .i64 t1) ∧ ∃ q : Kp (RK w RA RB vA tA vB tB F (Q.drop lo) [] [] (.slice (some ⟨gv, 0, none⟩) L ncap) (.slice (some ⟨gt, 0, none⟩) L tcap) (.slice none 0 0) (.slice none 0 0)), w'' = q.W) := fun p => by
            have := tagOf_any' vA tA n n RA TA x p.W (HRW.out.1.below p.h.below (Nat.le_refl _)) (HRW.out.2.1.below p.h.below (Nat.le_refl _)) HAT.out.1
            rw [HT1.out] at this
            exact Kp.calls p (fun _ _ h hb => h.next hb) this
          have HCB : Hid (∀ p : Kp (RK w RA RB vA tA vB tB F (Q.drop lo) [] [] (.slice (some ⟨gv, 0, none⟩) L ncap) (.slice (some ⟨gt, 0, none⟩) L tcap) (.slice none 0 0) (.slice none 0 0)), Calls Try.prog 17 #[.agg #[vB, tB], .int .i64 y] p.W fun e w'' => e = .returned (.int .i64 t2) ∧ ∃ q : Kp (RK w RA RB vA tA vB tB F (Q.drop lo) [] [] (.slice (some ⟨gv, 0, none⟩) L ncap) (.slice (some ⟨gt, 0, none⟩) L tcap) (.slice none 0 0) (.slice none 0 0)), w'' = q.W) := fun p => by
            have := tagOf_any' vB tB m m RB TB y p.W (HRW.out.2.2.1.below p.h.below (Nat.le_refl _)) (HRW.out.2.2.2.below p.h.below (Nat.le_refl _)) HAT.out.2
            rw [HT2.out] at this
            exact Kp.calls p (fun _ _ h hb => h.next hb) this
          have p0 : ∀ p : Kp (RK w RA RB vA tA vB tB F (Q.drop lo) [] [] (.slice (some ⟨gv, 0, none⟩) L ncap) (.slice (some ⟨gt, 0, none⟩) L tcap) (.slice none 0 0) (.slice none 0 0)), p.W.cell? ⟨w.heap.size, 0, none⟩ = some vA := fun p => p.h.c0
          have p1 : ∀ p : Kp (RK w RA RB vA tA vB tB F (Q.drop lo) [] [] (.slice (some ⟨gv, 0, none⟩) L ncap) (.slice (some ⟨gt, 0, none⟩) L tcap) (.slice none 0 0) (.slice none 0 0)), p.W.cell? ⟨w.heap.size, 1, none⟩ = some tA := fun p => p.h.c1
          have p2 : ∀ p : Kp (RK w RA RB vA tA vB tB F (Q.drop lo) [] [] (.slice (some ⟨gv, 0, none⟩) L ncap) (.slice (some ⟨gt, 0, none⟩) L tcap) (.slice none 0 0) (.slice none 0 0)), p.W.cell? ⟨w.heap.size + 1, 0, none⟩ = some vB := fun p => p.h.c2
          have p3 : ∀ p : Kp (RK w RA RB vA tA vB tB F (Q.drop lo) [] [] (.slice (some ⟨gv, 0, none⟩) L ncap) (.slice (some ⟨gt, 0, none⟩) L tcap) (.slice none 0 0) (.slice none 0 0)), p.W.cell? ⟨w.heap.size + 1, 1, none⟩ = some tB := fun p => p.h.c3
          have p4 : ∀ p : Kp (RK w RA RB vA tA vB tB F (Q.drop lo) [] [] (.slice (some ⟨gv, 0, none⟩) L ncap) (.slice (some ⟨gt, 0, none⟩) L tcap) (.slice none 0 0) (.slice none 0 0)), p.W.cell? ⟨gv, i * 2, none⟩ = some (.int .i64 x) := fun p => (HPC.out _ p.h).1
          have p5 : ∀ p : Kp (RK w RA RB vA tA vB tB F (Q.drop lo) [] [] (.slice (some ⟨gv, 0, none⟩) L ncap) (.slice (some ⟨gt, 0, none⟩) L tcap) (.slice none 0 0) (.slice none 0 0)), p.W.cell? ⟨gv, i * 2 + 1, none⟩ = some (.int .i64 y) := fun p => (HPC.out _ p.h).2.1
          have hne : Nonempty (Kp (RK w RA RB vA tA vB tB F (Q.drop lo) [] [] (.slice (some ⟨gv, 0, none⟩) L ncap) (.slice (some ⟨gt, 0, none⟩) L tcap) (.slice none 0 0) (.slice none 0 0))) := ⟨⟨_, HRK.out⟩⟩
          go_wp2_with fail
          refine wp_region_kept mixed (by kernel_rfl) (HRK.out.next (Below.refl _ _).drew) ?_
          repeat (go_big_quiet_step (first
            | (go_at_call 17; with_reducible exact HCA.out _)
            | (go_at_call 17; with_reducible exact HCB.out _)))
          refine wpQuiet_nil ?_
          intro W2 hw2
          obtain ⟨⟨W2, HS2⟩, rfl⟩ := hw2
          have HK3 : Hid (RK w RA RB vA tA vB tB F (Q.drop lo) [] [] (.slice (some ⟨gv, 0, none⟩) L ncap) (.slice (some ⟨gt, 0, none⟩) L tcap) (.slice none 0 0) (.slice none 0 0) W2) := HS2
          clear HS2 hne p0 p1 p2 p3 p4 p5 HCA HCB HRK
          by_cases hdf : t1 = t2
          · have HDF : Hid (t1 = t2) := hdf
            have hbb : (t1 != t2) = false := by simp [hdf]
            have HN2 : Hid (∀ k, k < lo + (i + 1) → ¬ Df TA TB (pr RA RB (Dfa.g Q k).wd)) := fun k hk => by
              by_cases e : k = lo + i
              · subst e; unfold Df; rw [HXX.out, HYY.out, HT1.out, HT2.out]; simp [HDF.out]
              · exact HND.out k (by omega)
            rw [hbb]
            clear hdf hbb
            go_wp2_with fail
            go_roundw
            case rel => exact ⟨i + 1, by omega, by go_num, HN2, HK3⟩
            case measure => simp [intOf]; omega
          · have HDF : Hid (¬ t1 = t2) := hdf
            have hbb : (t1 != t2) = true := by simp [hdf]
            have HTO : Hid (Told RA RB TA TB wd true) := by
              refine Or.inl ⟨rfl, ?_, fun v hv => ?_⟩
              · rw [← HGQ.out]; unfold Df; rw [HXX.out, HYY.out, HT1.out, HT2.out]; exact HDF.out
              · have := HIV0.out.first (pr_next RA RB) (Df TA TB) i (by omega) HND.out v hv (by omega)
                rwa [HGQ.out] at this
            have HB2 : Hid (Below w.heap.size w W2) := HK3.out.below
            have z0 := (HPC.out _ HK3.out).2.2
            clear hdf
            go_wp2_with fail
            go_ret2
            exact ⟨⟨wd.toArray⟩, true, rfl, HTO.out, HB2.out⟩
        · have HNDL : Hid (∀ k, k < Q.length → ¬ Df TA TB (pr RA RB (Dfa.g Q k).wd)) := fun k hk => HND.out k (by omega)
          clear HND
          go_wp2_with fail
          go_loopw [14, 11, 12] (fun i2 hv sv wr => ∃ i : Nat, i ≤ L ∧ i2 = .int .i64 (i : Int) ∧ Hid (∃ M F, Inv (pr RA RB) (Q ++ M) (lo + i) 0 ∧ Fs RA RB F (Q ++ M) ∧ RK w RA RB vA tA vB tB F (Q.drop lo) M M (.slice (some ⟨gv, 0, none⟩) L ncap) (.slice (some ⟨gt, 0, none⟩) L tcap) hv sv wr)) (fun i2 _ _ _ => L - (intOf i2).toNat)
          case atStart => exact ⟨0, by omega, rfl, [], F, by simpa using HIV0.out, by simpa using HFS0.out, HRK.out⟩
          case round =>
            clear HRK hi
            obtain ⟨hv, rfl⟩ : ∃ hv, hv = u11 := ⟨_, rfl⟩
            obtain ⟨sv, rfl⟩ : ∃ sv, sv = u12 := ⟨_, rfl⟩
            obtain ⟨i, hi, rfl, HE⟩ := hrel
            by_cases hil : i < L
            · obtain ⟨wd, HGQ⟩ : ∃ q, Hid ((Dfa.g Q (lo + i)).wd = q) := ⟨_, (rfl : _ = _)⟩
              obtain ⟨x, HXX⟩ : ∃ q, Hid ((pr RA RB (Dfa.g Q (lo + i)).wd).1 = q) := ⟨_, (rfl : _ = _)⟩
              obtain ⟨y, HYY⟩ : ∃ q, Hid ((pr RA RB (Dfa.g Q (lo + i)).wd).2 = q) := ⟨_, (rfl : _ = _)⟩
              have HAT : Hid (At n x ∧ At m y) := by have := HPA.out (Dfa.g Q (lo + i)).wd; rw [HXX.out, HYY.out] at this; exact this
              have HPW : Hid (pr RA RB wd = (x, y)) := by show _ = _; rw [← HGQ.out, ← HXX.out, ← HYY.out]
              have hi0 : (0 : Int) ≤ (i : Int) := by omega
              have hi1 : (i : Int) < (L : Int) := by omega
              go_wp2_with fail
              go_loopw [15, 11, 12] (fun c2 hv sv wr => ∃ c : Nat, c ≤ 256 ∧ c2 = .int .i64 (c : Int) ∧ Hid (∃ M F, Inv (pr RA RB) (Q ++ M) (lo + i) c ∧ Fs RA RB F (Q ++ M) ∧ RK w RA RB vA tA vB tB F (Q.drop lo) M M (.slice (some ⟨gv, 0, none⟩) L ncap) (.slice (some ⟨gt, 0, none⟩) L tcap) hv sv wr)) (fun c2 _ _ _ => 256 - (intOf c2).toNat)
              case atStart => exact ⟨0, by omega, rfl, HE⟩
              case round =>
                clear HE
                obtain ⟨hv, rfl⟩ : ∃ hv, hv = u11 := ⟨_, rfl⟩
                obtain ⟨sv, rfl⟩ : ∃ sv, sv = u12 := ⟨_, rfl⟩
                obtain ⟨c, hc, rfl, HE⟩ := hrel
                by_cases hcl : c < 256
                · obtain ⟨M, F, hiv, hfs, hrk⟩ := HE.out
                  have HIV : Hid (Inv (pr RA RB) (Q ++ M) (lo + i) c) := hiv
                  have HFS : Hid (Fs RA RB F (Q ++ M)) := hfs
                  have HRK0 : Hid (RK w RA RB vA tA vB tB F (Q.drop lo) M M (.slice (some ⟨gv, 0, none⟩) L ncap) (.slice (some ⟨gt, 0, none⟩) L tcap) hv sv wr) := hrk
                  have HPC : Hid (∀ W, RK w RA RB vA tA vB tB F (Q.drop lo) M M (.slice (some ⟨gv, 0, none⟩) L ncap) (.slice (some ⟨gt, 0, none⟩) L tcap) hv sv W → W.cell? ⟨gv, i * 2, none⟩ = some (.int .i64 x) ∧ W.cell? ⟨gv, i * 2 + 1, none⟩ = some (.int .i64 y)) := fun W h => by
                    have := HPCC.out _ _ _ _ _ i W hil h
                    rw [HXX.out, HYY.out] at this
                    exact ⟨this.1, this.2.1⟩
                  have HGW : Hid ((Dfa.g (Q ++ M) (lo + i)).wd = wd) := by show _ = _; rw [g_app _ _ _ (by omega)]; exact HGQ.out
                  have hc1 : (c : Int) < 256 := by omega
                  obtain ⟨x1, HX1N⟩ : ∃ q, Hid (nx RA x c = q) := ⟨_, (rfl : _ = _)⟩
                  obtain ⟨y1, HY1N⟩ : ∃ q, Hid (nx RB y c = q) := ⟨_, (rfl : _ = _)⟩
                  have HPR : Hid (pr RA RB (wd ++ [UInt8.ofNat c]) = (x1, y1)) := by show _ = _; rw [pr_snoc, HPW.out, ofNat_small hcl, ← HX1N.out, ← HY1N.out]
                  have HXR : Hid ((-1 ≤ x1 ∧ x1 < 200) ∧ (-1 ≤ y1 ∧ y1 < 200)) := by
                    have h := HPA.out (wd ++ [UInt8.ofNat c])
                    rw [HPR.out] at h
                    have h3 := HNM.out
                    obtain ⟨⟨h4, h5⟩, h6, h7⟩ := h
                    simp only at h4 h5 h6 h7
                    exact ⟨⟨h4, by omega⟩, h6, by omega⟩
                  have HBA : Hid (∀ W, Below w.heap.size w W → Calls Try.prog 15 #[.agg #[vA, tA], .int .i64 x, .int .i64 (c : Int)] W fun e w' => e = .returned (.int .i64 x1) ∧ Below W.heap.size W w') := fun W hb => by
                    have := nextR_any vA tA n n RA TA x c W (HRW.out.1.below hb (Nat.le_refl _)) (HRW.out.2.1.below hb (Nat.le_refl _)) HAT.out.1 hcl
                    rwa [HX1N.out] at this
                  have HBB : Hid (∀ W, Below w.heap.size w W → Calls Try.prog 15 #[.agg #[vB, tB], .int .i64 y, .int .i64 (c : Int)] W fun e w' => e = .returned (.int .i64 y1) ∧ Below W.heap.size W w') := fun W hb => by
                    have := nextR_any vB tB m m RB TB y c W (HRW.out.2.2.1.below hb (Nat.le_refl _)) (HRW.out.2.2.2.below hb (Nat.le_refl _)) HAT.out.2 hcl
                    rwa [HY1N.out] at this
                  have HW8 : Hid (IntKind.u8.wrap (c : Int) = (c : Int)) := by show _ = _; unfold IntKind.wrap; simp [IntKind.bits, IntKind.signed]; omega
                  clear HX1N HY1N hiv hfs hrk HE
                  go_wp2_with fail
                  refine wp_region_free mixed (fun a0 d a W => ∃ (gX : Nat) (x16 x66 x67 x68 x69 x70 x71 x72 x73 x74 x75 x76 x77 x78 x79 x80 x81 x82 x83 x84 : Value), a = ((((((((((((((((((((a0.put (some 16) x16).put (some 66) x66).put (some 67) x67).put (some 68) x68).put (some 69) x69).put (some 70) x70).put (some 71) x71).put (some 72) x72).put (some 73) x73).put (some 74) x74).put (some 75) x75).put (some 76) x76).put (some 77) x77).put (some 78) x78).put (some 79) x79).put (some 80) x80).put (some 81) x81).put (some 82) x82).put (some 83) x83).put (some 84) x84) ∧ Hid (RR21 w RA RB vA tA vB tB Q M lo L gv ncap gt tcap F hv sv i c x y x1 y1 gX d x16 x66 x67 x68 x69 x70 x71 x72 x73 x74 x75 x76 x77 x78 x79 x80 x81 x82 x83 x84 W)) (by kernel_rfl) ⟨0, u16, u66, u67, u68, u69, u70, u71, u72, u73, u74, u75, u76, u77, u78, u79, u80, u81, u82, u83, u84, by simp only [Act.put, List.setIfInBounds_toArray, List.set_cons_zero, List.set_cons_succ], ?_⟩ ?_ ?_
                  · exact ⟨fun h => no_way h, fun h => no_way h, fun h => no_way h, fun h => no_way h, fun h => no_way h, fun h => no_way h, fun h => no_way h, fun h => no_way h, fun h => no_way h, fun h => no_way h, fun h => no_way h, fun h => no_way h, fun h => no_way h, fun h => no_way h, fun h => no_way h, fun h => no_way h, fun h => no_way h, fun h => no_way h, fun h => no_way h, fun h => no_way h, fun _ => trivial, fun h => no_way h, fun h => no_way h, fun h => no_way h, fun h => no_way h, fun h => no_way h, HRK0.out.next (Below.refl _ _).drew, fun h => no_way h, fun h => no_way h, fun h => no_way h⟩
                  · simp only [StepAll, and_true]
                    refine ⟨?_, ?_, ?_, ?_, ?_, ?_, ?_, ?_, ?_, ?_, ?_, ?_, ?_, ?_, ?_, ?_, ?_, ?_, ?_, ?_, ?_⟩
                    · intro d a W hI hd hdep
                      obtain ⟨gX, x16, x66, x67, x68, x69, x70, x71, x72, x73, x74, x75, x76, x77, x78, x79, x80, x81, x82, x83, x84, rfl, hF⟩ := hI
                      clear hdep hd
                      intro K hK
                      simp only [Act.put, List.setIfInBounds_toArray, List.set_cons_zero, List.set_cons_succ]
                      go_simp
                      refine hK.out _ _ ⟨gX, x16, (.func (Fn.func 15) #[] #[]), x67, x68, x69, x70, x71, x72, x73, x74, x75, x76, x77, x78, x79, x80, x81, x82, x83, x84, by simp only [Act.put, List.setIfInBounds_toArray, List.set_cons_zero, List.set_cons_succ], ?_⟩
                      exact ⟨fun _ => rfl, fun h => hF.out.f1 (by simpa using h), fun h => hF.out.f2 (by simpa using h), fun h => hF.out.f3 (by simpa using h), fun h => hF.out.f4 (by simpa using h), fun h => hF.out.f5 (by simpa using h), fun h => hF.out.f6 (by simpa using h), fun h => hF.out.f7 (by simpa using h), fun h => hF.out.f8 (by simpa using h), fun h => hF.out.f9 (by simpa using h), fun h => hF.out.f10 (by simpa using h), fun h => hF.out.f11 (by simpa using h), fun h => hF.out.f12 (by simpa using h), fun h => hF.out.f13 (by simpa using h), fun h => hF.out.f14 (by simpa using h), fun h => hF.out.f15 (by simpa using h), fun h => hF.out.f16 (by simpa using h), fun h => hF.out.f17 (by simpa using h), fun h => hF.out.f18 (by simpa using h), fun h => hF.out.f19 (by simpa using h), fun h => hF.out.f20 (by simpa using h), fun h => by have := hF.out.o18_8 (by simpa using h); simpa using this, fun h => by have := hF.out.o18_17 (by simpa using h); simpa using this, fun h => by have := hF.out.p8 (by simpa using h); simpa using this, fun h => by have := hF.out.p17 (by simpa using h); simpa using this, fun h => by have := hF.out.p19 (by simpa using h); simpa using this, hF.out.rk, fun h => hF.out.gx (by simpa using h), fun h h2 => hF.out.al (by simpa using h) (by simpa using h2), fun h => hF.out.fin (by simpa using h)⟩
                    · intro d a W hI hd hdep
                      obtain ⟨gX, x16, x66, x67, x68, x69, x70, x71, x72, x73, x74, x75, x76, x77, x78, x79, x80, x81, x82, x83, x84, rfl, hF⟩ := hI
                      have ya := hF.out.rk.c0
                      have yb := hF.out.rk.c1
                      clear hdep hd
                      intro K hK
                      simp only [Act.put, List.setIfInBounds_toArray, List.set_cons_zero, List.set_cons_succ]
                      go_simp
                      refine hK.out _ _ ⟨gX, x16, x66, (.agg #[vA, tA]), x68, x69, x70, x71, x72, x73, x74, x75, x76, x77, x78, x79, x80, x81, x82, x83, x84, by simp only [Act.put, List.setIfInBounds_toArray, List.set_cons_zero, List.set_cons_succ], ?_⟩
                      exact ⟨fun h => hF.out.f0 (by simpa using h), fun _ => rfl, fun h => hF.out.f2 (by simpa using h), fun h => hF.out.f3 (by simpa using h), fun h => hF.out.f4 (by simpa using h), fun h => hF.out.f5 (by simpa using h), fun h => hF.out.f6 (by simpa using h), fun h => hF.out.f7 (by simpa using h), fun h => hF.out.f8 (by simpa using h), fun h => hF.out.f9 (by simpa using h), fun h => hF.out.f10 (by simpa using h), fun h => hF.out.f11 (by simpa using h), fun h => hF.out.f12 (by simpa using h), fun h => hF.out.f13 (by simpa using h), fun h => hF.out.f14 (by simpa using h), fun h => hF.out.f15 (by simpa using h), fun h => hF.out.f16 (by simpa using h), fun h => hF.out.f17 (by simpa using h), fun h => hF.out.f18 (by simpa using h), fun h => hF.out.f19 (by simpa using h), fun h => hF.out.f20 (by simpa using h), fun h => by have := hF.out.o18_8 (by simpa using h); simpa using this, fun h => by have := hF.out.o18_17 (by simpa using h); simpa using this, fun h => by have := hF.out.p8 (by simpa using h); simpa using this, fun h => by have := hF.out.p17 (by simpa using h); simpa using this, fun h => by have := hF.out.p19 (by simpa using h); simpa using this, hF.out.rk, fun h => hF.out.gx (by simpa using h), fun h h2 => hF.out.al (by simpa using h) (by simpa using h2), fun h => hF.out.fin (by simpa using h)⟩
                    · intro d a W hI hd hdep
                      obtain ⟨gX, x16, x66, x67, x68, x69, x70, x71, x72, x73, x74, x75, x76, x77, x78, x79, x80, x81, x82, x83, x84, rfl, hF⟩ := hI
                      clear hdep hd
                      intro K hK
                      simp only [Act.put, List.setIfInBounds_toArray, List.set_cons_zero, List.set_cons_succ]
                      go_simp
                      refine hK.out _ _ ⟨gX, x16, x66, x67, (.slice (some ⟨gv, 0, none⟩) L ncap), x69, x70, x71, x72, x73, x74, x75, x76, x77, x78, x79, x80, x81, x82, x83, x84, by simp only [Act.put, List.setIfInBounds_toArray, List.set_cons_zero, List.set_cons_succ], ?_⟩
                      exact ⟨fun h => hF.out.f0 (by simpa using h), fun h => hF.out.f1 (by simpa using h), fun _ => rfl, fun h => hF.out.f3 (by simpa using h), fun h => hF.out.f4 (by simpa using h), fun h => hF.out.f5 (by simpa using h), fun h => hF.out.f6 (by simpa using h), fun h => hF.out.f7 (by simpa using h), fun h => hF.out.f8 (by simpa using h), fun h => hF.out.f9 (by simpa using h), fun h => hF.out.f10 (by simpa using h), fun h => hF.out.f11 (by simpa using h), fun h => hF.out.f12 (by simpa using h), fun h => hF.out.f13 (by simpa using h), fun h => hF.out.f14 (by simpa using h), fun h => hF.out.f15 (by simpa using h), fun h => hF.out.f16 (by simpa using h), fun h => hF.out.f17 (by simpa using h), fun h => hF.out.f18 (by simpa using h), fun h => hF.out.f19 (by simpa using h), fun h => hF.out.f20 (by simpa using h), fun h => by have := hF.out.o18_8 (by simpa using h); simpa using this, fun h => by have := hF.out.o18_17 (by simpa using h); simpa using this, fun h => by have := hF.out.p8 (by simpa using h); simpa using this, fun h => by have := hF.out.p17 (by simpa using h); simpa using this, fun h => by have := hF.out.p19 (by simpa using h); simpa using this, hF.out.rk, fun h => hF.out.gx (by simpa using h), fun h h2 => hF.out.al (by simpa using h) (by simpa using h2), fun h => hF.out.fin (by simpa using h)⟩
                    · intro d a W hI hd hdep
                      obtain ⟨gX, x16, x66, x67, x68, x69, x70, x71, x72, x73, x74, x75, x76, x77, x78, x79, x80, x81, x82, x83, x84, rfl, hF⟩ := hI
                      clear hdep hd
                      intro K hK
                      simp only [Act.put, List.setIfInBounds_toArray, List.set_cons_zero, List.set_cons_succ]
                      go_simp
                      refine hK.out _ _ ⟨gX, x16, x66, x67, x68, (.int .i64 (i : Int)), x70, x71, x72, x73, x74, x75, x76, x77, x78, x79, x80, x81, x82, x83, x84, by simp only [Act.put, List.setIfInBounds_toArray, List.set_cons_zero, List.set_cons_succ], ?_⟩
                      exact ⟨fun h => hF.out.f0 (by simpa using h), fun h => hF.out.f1 (by simpa using h), fun h => hF.out.f2 (by simpa using h), fun _ => rfl, fun h => hF.out.f4 (by simpa using h), fun h => hF.out.f5 (by simpa using h), fun h => hF.out.f6 (by simpa using h), fun h => hF.out.f7 (by simpa using h), fun h => hF.out.f8 (by simpa using h), fun h => hF.out.f9 (by simpa using h), fun h => hF.out.f10 (by simpa using h), fun h => hF.out.f11 (by simpa using h), fun h => hF.out.f12 (by simpa using h), fun h => hF.out.f13 (by simpa using h), fun h => hF.out.f14 (by simpa using h), fun h => hF.out.f15 (by simpa using h), fun h => hF.out.f16 (by simpa using h), fun h => hF.out.f17 (by simpa using h), fun h => hF.out.f18 (by simpa using h), fun h => hF.out.f19 (by simpa using h), fun h => hF.out.f20 (by simpa using h), fun h => by have := hF.out.o18_8 (by simpa using h); simpa using this, fun h => by have := hF.out.o18_17 (by simpa using h); simpa using this, fun h => by have := hF.out.p8 (by simpa using h); simpa using this, fun h => by have := hF.out.p17 (by simpa using h); simpa using this, fun h => by have := hF.out.p19 (by simpa using h); simpa using this, hF.out.rk, fun h => hF.out.gx (by simpa using h), fun h h2 => hF.out.al (by simpa using h) (by simpa using h2), fun h => hF.out.fin (by simpa using h)⟩
                    · intro d a W hI hd hdep
                      obtain ⟨gX, x16, x66, x67, x68, x69, x70, x71, x72, x73, x74, x75, x76, x77, x78, x79, x80, x81, x82, x83, x84, rfl, hF⟩ := hI
                      have hd2 : d 2 = true := dep_of hdep 2 (by kernel_rfl)
                      have hd3 : d 3 = true := dep_of hdep 3 (by kernel_rfl)
                      obtain rfl := hF.out.f2 hd2
                      obtain rfl := hF.out.f3 hd3
                      clear hdep hd hd2 hd3
                      intro K hK
                      simp only [Act.put, List.setIfInBounds_toArray, List.set_cons_zero, List.set_cons_succ]
                      go_simp
                      refine hK.out _ _ ⟨gX, x16, x66, x67, (.slice (some ⟨gv, 0, none⟩) L ncap), (.int .i64 (i : Int)), (.pointer (some ⟨gv, i * 2, none⟩)), x71, x72, x73, x74, x75, x76, x77, x78, x79, x80, x81, x82, x83, x84, by simp only [Act.put, List.setIfInBounds_toArray, List.set_cons_zero, List.set_cons_succ], ?_⟩
                      exact ⟨fun h => hF.out.f0 (by simpa using h), fun h => hF.out.f1 (by simpa using h), fun h => hF.out.f2 (by simpa using h), fun h => hF.out.f3 (by simpa using h), fun _ => rfl, fun h => hF.out.f5 (by simpa using h), fun h => hF.out.f6 (by simpa using h), fun h => hF.out.f7 (by simpa using h), fun h => hF.out.f8 (by simpa using h), fun h => hF.out.f9 (by simpa using h), fun h => hF.out.f10 (by simpa using h), fun h => hF.out.f11 (by simpa using h), fun h => hF.out.f12 (by simpa using h), fun h => hF.out.f13 (by simpa using h), fun h => hF.out.f14 (by simpa using h), fun h => hF.out.f15 (by simpa using h), fun h => hF.out.f16 (by simpa using h), fun h => hF.out.f17 (by simpa using h), fun h => hF.out.f18 (by simpa using h), fun h => hF.out.f19 (by simpa using h), fun h => hF.out.f20 (by simpa using h), fun h => by have := hF.out.o18_8 (by simpa using h); simpa using this, fun h => by have := hF.out.o18_17 (by simpa using h); simpa using this, fun h => by have := hF.out.p8 (by simpa using h); simpa using this, fun h => by have := hF.out.p17 (by simpa using h); simpa using this, fun h => by have := hF.out.p19 (by simpa using h); simpa using this, hF.out.rk, fun h => hF.out.gx (by simpa using h), fun h h2 => hF.out.al (by simpa using h) (by simpa using h2), fun h => hF.out.fin (by simpa using h)⟩
                    · intro d a W hI hd hdep
                      obtain ⟨gX, x16, x66, x67, x68, x69, x70, x71, x72, x73, x74, x75, x76, x77, x78, x79, x80, x81, x82, x83, x84, rfl, hF⟩ := hI
                      have hd4 : d 4 = true := dep_of hdep 4 (by kernel_rfl)
                      obtain rfl := hF.out.f4 hd4
                      clear hdep hd hd4
                      intro K hK
                      simp only [Act.put, List.setIfInBounds_toArray, List.set_cons_zero, List.set_cons_succ]
                      go_simp
                      refine hK.out _ _ ⟨gX, x16, x66, x67, x68, x69, (.pointer (some ⟨gv, i * 2, none⟩)), (.pointer (some ⟨gv, i * 2, none⟩)), x72, x73, x74, x75, x76, x77, x78, x79, x80, x81, x82, x83, x84, by simp only [Act.put, List.setIfInBounds_toArray, List.set_cons_zero, List.set_cons_succ], ?_⟩
                      exact ⟨fun h => hF.out.f0 (by simpa using h), fun h => hF.out.f1 (by simpa using h), fun h => hF.out.f2 (by simpa using h), fun h => hF.out.f3 (by simpa using h), fun h => hF.out.f4 (by simpa using h), fun _ => rfl, fun h => hF.out.f6 (by simpa using h), fun h => hF.out.f7 (by simpa using h), fun h => hF.out.f8 (by simpa using h), fun h => hF.out.f9 (by simpa using h), fun h => hF.out.f10 (by simpa using h), fun h => hF.out.f11 (by simpa using h), fun h => hF.out.f12 (by simpa using h), fun h => hF.out.f13 (by simpa using h), fun h => hF.out.f14 (by simpa using h), fun h => hF.out.f15 (by simpa using h), fun h => hF.out.f16 (by simpa using h), fun h => hF.out.f17 (by simpa using h), fun h => hF.out.f18 (by simpa using h), fun h => hF.out.f19 (by simpa using h), fun h => hF.out.f20 (by simpa using h), fun h => by have := hF.out.o18_8 (by simpa using h); simpa using this, fun h => by have := hF.out.o18_17 (by simpa using h); simpa using this, fun h => by have := hF.out.p8 (by simpa using h); simpa using this, fun h => by have := hF.out.p17 (by simpa using h); simpa using this, fun h => by have := hF.out.p19 (by simpa using h); simpa using this, hF.out.rk, fun h => hF.out.gx (by simpa using h), fun h h2 => hF.out.al (by simpa using h) (by simpa using h2), fun h => hF.out.fin (by simpa using h)⟩
                    · intro d a W hI hd hdep
                      obtain ⟨gX, x16, x66, x67, x68, x69, x70, x71, x72, x73, x74, x75, x76, x77, x78, x79, x80, x81, x82, x83, x84, rfl, hF⟩ := hI
                      have hd5 : d 5 = true := dep_of hdep 5 (by kernel_rfl)
                      obtain rfl := hF.out.f5 hd5
                      have ya := (HPC.out _ hF.out.rk).1
                      clear hdep hd hd5
                      intro K hK
                      simp only [Act.put, List.setIfInBounds_toArray, List.set_cons_zero, List.set_cons_succ]
                      go_simp
                      refine hK.out _ _ ⟨gX, x16, x66, x67, x68, x69, x70, (.pointer (some ⟨gv, i * 2, none⟩)), (.int .i64 x), x73, x74, x75, x76, x77, x78, x79, x80, x81, x82, x83, x84, by simp only [Act.put, List.setIfInBounds_toArray, List.set_cons_zero, List.set_cons_succ], ?_⟩
                      exact ⟨fun h => hF.out.f0 (by simpa using h), fun h => hF.out.f1 (by simpa using h), fun h => hF.out.f2 (by simpa using h), fun h => hF.out.f3 (by simpa using h), fun h => hF.out.f4 (by simpa using h), fun h => hF.out.f5 (by simpa using h), fun _ => rfl, fun h => hF.out.f7 (by simpa using h), fun h => hF.out.f8 (by simpa using h), fun h => hF.out.f9 (by simpa using h), fun h => hF.out.f10 (by simpa using h), fun h => hF.out.f11 (by simpa using h), fun h => hF.out.f12 (by simpa using h), fun h => hF.out.f13 (by simpa using h), fun h => hF.out.f14 (by simpa using h), fun h => hF.out.f15 (by simpa using h), fun h => hF.out.f16 (by simpa using h), fun h => hF.out.f17 (by simpa using h), fun h => hF.out.f18 (by simpa using h), fun h => hF.out.f19 (by simpa using h), fun h => hF.out.f20 (by simpa using h), fun h => by have := hF.out.o18_8 (by simpa using h); simpa using this, fun h => by have := hF.out.o18_17 (by simpa using h); simpa using this, fun h => by have := hF.out.p8 (by simpa using h); simpa using this, fun h => by have := hF.out.p17 (by simpa using h); simpa using this, fun h => by have := hF.out.p19 (by simpa using h); simpa using this, hF.out.rk, fun h => hF.out.gx (by simpa using h), fun h h2 => hF.out.al (by simpa using h) (by simpa using h2), fun h => hF.out.fin (by simpa using h)⟩
                    · intro d a W hI hd hdep
                      obtain ⟨gX, x16, x66, x67, x68, x69, x70, x71, x72, x73, x74, x75, x76, x77, x78, x79, x80, x81, x82, x83, x84, rfl, hF⟩ := hI
                      clear hdep hd
                      intro K hK
                      simp only [Act.put, List.setIfInBounds_toArray, List.set_cons_zero, List.set_cons_succ]
                      go_simp
                      refine hK.out _ _ ⟨gX, x16, x66, x67, x68, x69, x70, x71, x72, (.int .i64 (c : Int)), x74, x75, x76, x77, x78, x79, x80, x81, x82, x83, x84, by simp only [Act.put, List.setIfInBounds_toArray, List.set_cons_zero, List.set_cons_succ], ?_⟩
                      exact ⟨fun h => hF.out.f0 (by simpa using h), fun h => hF.out.f1 (by simpa using h), fun h => hF.out.f2 (by simpa using h), fun h => hF.out.f3 (by simpa using h), fun h => hF.out.f4 (by simpa using h), fun h => hF.out.f5 (by simpa using h), fun h => hF.out.f6 (by simpa using h), fun _ => rfl, fun h => hF.out.f8 (by simpa using h), fun h => hF.out.f9 (by simpa using h), fun h => hF.out.f10 (by simpa using h), fun h => hF.out.f11 (by simpa using h), fun h => hF.out.f12 (by simpa using h), fun h => hF.out.f13 (by simpa using h), fun h => hF.out.f14 (by simpa using h), fun h => hF.out.f15 (by simpa using h), fun h => hF.out.f16 (by simpa using h), fun h => hF.out.f17 (by simpa using h), fun h => hF.out.f18 (by simpa using h), fun h => hF.out.f19 (by simpa using h), fun h => hF.out.f20 (by simpa using h), fun h => by have := hF.out.o18_8 (by simpa using h); simpa using this, fun h => by have := hF.out.o18_17 (by simpa using h); simpa using this, fun h => by have := hF.out.p8 (by simpa using h); simpa using this, fun h => by have := hF.out.p17 (by simpa using h); simpa using this, fun h => by have := hF.out.p19 (by simpa using h); simpa using this, hF.out.rk, fun h => hF.out.gx (by simpa using h), fun h h2 => hF.out.al (by simpa using h) (by simpa using h2), fun h => hF.out.fin (by simpa using h)⟩
                    · intro d a W hI hd hdep
                      obtain ⟨gX, x16, x66, x67, x68, x69, x70, x71, x72, x73, x74, x75, x76, x77, x78, x79, x80, x81, x82, x83, x84, rfl, hF⟩ := hI
                      have hd0 : d 0 = true := dep_of hdep 0 (by kernel_rfl)
                      have hd1 : d 1 = true := dep_of hdep 1 (by kernel_rfl)
                      have hd6 : d 6 = true := dep_of hdep 6 (by kernel_rfl)
                      have hd7 : d 7 = true := dep_of hdep 7 (by kernel_rfl)
                      obtain rfl := hF.out.f0 hd0
                      obtain rfl := hF.out.f1 hd1
                      obtain rfl := hF.out.f6 hd6
                      obtain rfl := hF.out.f7 hd7
                      have HN20 : Hid (d 20 = false) := no_later hF.out.p8 hd
                      clear hdep hd hd0 hd1 hd6 hd7
                      intro K hK
                      simp only [Act.put, List.setIfInBounds_toArray, List.set_cons_zero, List.set_cons_succ]
                      go_simp
                      refine (HBA.out W hF.out.rk.below).mono ?_
                      rintro _ W1 ⟨rfl, hB⟩
                      go_simp
                      refine hK.out _ _ ⟨gX, x16, (.func (Fn.func 15) #[] #[]), (.agg #[vA, tA]), x68, x69, x70, x71, (.int .i64 x), (.int .i64 (c : Int)), (.int .i64 x1), x75, x76, x77, x78, x79, x80, x81, x82, x83, x84, by simp only [Act.put, List.setIfInBounds_toArray, List.set_cons_zero, List.set_cons_succ], ?_⟩
                      exact ⟨fun h => hF.out.f0 (by simpa using h), fun h => hF.out.f1 (by simpa using h), fun h => hF.out.f2 (by simpa using h), fun h => hF.out.f3 (by simpa using h), fun h => hF.out.f4 (by simpa using h), fun h => hF.out.f5 (by simpa using h), fun h => hF.out.f6 (by simpa using h), fun h => hF.out.f7 (by simpa using h), fun _ => rfl, fun h => hF.out.f9 (by simpa using h), fun h => hF.out.f10 (by simpa using h), fun h => hF.out.f11 (by simpa using h), fun h => hF.out.f12 (by simpa using h), fun h => hF.out.f13 (by simpa using h), fun h => hF.out.f14 (by simpa using h), fun h => hF.out.f15 (by simpa using h), fun h => hF.out.f16 (by simpa using h), fun h => hF.out.f17 (by simpa using h), fun h => hF.out.f18 (by simpa using h), fun h => hF.out.f19 (by simpa using h), fun h => hF.out.f20 (by simpa using h), fun _ => by simp, fun h => by have := hF.out.o18_17 (by simpa using h); simpa using this, fun _ => by simp, fun h => by have := hF.out.p17 (by simpa using h); simpa using this, fun h => by have := hF.out.p19 (by simpa using h); simpa using this, hF.out.rk.next hB, fun h => have k := hF.out.gx (by simpa using h); ⟨k.1, Nat.lt_of_lt_of_le k.2.1 hB.size, k.2.2⟩, fun h h2 => have k := hF.out.al (by simpa using h) (by simpa using h2); k.of_block (hB.block _ k.lt), fun h => by have := HN20.out; simp [this] at h⟩
                    · intro d a W hI hd hdep
                      obtain ⟨gX, x16, x66, x67, x68, x69, x70, x71, x72, x73, x74, x75, x76, x77, x78, x79, x80, x81, x82, x83, x84, rfl, hF⟩ := hI
                      clear hdep hd
                      intro K hK
                      simp only [Act.put, List.setIfInBounds_toArray, List.set_cons_zero, List.set_cons_succ]
                      go_simp
                      refine hK.out _ _ ⟨gX, x16, x66, x67, x68, x69, x70, x71, x72, x73, x74, (.func (Fn.func 15) #[] #[]), x76, x77, x78, x79, x80, x81, x82, x83, x84, by simp only [Act.put, List.setIfInBounds_toArray, List.set_cons_zero, List.set_cons_succ], ?_⟩
                      exact ⟨fun h => hF.out.f0 (by simpa using h), fun h => hF.out.f1 (by simpa using h), fun h => hF.out.f2 (by simpa using h), fun h => hF.out.f3 (by simpa using h), fun h => hF.out.f4 (by simpa using h), fun h => hF.out.f5 (by simpa using h), fun h => hF.out.f6 (by simpa using h), fun h => hF.out.f7 (by simpa using h), fun h => hF.out.f8 (by simpa using h), fun _ => rfl, fun h => hF.out.f10 (by simpa using h), fun h => hF.out.f11 (by simpa using h), fun h => hF.out.f12 (by simpa using h), fun h => hF.out.f13 (by simpa using h), fun h => hF.out.f14 (by simpa using h), fun h => hF.out.f15 (by simpa using h), fun h => hF.out.f16 (by simpa using h), fun h => hF.out.f17 (by simpa using h), fun h => hF.out.f18 (by simpa using h), fun h => hF.out.f19 (by simpa using h), fun h => hF.out.f20 (by simpa using h), fun h => by have := hF.out.o18_8 (by simpa using h); simpa using this, fun h => by have := hF.out.o18_17 (by simpa using h); simpa using this, fun h => by have := hF.out.p8 (by simpa using h); simpa using this, fun h => by have := hF.out.p17 (by simpa using h); simpa using this, fun h => by have := hF.out.p19 (by simpa using h); simpa using this, hF.out.rk, fun h => hF.out.gx (by simpa using h), fun h h2 => hF.out.al (by simpa using h) (by simpa using h2), fun h => hF.out.fin (by simpa using h)⟩
                    · intro d a W hI hd hdep
                      obtain ⟨gX, x16, x66, x67, x68, x69, x70, x71, x72, x73, x74, x75, x76, x77, x78, x79, x80, x81, x82, x83, x84, rfl, hF⟩ := hI
                      have ya := hF.out.rk.c2
                      have yb := hF.out.rk.c3
                      clear hdep hd
                      intro K hK
                      simp only [Act.put, List.setIfInBounds_toArray, List.set_cons_zero, List.set_cons_succ]
                      go_simp
                      refine hK.out _ _ ⟨gX, x16, x66, x67, x68, x69, x70, x71, x72, x73, x74, x75, (.agg #[vB, tB]), x77, x78, x79, x80, x81, x82, x83, x84, by simp only [Act.put, List.setIfInBounds_toArray, List.set_cons_zero, List.set_cons_succ], ?_⟩
                      exact ⟨fun h => hF.out.f0 (by simpa using h), fun h => hF.out.f1 (by simpa using h), fun h => hF.out.f2 (by simpa using h), fun h => hF.out.f3 (by simpa using h), fun h => hF.out.f4 (by simpa using h), fun h => hF.out.f5 (by simpa using h), fun h => hF.out.f6 (by simpa using h), fun h => hF.out.f7 (by simpa using h), fun h => hF.out.f8 (by simpa using h), fun h => hF.out.f9 (by simpa using h), fun _ => rfl, fun h => hF.out.f11 (by simpa using h), fun h => hF.out.f12 (by simpa using h), fun h => hF.out.f13 (by simpa using h), fun h => hF.out.f14 (by simpa using h), fun h => hF.out.f15 (by simpa using h), fun h => hF.out.f16 (by simpa using h), fun h => hF.out.f17 (by simpa using h), fun h => hF.out.f18 (by simpa using h), fun h => hF.out.f19 (by simpa using h), fun h => hF.out.f20 (by simpa using h), fun h => by have := hF.out.o18_8 (by simpa using h); simpa using this, fun h => by have := hF.out.o18_17 (by simpa using h); simpa using this, fun h => by have := hF.out.p8 (by simpa using h); simpa using this, fun h => by have := hF.out.p17 (by simpa using h); simpa using this, fun h => by have := hF.out.p19 (by simpa using h); simpa using this, hF.out.rk, fun h => hF.out.gx (by simpa using h), fun h h2 => hF.out.al (by simpa using h) (by simpa using h2), fun h => hF.out.fin (by simpa using h)⟩
                    · intro d a W hI hd hdep
                      obtain ⟨gX, x16, x66, x67, x68, x69, x70, x71, x72, x73, x74, x75, x76, x77, x78, x79, x80, x81, x82, x83, x84, rfl, hF⟩ := hI
                      clear hdep hd
                      intro K hK
                      simp only [Act.put, List.setIfInBounds_toArray, List.set_cons_zero, List.set_cons_succ]
                      go_simp
                      refine hK.out _ _ ⟨gX, x16, x66, x67, x68, x69, x70, x71, x72, x73, x74, x75, x76, (.slice (some ⟨gv, 0, none⟩) L ncap), x78, x79, x80, x81, x82, x83, x84, by simp only [Act.put, List.setIfInBounds_toArray, List.set_cons_zero, List.set_cons_succ], ?_⟩
                      exact ⟨fun h => hF.out.f0 (by simpa using h), fun h => hF.out.f1 (by simpa using h), fun h => hF.out.f2 (by simpa using h), fun h => hF.out.f3 (by simpa using h), fun h => hF.out.f4 (by simpa using h), fun h => hF.out.f5 (by simpa using h), fun h => hF.out.f6 (by simpa using h), fun h => hF.out.f7 (by simpa using h), fun h => hF.out.f8 (by simpa using h), fun h => hF.out.f9 (by simpa using h), fun h => hF.out.f10 (by simpa using h), fun _ => rfl, fun h => hF.out.f12 (by simpa using h), fun h => hF.out.f13 (by simpa using h), fun h => hF.out.f14 (by simpa using h), fun h => hF.out.f15 (by simpa using h), fun h => hF.out.f16 (by simpa using h), fun h => hF.out.f17 (by simpa using h), fun h => hF.out.f18 (by simpa using h), fun h => hF.out.f19 (by simpa using h), fun h => hF.out.f20 (by simpa using h), fun h => by have := hF.out.o18_8 (by simpa using h); simpa using this, fun h => by have := hF.out.o18_17 (by simpa using h); simpa using this, fun h => by have := hF.out.p8 (by simpa using h); simpa using this, fun h => by have := hF.out.p17 (by simpa using h); simpa using this, fun h => by have := hF.out.p19 (by simpa using h); simpa using this, hF.out.rk, fun h => hF.out.gx (by simpa using h), fun h h2 => hF.out.al (by simpa using h) (by simpa using h2), fun h => hF.out.fin (by simpa using h)⟩
                    · intro d a W hI hd hdep
                      obtain ⟨gX, x16, x66, x67, x68, x69, x70, x71, x72, x73, x74, x75, x76, x77, x78, x79, x80, x81, x82, x83, x84, rfl, hF⟩ := hI
                      clear hdep hd
                      intro K hK
                      simp only [Act.put, List.setIfInBounds_toArray, List.set_cons_zero, List.set_cons_succ]
                      go_simp
                      refine hK.out _ _ ⟨gX, x16, x66, x67, x68, x69, x70, x71, x72, x73, x74, x75, x76, x77, (.int .i64 (i : Int)), x79, x80, x81, x82, x83, x84, by simp only [Act.put, List.setIfInBounds_toArray, List.set_cons_zero, List.set_cons_succ], ?_⟩
                      exact ⟨fun h => hF.out.f0 (by simpa using h), fun h => hF.out.f1 (by simpa using h), fun h => hF.out.f2 (by simpa using h), fun h => hF.out.f3 (by simpa using h), fun h => hF.out.f4 (by simpa using h), fun h => hF.out.f5 (by simpa using h), fun h => hF.out.f6 (by simpa using h), fun h => hF.out.f7 (by simpa using h), fun h => hF.out.f8 (by simpa using h), fun h => hF.out.f9 (by simpa using h), fun h => hF.out.f10 (by simpa using h), fun h => hF.out.f11 (by simpa using h), fun _ => rfl, fun h => hF.out.f13 (by simpa using h), fun h => hF.out.f14 (by simpa using h), fun h => hF.out.f15 (by simpa using h), fun h => hF.out.f16 (by simpa using h), fun h => hF.out.f17 (by simpa using h), fun h => hF.out.f18 (by simpa using h), fun h => hF.out.f19 (by simpa using h), fun h => hF.out.f20 (by simpa using h), fun h => by have := hF.out.o18_8 (by simpa using h); simpa using this, fun h => by have := hF.out.o18_17 (by simpa using h); simpa using this, fun h => by have := hF.out.p8 (by simpa using h); simpa using this, fun h => by have := hF.out.p17 (by simpa using h); simpa using this, fun h => by have := hF.out.p19 (by simpa using h); simpa using this, hF.out.rk, fun h => hF.out.gx (by simpa using h), fun h h2 => hF.out.al (by simpa using h) (by simpa using h2), fun h => hF.out.fin (by simpa using h)⟩
                    · intro d a W hI hd hdep
                      obtain ⟨gX, x16, x66, x67, x68, x69, x70, x71, x72, x73, x74, x75, x76, x77, x78, x79, x80, x81, x82, x83, x84, rfl, hF⟩ := hI
                      have hd11 : d 11 = true := dep_of hdep 11 (by kernel_rfl)
                      have hd12 : d 12 = true := dep_of hdep 12 (by kernel_rfl)
                      obtain rfl := hF.out.f11 hd11
                      obtain rfl := hF.out.f12 hd12
                      clear hdep hd hd11 hd12
                      intro K hK
                      simp only [Act.put, List.setIfInBounds_toArray, List.set_cons_zero, List.set_cons_succ]
                      go_simp
                      refine hK.out _ _ ⟨gX, x16, x66, x67, x68, x69, x70, x71, x72, x73, x74, x75, x76, (.slice (some ⟨gv, 0, none⟩) L ncap), (.int .i64 (i : Int)), (.pointer (some ⟨gv, i * 2, none⟩)), x80, x81, x82, x83, x84, by simp only [Act.put, List.setIfInBounds_toArray, List.set_cons_zero, List.set_cons_succ], ?_⟩
                      exact ⟨fun h => hF.out.f0 (by simpa using h), fun h => hF.out.f1 (by simpa using h), fun h => hF.out.f2 (by simpa using h), fun h => hF.out.f3 (by simpa using h), fun h => hF.out.f4 (by simpa using h), fun h => hF.out.f5 (by simpa using h), fun h => hF.out.f6 (by simpa using h), fun h => hF.out.f7 (by simpa using h), fun h => hF.out.f8 (by simpa using h), fun h => hF.out.f9 (by simpa using h), fun h => hF.out.f10 (by simpa using h), fun h => hF.out.f11 (by simpa using h), fun h => hF.out.f12 (by simpa using h), fun _ => rfl, fun h => hF.out.f14 (by simpa using h), fun h => hF.out.f15 (by simpa using h), fun h => hF.out.f16 (by simpa using h), fun h => hF.out.f17 (by simpa using h), fun h => hF.out.f18 (by simpa using h), fun h => hF.out.f19 (by simpa using h), fun h => hF.out.f20 (by simpa using h), fun h => by have := hF.out.o18_8 (by simpa using h); simpa using this, fun h => by have := hF.out.o18_17 (by simpa using h); simpa using this, fun h => by have := hF.out.p8 (by simpa using h); simpa using this, fun h => by have := hF.out.p17 (by simpa using h); simpa using this, fun h => by have := hF.out.p19 (by simpa using h); simpa using this, hF.out.rk, fun h => hF.out.gx (by simpa using h), fun h h2 => hF.out.al (by simpa using h) (by simpa using h2), fun h => hF.out.fin (by simpa using h)⟩
                    · intro d a W hI hd hdep
                      obtain ⟨gX, x16, x66, x67, x68, x69, x70, x71, x72, x73, x74, x75, x76, x77, x78, x79, x80, x81, x82, x83, x84, rfl, hF⟩ := hI
                      have hd13 : d 13 = true := dep_of hdep 13 (by kernel_rfl)
                      obtain rfl := hF.out.f13 hd13
                      clear hdep hd hd13
                      intro K hK
                      simp only [Act.put, List.setIfInBounds_toArray, List.set_cons_zero, List.set_cons_succ]
                      go_simp
                      refine hK.out _ _ ⟨gX, x16, x66, x67, x68, x69, x70, x71, x72, x73, x74, x75, x76, x77, x78, (.pointer (some ⟨gv, i * 2, none⟩)), (.pointer (some ⟨gv, i * 2 + 1, none⟩)), x81, x82, x83, x84, by simp only [Act.put, List.setIfInBounds_toArray, List.set_cons_zero, List.set_cons_succ], ?_⟩
                      exact ⟨fun h => hF.out.f0 (by simpa using h), fun h => hF.out.f1 (by simpa using h), fun h => hF.out.f2 (by simpa using h), fun h => hF.out.f3 (by simpa using h), fun h => hF.out.f4 (by simpa using h), fun h => hF.out.f5 (by simpa using h), fun h => hF.out.f6 (by simpa using h), fun h => hF.out.f7 (by simpa using h), fun h => hF.out.f8 (by simpa using h), fun h => hF.out.f9 (by simpa using h), fun h => hF.out.f10 (by simpa using h), fun h => hF.out.f11 (by simpa using h), fun h => hF.out.f12 (by simpa using h), fun h => hF.out.f13 (by simpa using h), fun _ => rfl, fun h => hF.out.f15 (by simpa using h), fun h => hF.out.f16 (by simpa using h), fun h => hF.out.f17 (by simpa using h), fun h => hF.out.f18 (by simpa using h), fun h => hF.out.f19 (by simpa using h), fun h => hF.out.f20 (by simpa using h), fun h => by have := hF.out.o18_8 (by simpa using h); simpa using this, fun h => by have := hF.out.o18_17 (by simpa using h); simpa using this, fun h => by have := hF.out.p8 (by simpa using h); simpa using this, fun h => by have := hF.out.p17 (by simpa using h); simpa using this, fun h => by have := hF.out.p19 (by simpa using h); simpa using this, hF.out.rk, fun h => hF.out.gx (by simpa using h), fun h h2 => hF.out.al (by simpa using h) (by simpa using h2), fun h => hF.out.fin (by simpa using h)⟩
                    · intro d a W hI hd hdep
                      obtain ⟨gX, x16, x66, x67, x68, x69, x70, x71, x72, x73, x74, x75, x76, x77, x78, x79, x80, x81, x82, x83, x84, rfl, hF⟩ := hI
                      have hd14 : d 14 = true := dep_of hdep 14 (by kernel_rfl)
                      obtain rfl := hF.out.f14 hd14
                      have ya := (HPC.out _ hF.out.rk).2
                      clear hdep hd hd14
                      intro K hK
                      simp only [Act.put, List.setIfInBounds_toArray, List.set_cons_zero, List.set_cons_succ]
                      go_simp
                      refine hK.out _ _ ⟨gX, x16, x66, x67, x68, x69, x70, x71, x72, x73, x74, x75, x76, x77, x78, x79, (.pointer (some ⟨gv, i * 2 + 1, none⟩)), (.int .i64 y), x82, x83, x84, by simp only [Act.put, List.setIfInBounds_toArray, List.set_cons_zero, List.set_cons_succ], ?_⟩
                      exact ⟨fun h => hF.out.f0 (by simpa using h), fun h => hF.out.f1 (by simpa using h), fun h => hF.out.f2 (by simpa using h), fun h => hF.out.f3 (by simpa using h), fun h => hF.out.f4 (by simpa using h), fun h => hF.out.f5 (by simpa using h), fun h => hF.out.f6 (by simpa using h), fun h => hF.out.f7 (by simpa using h), fun h => hF.out.f8 (by simpa using h), fun h => hF.out.f9 (by simpa using h), fun h => hF.out.f10 (by simpa using h), fun h => hF.out.f11 (by simpa using h), fun h => hF.out.f12 (by simpa using h), fun h => hF.out.f13 (by simpa using h), fun h => hF.out.f14 (by simpa using h), fun _ => rfl, fun h => hF.out.f16 (by simpa using h), fun h => hF.out.f17 (by simpa using h), fun h => hF.out.f18 (by simpa using h), fun h => hF.out.f19 (by simpa using h), fun h => hF.out.f20 (by simpa using h), fun h => by have := hF.out.o18_8 (by simpa using h); simpa using this, fun h => by have := hF.out.o18_17 (by simpa using h); simpa using this, fun h => by have := hF.out.p8 (by simpa using h); simpa using this, fun h => by have := hF.out.p17 (by simpa using h); simpa using this, fun h => by have := hF.out.p19 (by simpa using h); simpa using this, hF.out.rk, fun h => hF.out.gx (by simpa using h), fun h h2 => hF.out.al (by simpa using h) (by simpa using h2), fun h => hF.out.fin (by simpa using h)⟩
                    · intro d a W hI hd hdep
                      obtain ⟨gX, x16, x66, x67, x68, x69, x70, x71, x72, x73, x74, x75, x76, x77, x78, x79, x80, x81, x82, x83, x84, rfl, hF⟩ := hI
                      clear hdep hd
                      intro K hK
                      simp only [Act.put, List.setIfInBounds_toArray, List.set_cons_zero, List.set_cons_succ]
                      go_simp
                      refine hK.out _ _ ⟨gX, x16, x66, x67, x68, x69, x70, x71, x72, x73, x74, x75, x76, x77, x78, x79, x80, x81, (.int .i64 (c : Int)), x83, x84, by simp only [Act.put, List.setIfInBounds_toArray, List.set_cons_zero, List.set_cons_succ], ?_⟩
                      exact ⟨fun h => hF.out.f0 (by simpa using h), fun h => hF.out.f1 (by simpa using h), fun h => hF.out.f2 (by simpa using h), fun h => hF.out.f3 (by simpa using h), fun h => hF.out.f4 (by simpa using h), fun h => hF.out.f5 (by simpa using h), fun h => hF.out.f6 (by simpa using h), fun h => hF.out.f7 (by simpa using h), fun h => hF.out.f8 (by simpa using h), fun h => hF.out.f9 (by simpa using h), fun h => hF.out.f10 (by simpa using h), fun h => hF.out.f11 (by simpa using h), fun h => hF.out.f12 (by simpa using h), fun h => hF.out.f13 (by simpa using h), fun h => hF.out.f14 (by simpa using h), fun h => hF.out.f15 (by simpa using h), fun _ => rfl, fun h => hF.out.f17 (by simpa using h), fun h => hF.out.f18 (by simpa using h), fun h => hF.out.f19 (by simpa using h), fun h => hF.out.f20 (by simpa using h), fun h => by have := hF.out.o18_8 (by simpa using h); simpa using this, fun h => by have := hF.out.o18_17 (by simpa using h); simpa using this, fun h => by have := hF.out.p8 (by simpa using h); simpa using this, fun h => by have := hF.out.p17 (by simpa using h); simpa using this, fun h => by have := hF.out.p19 (by simpa using h); simpa using this, hF.out.rk, fun h => hF.out.gx (by simpa using h), fun h h2 => hF.out.al (by simpa using h) (by simpa using h2), fun h => hF.out.fin (by simpa using h)⟩
                    · intro d a W hI hd hdep
                      obtain ⟨gX, x16, x66, x67, x68, x69, x70, x71, x72, x73, x74, x75, x76, x77, x78, x79, x80, x81, x82, x83, x84, rfl, hF⟩ := hI
                      have hd9 : d 9 = true := dep_of hdep 9 (by kernel_rfl)
                      have hd10 : d 10 = true := dep_of hdep 10 (by kernel_rfl)
                      have hd15 : d 15 = true := dep_of hdep 15 (by kernel_rfl)
                      have hd16 : d 16 = true := dep_of hdep 16 (by kernel_rfl)
                      obtain rfl := hF.out.f9 hd9
                      obtain rfl := hF.out.f10 hd10
                      obtain rfl := hF.out.f15 hd15
                      obtain rfl := hF.out.f16 hd16
                      have HN20 : Hid (d 20 = false) := no_later hF.out.p17 hd
                      clear hdep hd hd9 hd10 hd15 hd16
                      intro K hK
                      simp only [Act.put, List.setIfInBounds_toArray, List.set_cons_zero, List.set_cons_succ]
                      go_simp
                      refine (HBB.out W hF.out.rk.below).mono ?_
                      rintro _ W1 ⟨rfl, hB⟩
                      go_simp
                      refine hK.out _ _ ⟨gX, x16, x66, x67, x68, x69, x70, x71, x72, x73, x74, (.func (Fn.func 15) #[] #[]), (.agg #[vB, tB]), x77, x78, x79, x80, (.int .i64 y), (.int .i64 (c : Int)), (.int .i64 y1), x84, by simp only [Act.put, List.setIfInBounds_toArray, List.set_cons_zero, List.set_cons_succ], ?_⟩
                      exact ⟨fun h => hF.out.f0 (by simpa using h), fun h => hF.out.f1 (by simpa using h), fun h => hF.out.f2 (by simpa using h), fun h => hF.out.f3 (by simpa using h), fun h => hF.out.f4 (by simpa using h), fun h => hF.out.f5 (by simpa using h), fun h => hF.out.f6 (by simpa using h), fun h => hF.out.f7 (by simpa using h), fun h => hF.out.f8 (by simpa using h), fun h => hF.out.f9 (by simpa using h), fun h => hF.out.f10 (by simpa using h), fun h => hF.out.f11 (by simpa using h), fun h => hF.out.f12 (by simpa using h), fun h => hF.out.f13 (by simpa using h), fun h => hF.out.f14 (by simpa using h), fun h => hF.out.f15 (by simpa using h), fun h => hF.out.f16 (by simpa using h), fun _ => rfl, fun h => hF.out.f18 (by simpa using h), fun h => hF.out.f19 (by simpa using h), fun h => hF.out.f20 (by simpa using h), fun h => by have := hF.out.o18_8 (by simpa using h); simpa using this, fun _ => by simp, fun h => by have := hF.out.p8 (by simpa using h); simpa using this, fun _ => by simp, fun h => by have := hF.out.p19 (by simpa using h); simpa using this, hF.out.rk.next hB, fun h => have k := hF.out.gx (by simpa using h); ⟨k.1, Nat.lt_of_lt_of_le k.2.1 hB.size, k.2.2⟩, fun h h2 => have k := hF.out.al (by simpa using h) (by simpa using h2); k.of_block (hB.block _ k.lt), fun h => by have := HN20.out; simp [this] at h⟩
                    · intro d a W hI hd hdep
                      obtain ⟨gX, x16, x66, x67, x68, x69, x70, x71, x72, x73, x74, x75, x76, x77, x78, x79, x80, x81, x82, x83, x84, rfl, hF⟩ := hI
                      have hd8 : d 8 = true := dep_of hdep 8 (by kernel_rfl)
                      have hd17 : d 17 = true := dep_of hdep 17 (by kernel_rfl)
                      obtain rfl := hF.out.f8 hd8
                      obtain rfl := hF.out.f17 hd17
                      have e18_8 := hd8
                      have e18_17 := hd17
                      clear hdep hd hd8 hd17
                      intro K hK
                      simp only [Act.put, List.setIfInBounds_toArray, List.set_cons_zero, List.set_cons_succ]
                      go_simp
                      refine hK.out _ _ ⟨gX, x16, x66, x67, x68, x69, x70, x71, x72, x73, (.int .i64 x1), x75, x76, x77, x78, x79, x80, x81, x82, (.int .i64 y1), (.agg #[.int .i64 x1, .int .i64 y1]), by simp only [Act.put, List.setIfInBounds_toArray, List.set_cons_zero, List.set_cons_succ], ?_⟩
                      exact ⟨fun h => hF.out.f0 (by simpa using h), fun h => hF.out.f1 (by simpa using h), fun h => hF.out.f2 (by simpa using h), fun h => hF.out.f3 (by simpa using h), fun h => hF.out.f4 (by simpa using h), fun h => hF.out.f5 (by simpa using h), fun h => hF.out.f6 (by simpa using h), fun h => hF.out.f7 (by simpa using h), fun h => hF.out.f8 (by simpa using h), fun h => hF.out.f9 (by simpa using h), fun h => hF.out.f10 (by simpa using h), fun h => hF.out.f11 (by simpa using h), fun h => hF.out.f12 (by simpa using h), fun h => hF.out.f13 (by simpa using h), fun h => hF.out.f14 (by simpa using h), fun h => hF.out.f15 (by simpa using h), fun h => hF.out.f16 (by simpa using h), fun h => hF.out.f17 (by simpa using h), fun _ => rfl, fun h => hF.out.f19 (by simpa using h), fun h => hF.out.f20 (by simpa using h), fun _ => by simpa using e18_8, fun _ => by simpa using e18_17, fun h => by have := hF.out.p8 (by simpa using h); simpa using this, fun h => by have := hF.out.p17 (by simpa using h); simpa using this, fun h => by have := hF.out.p19 (by simpa using h); simpa using this, hF.out.rk, fun h => hF.out.gx (by simpa using h), fun h h2 => hF.out.al (by simpa using h) (by simpa using h2), fun h => hF.out.fin (by simpa using h)⟩
                    · intro d a W hI hd hdep
                      obtain ⟨gX, x16, x66, x67, x68, x69, x70, x71, x72, x73, x74, x75, x76, x77, x78, x79, x80, x81, x82, x83, x84, rfl, hF⟩ := hI
                      have HN20 : Hid (d 20 = false) := no_later hF.out.p19 hd
                      have B1 := (Below.refl W.heap.size W).alloc (Nat.le_refl _) (Obj.cells #[Value.int .i64 0, Value.int .i64 0] 52)
                      clear hdep hd
                      intro K hK
                      simp only [Act.put, List.setIfInBounds_toArray, List.set_cons_zero, List.set_cons_succ]
                      go_simp
                      refine hK.out _ _ ⟨W.heap.size, (.pointer (some ⟨W.heap.size, 0, none⟩)), x66, x67, x68, x69, x70, x71, x72, x73, x74, x75, x76, x77, x78, x79, x80, x81, x82, x83, x84, by simp only [Act.put, List.setIfInBounds_toArray, List.set_cons_zero, List.set_cons_succ], ?_⟩
                      exact ⟨fun h => hF.out.f0 (by simpa using h), fun h => hF.out.f1 (by simpa using h), fun h => hF.out.f2 (by simpa using h), fun h => hF.out.f3 (by simpa using h), fun h => hF.out.f4 (by simpa using h), fun h => hF.out.f5 (by simpa using h), fun h => hF.out.f6 (by simpa using h), fun h => hF.out.f7 (by simpa using h), fun h => hF.out.f8 (by simpa using h), fun h => hF.out.f9 (by simpa using h), fun h => hF.out.f10 (by simpa using h), fun h => hF.out.f11 (by simpa using h), fun h => hF.out.f12 (by simpa using h), fun h => hF.out.f13 (by simpa using h), fun h => hF.out.f14 (by simpa using h), fun h => hF.out.f15 (by simpa using h), fun h => hF.out.f16 (by simpa using h), fun h => hF.out.f17 (by simpa using h), fun h => hF.out.f18 (by simpa using h), fun _ => rfl, fun h => hF.out.f20 (by simpa using h), fun h => by have := hF.out.o18_8 (by simpa using h); simpa using this, fun h => by have := hF.out.o18_17 (by simpa using h); simpa using this, fun h => by have := hF.out.p8 (by simpa using h); simpa using this, fun h => by have := hF.out.p17 (by simpa using h); simpa using this, fun _ => by simp, hF.out.rk.next B1, fun _ => ⟨hF.out.rk.size, by simp, hF.out.rk.fresh⟩, fun _ _ => row_two52 W, fun h => by have := HN20.out; simp [this] at h⟩
                    · intro d a W hI hd hdep
                      obtain ⟨gX, x16, x66, x67, x68, x69, x70, x71, x72, x73, x74, x75, x76, x77, x78, x79, x80, x81, x82, x83, x84, rfl, hF⟩ := hI
                      have hd19 : d 19 = true := dep_of hdep 19 (by kernel_rfl)
                      have hd18 : d 18 = true := dep_of hdep 18 (by kernel_rfl)
                      obtain rfl := hF.out.f19 hd19
                      obtain rfl := hF.out.f18 hd18
                      have g8 := hF.out.o18_8 hd18
                      have g17 := hF.out.o18_17 hd18
                      have g19 := hd19
                      have hal := hF.out.al hd19 hd
                      have hgx := hF.out.gx hd19
                      have ya := hal.cell (i := 0) (by omega)
                      have yb := hal.cell (i := 1) (by omega)
                      have yc := hal.frozen 0
                      have yd := hal.frozen 1
                      clear hdep hd hd19 hd18
                      intro K hK
                      simp only [Act.put, List.setIfInBounds_toArray, List.set_cons_zero, List.set_cons_succ]
                      go_simp
                      refine hK.out _ _ ⟨gX, (.pointer (some ⟨gX, 0, none⟩)), x66, x67, x68, x69, x70, x71, x72, x73, x74, x75, x76, x77, x78, x79, x80, x81, x82, x83, (.agg #[.int .i64 x1, .int .i64 y1]), by simp only [Act.put, List.setIfInBounds_toArray, List.set_cons_zero, List.set_cons_succ], ?_⟩
                      have hrow := row_two_set52 hal (.int .i64 x1) (.int .i64 y1)
                      have hsz : ((W.setCell ⟨gX, 0, none⟩ (.int .i64 x1)).setCell ⟨gX, 1, none⟩ (.int .i64 y1)).heap.size = W.heap.size := by simp [World.setCell]
                      exact ⟨fun h => hF.out.f0 (by simpa using h), fun h => hF.out.f1 (by simpa using h), fun h => hF.out.f2 (by simpa using h), fun h => hF.out.f3 (by simpa using h), fun h => hF.out.f4 (by simpa using h), fun h => hF.out.f5 (by simpa using h), fun h => hF.out.f6 (by simpa using h), fun h => hF.out.f7 (by simpa using h), fun h => hF.out.f8 (by simpa using h), fun h => hF.out.f9 (by simpa using h), fun h => hF.out.f10 (by simpa using h), fun h => hF.out.f11 (by simpa using h), fun h => hF.out.f12 (by simpa using h), fun h => hF.out.f13 (by simpa using h), fun h => hF.out.f14 (by simpa using h), fun h => hF.out.f15 (by simpa using h), fun h => hF.out.f16 (by simpa using h), fun h => hF.out.f17 (by simpa using h), fun h => hF.out.f18 (by simpa using h), fun h => hF.out.f19 (by simpa using h), fun _ => trivial, fun h => by have := hF.out.o18_8 (by simpa using h); simpa using this, fun h => by have := hF.out.o18_17 (by simpa using h); simpa using this, fun _ => by simpa using g8, fun _ => by simpa using g17, fun _ => by simpa using g19, hF.out.rk.other hgx.1 hgx.2.2, fun _ => ⟨hgx.1, by rw [hsz]; exact hgx.2.1, hgx.2.2⟩, fun _ h => by simp at h, fun _ => hrow⟩
                  · intro d a W hI hall
                    obtain ⟨gX, x16, x66, x67, x68, x69, x70, x71, x72, x73, x74, x75, x76, x77, x78, x79, x80, x81, x82, x83, x84, rfl, hF⟩ := hI
                    simp only [List.length_cons, List.length_nil] at hall
                    obtain rfl := hF.out.f0 (hall 0 (by omega))
                    obtain rfl := hF.out.f1 (hall 1 (by omega))
                    obtain rfl := hF.out.f2 (hall 2 (by omega))
                    obtain rfl := hF.out.f3 (hall 3 (by omega))
                    obtain rfl := hF.out.f4 (hall 4 (by omega))
                    obtain rfl := hF.out.f5 (hall 5 (by omega))
                    obtain rfl := hF.out.f6 (hall 6 (by omega))
                    obtain rfl := hF.out.f7 (hall 7 (by omega))
                    obtain rfl := hF.out.f8 (hall 8 (by omega))
                    obtain rfl := hF.out.f9 (hall 9 (by omega))
                    obtain rfl := hF.out.f10 (hall 10 (by omega))
                    obtain rfl := hF.out.f11 (hall 11 (by omega))
                    obtain rfl := hF.out.f12 (hall 12 (by omega))
                    obtain rfl := hF.out.f13 (hall 13 (by omega))
                    obtain rfl := hF.out.f14 (hall 14 (by omega))
                    obtain rfl := hF.out.f15 (hall 15 (by omega))
                    obtain rfl := hF.out.f16 (hall 16 (by omega))
                    obtain rfl := hF.out.f17 (hall 17 (by omega))
                    obtain rfl := hF.out.f18 (hall 18 (by omega))
                    obtain rfl := hF.out.f19 (hall 19 (by omega))
                    have HRK2 : Hid (RK w RA RB vA tA vB tB F (Q.drop lo) M M (.slice (some ⟨gv, 0, none⟩) L ncap) (.slice (some ⟨gt, 0, none⟩) L tcap) hv sv W ∧ W.rowIs gX 52 2 (fun k => if k = 0 then .int .i64 x1 else .int .i64 y1) ∧ w.heap.size + 3 ≤ gX ∧ gX < W.heap.size ∧ (∀ v : Value, (v = (.slice (some ⟨gv, 0, none⟩) L ncap) ∨ v = (.slice (some ⟨gt, 0, none⟩) L tcap) ∨ v = hv ∨ v = sv) → v.ownBlock ≠ some gX)) := ⟨hF.out.rk, hF.out.fin (hall 20 (by omega)), hF.out.gx (hall 19 (by omega))⟩
                    clear hF hall
                    simp only [Act.put, List.setIfInBounds_toArray, List.set_cons_zero, List.set_cons_succ]
                    have z0 := HRK2.out.2.1.cell (i := 0) (by omega)
                    have z1 := HRK2.out.2.1.cell (i := 1) (by omega)
                    simp only [if_true] at z0
                    rw [if_neg (by omega)] at z1
                    go_wp2_with fail
                    refine (atR_any x1 y1 W HXR.out.1 HXR.out.2).mono ?_
                    rintro _ W2 ⟨rfl, hB2⟩
                    have HK3 : Hid (RK w RA RB vA tA vB tB F (Q.drop lo) M M (.slice (some ⟨gv, 0, none⟩) L ncap) (.slice (some ⟨gt, 0, none⟩) L tcap) hv sv W2 ∧ W2.rowIs gX 52 2 (fun k => if k = 0 then .int .i64 x1 else .int .i64 y1) ∧ w.heap.size + 3 ≤ gX ∧ gX < W2.heap.size ∧ (∀ v : Value, (v = (.slice (some ⟨gv, 0, none⟩) L ncap) ∨ v = (.slice (some ⟨gt, 0, none⟩) L tcap) ∨ v = hv ∨ v = sv) → v.ownBlock ≠ some gX)) := ⟨HRK2.out.1.next hB2, HRK2.out.2.1.of_block (hB2.block _ HRK2.out.2.1.lt), HRK2.out.2.2.1, Nat.lt_of_lt_of_le HRK2.out.2.2.2.1 hB2.size, HRK2.out.2.2.2.2⟩
                    clear hB2 HRK2 z0 z1
                    obtain ⟨q, HQ⟩ : ∃ q, Hid (nu x1 y1 = q) := ⟨_, (rfl : _ = _)⟩
                    have hqi : (x1 + 1) * 201 + y1 + 1 = (q : Int) := by have h1 := HXR.out; have h2 := HQ.out; unfold nu at h2; omega
                    have hq1 : q < 40602 := by have h1 := HXR.out; omega
                    have hq0 : (0 : Int) ≤ (q : Int) := by omega
                    have hq2 : (q : Int) < 40602 := by omega
                    rw [hqi]
                    have z2 := HK3.out.1.seen.cell hq1
                    obtain ⟨f, HFQ⟩ : ∃ f, Hid (F q = f) := ⟨_, (rfl : _ = _)⟩
                    rw [HFQ.out] at z2
                    have HQI : Hid ((x1 + 1) * 201 + y1 + 1 = (q : Int)) := hqi
                    clear hqi
                    cases f
                    case true =>
                      have HNX : Hid (Inv (pr RA RB) (Q ++ M) (lo + i) (c + 1)) := by
                        refine HIV.out.seen (by simp; omega) hcl ?_
                        rw [HGW.out]
                        have := (HFS.out x1 y1 HXR.out.1.1 HXR.out.1.2 HXR.out.2.1 HXR.out.2.2).1 (by rw [HQ.out]; exact HFQ.out)
                        rw [HPR.out]; exact this
                      go_wp2_with fail
                      go_roundw
                      case rel => exact ⟨c + 1, by omega, by go_num, M, F, HNX.out, HFS.out, HK3.out.1⟩
                      case measure => simp [intOf]; omega
                    case false =>
                      have HNO : Hid (¬ ∃ k, k < (Q ++ M).length ∧ pr RA RB (Dfa.g (Q ++ M) k).wd = pr RA RB ((Dfa.g (Q ++ M) (lo + i)).wd ++ [UInt8.ofNat c])) := by
                        rw [HGW.out, HPR.out]
                        intro h
                        have := (HFS.out x1 y1 HXR.out.1.1 HXR.out.1.2 HXR.out.2.1 HXR.out.2.2).2 h
                        rw [HQ.out, HFQ.out] at this; cases this
                      have HNX : Hid (Inv (pr RA RB) (Q ++ (M ++ [⟨wd ++ [UInt8.ofNat c], lo + i, c⟩])) (lo + i) (c + 1)) := by
                        have := HIV.out.new (by simp; omega) hcl HNO.out
                        rw [HGW.out, List.append_assoc] at this
                        exact this
                      have HFN : Hid (Fs RA RB (upd1 F q) (Q ++ (M ++ [⟨wd ++ [UInt8.ofNat c], lo + i, c⟩]))) := by
                        have := HFS.out.new (s := ⟨wd ++ [UInt8.ofNat c], lo + i, c⟩) HXR.out.1 HXR.out.2 HPR.out
                        rw [HQ.out, List.append_assoc] at this
                        exact this
                      have z3 := HK3.out.2.1.cell (i := 0) (by omega)
                      have z4 := HK3.out.2.1.cell (i := 1) (by omega)
                      simp only [if_true] at z3
                      rw [if_neg (by omega)] at z4
                      go_wp2_with fail
                      refine (atR_any x1 y1 W2 HXR.out.1 HXR.out.2).mono ?_
                      rintro _ W3 ⟨rfl, hB3⟩
                      have HK4 : Hid (RK w RA RB vA tA vB tB F (Q.drop lo) M M (.slice (some ⟨gv, 0, none⟩) L ncap) (.slice (some ⟨gt, 0, none⟩) L tcap) hv sv W3 ∧ W3.rowIs gX 52 2 (fun k => if k = 0 then .int .i64 x1 else .int .i64 y1) ∧ w.heap.size + 3 ≤ gX ∧ gX < W3.heap.size ∧ (∀ v : Value, (v = (.slice (some ⟨gv, 0, none⟩) L ncap) ∨ v = (.slice (some ⟨gt, 0, none⟩) L tcap) ∨ v = hv ∨ v = sv) → v.ownBlock ≠ some gX)) := ⟨HK3.out.1.next hB3, HK3.out.2.1.of_block (hB3.block _ HK3.out.2.1.lt), HK3.out.2.2.1, Nat.lt_of_lt_of_le HK3.out.2.2.2.1 hB3.size, HK3.out.2.2.2.2⟩
                      clear hB3 HK3 z2 z3 z4
                      have z2 := HK4.out.1.seen.cell hq1
                      have z5 := HK4.out.1.seen.frozen q
                      rw [HQI.out]
                      have HK5a : Hid (RK w RA RB vA tA vB tB (upd1 F q) (Q.drop lo) M M (.slice (some ⟨gv, 0, none⟩) L ncap) (.slice (some ⟨gt, 0, none⟩) L tcap) hv sv (W3.setCell ⟨w.heap.size + 2, q, none⟩ (.bool true)) ∧ (W3.setCell ⟨w.heap.size + 2, q, none⟩ (.bool true)).rowIs gX 52 2 (fun k => if k = 0 then .int .i64 x1 else .int .i64 y1) ∧ gX < W3.heap.size ∧ (∀ v : Value, (v = (.slice (some ⟨gv, 0, none⟩) L ncap) ∨ v = (.slice (some ⟨gt, 0, none⟩) L tcap) ∨ v = hv ∨ v = sv) → v.ownBlock ≠ some gX)) := ⟨HK4.out.1.mark q, HK4.out.2.1.setOther (by simp; have := HK4.out.2.2.1; omega) _, HK4.out.2.2.2.1, HK4.out.2.2.2.2⟩
                      obtain ⟨W4, HW4⟩ : ∃ q2, Hid (W3.setCell ⟨w.heap.size + 1 + 1, q, none⟩ (.bool true) = q2) := ⟨_, (rfl : _ = _)⟩
                      have HK5 : Hid (RK w RA RB vA tA vB tB (upd1 F q) (Q.drop lo) M M (.slice (some ⟨gv, 0, none⟩) L ncap) (.slice (some ⟨gt, 0, none⟩) L tcap) hv sv W4 ∧ W4.rowIs gX 52 2 (fun k => if k = 0 then .int .i64 x1 else .int .i64 y1)) := by rw [← HW4.out]; exact ⟨HK5a.out.1, HK5a.out.2.1⟩
                      clear HK5a
                      have z6 := HK5.out.2.cell (i := 0) (by omega)
                      have z7 := HK5.out.2.cell (i := 1) (by omega)
                      simp only [if_true] at z6
                      rw [if_neg (by omega)] at z7
                      have HOW : Hid ((W4.alloc (Obj.cells #[.int .i64 x1, .int .i64 y1] 52)).ownsRow (w.heap.size + 3) 52 2 hv M.length (pcs RA RB M)) := (HK5.out.1.next ((Below.refl _ _).alloc (Nat.le_refl _) _)).thn
                      have HML : Hid (M.length ≤ 50000) := by
                        have := HIV.out.few n m (fun k _ => HPA.out _)
                        have h2 : (n + 1) * (m + 1) ≤ 201 * 201 := Nat.mul_le_mul (by have := HNM.out.1; omega) (by have := HNM.out.2.1; omega)
                        simp at this; show _ ≤ _; omega
                      have HSB : Hid (w.heap.size + 3 ≤ W4.heap.size) := HK5.out.1.size
                      go_upto_region 24 with fail
                      rw [HW4.out]
                      clear z2 z5
                      go_wp2_with (at_builtin; refine wpList_append_own_at _ rfl _ _ 55 rfl (w.heap.size + 3) 52 i52 _ 2 16 Try.underlying55 H52.out.1 H52.out.2.1 H52.out.2.2.1 H52.out.2.2.2 rfl (by omega) _ _ _ rfl HOW.out ⟨W4.heap.size, 0, none⟩ 1 1 [.int .i64 x1, .int .i64 y1] rfl rfl ?qc2 ?qc3 ?qc4 ?qc5 ?qc6 ?_)
                      case qc2 =>
                        intro j u hj
                        rw [Addr.add_lit, Nat.zero_add, show (Obj.cells #[Value.int .i64 x1, Value.int .i64 y1] 52) = Obj.cells ([Value.int .i64 x1, Value.int .i64 y1] : List Value).toArray 52 from rfl, cell_of_block]
                        exact hj
                      case qc3 => intro u hu; simp at hu; rcases hu with rfl | rfl <;> rfl
                      case qc4 => unfold maxLen; have := HML.out; omega
                      case qc5 => have := HML.out; omega
                      case qc6 => have := HSB.out; simp at this ⊢; omega
                      intro v' W5 hown hgrow hnil hbl
                      have HK6 : Hid (RK w RA RB vA tA vB tB (upd1 F q) (Q.drop lo) (M ++ [⟨wd ++ [UInt8.ofNat c], lo + i, c⟩]) M (.slice (some ⟨gv, 0, none⟩) L ncap) (.slice (some ⟨gt, 0, none⟩) L tcap) v' sv W5) := (HK5.out.1.next ((Below.refl _ _).alloc (Nat.le_refl _) (Obj.cells #[.int .i64 x1, .int .i64 y1] 52))).then_ hgrow (by rw [pcs_snoc, List.length_append, show pc RA RB ⟨wd ++ [UInt8.ofNat c], lo + i, c⟩ = [.int .i64 x1, .int .i64 y1] by unfold pc; rw [HPR.out]]; exact hown) (by simpa using hbl)
                      clear hown hgrow hnil hbl z6 z7 HOW HK5 HK4 HW4 HSB
                      obtain ⟨va, vm, vc, rfl⟩ : ∃ a2 m2 c2, v' = .slice a2 m2 c2 := by
                        rcases HK6.out.thn.2 with ⟨h, _⟩ | ⟨g3, c3, cur3, h, _⟩ <;> exact ⟨_, _, _, h⟩
                      have HTXC : Hid (∀ W, RK w RA RB vA tA vB tB (upd1 F q) (Q.drop lo) (M ++ [⟨wd ++ [UInt8.ofNat c], lo + i, c⟩]) M (.slice (some ⟨gv, 0, none⟩) L ncap) (.slice (some ⟨gt, 0, none⟩) L tcap) (.slice va vm vc) sv W → W.cell? ⟨gt, i, none⟩ = some (.string ⟨wd.toArray⟩)) := fun W h => by
                        have := (HPCC.out _ _ _ _ _ i W hil h).2.2
                        rw [HGQ.out] at this
                        exact this
                      have HCAT : Hid ((⟨wd.toArray⟩ : ByteArray) ++ ⟨#[UInt8.ofNat c]⟩ = ⟨(wd ++ [UInt8.ofNat c]).toArray⟩) := by show _ = _; exact bytes_cat wd _
                      have HC256 : Hid (c < 256) := hcl
                      have HWL : Hid (wd.length ≤ 50000) := by
                        have := inv_len HIV.out (lo + i) (by simp; omega)
                        rw [HGW.out] at this; show _ ≤ _; have := HML.out; omega
                      have hwl := HWL.out
                      go_wp2_with fail
                      refine wp_region_free mixed (fun a0 d a W => ∃ (gb : Nat) (g2 : Nat) (gr : Nat) (cr : Nat) (x12 x101 x102 x103 x104 x105 x106 x107 x108 x109 x110 x111 x112 : Value), a = (((((((((((((a0.put (some 12) x12).put (some 101) x101).put (some 102) x102).put (some 103) x103).put (some 104) x104).put (some 105) x105).put (some 106) x106).put (some 107) x107).put (some 108) x108).put (some 109) x109).put (some 110) x110).put (some 111) x111).put (some 112) x112) ∧ Hid (RR25 w RA RB vA tA vB tB Q M (M ++ [⟨wd ++ [UInt8.ofNat c], lo + i, c⟩]) lo L gv ncap gt tcap (upd1 F q) (.slice va vm vc) sv i c wd gb g2 gr cr d x12 x101 x102 x103 x104 x105 x106 x107 x108 x109 x110 x111 x112 W)) (by kernel_rfl) ⟨0, 0, 0, 0, sv, u101, u102, u103, u104, u105, u106, u107, u108, u109, u110, u111, u112, by simp only [Act.put, List.setIfInBounds_toArray, List.set_cons_zero, List.set_cons_succ], ?_⟩ ?_ ?_
                      · exact ⟨fun h => no_way h, fun h => no_way h, fun h => no_way h, fun h => no_way h, fun h => no_way h, fun h => no_way h, fun h => no_way h, fun h => no_way h, fun h => no_way h, fun h => no_way h, fun h => no_way h, fun h => no_way h, fun h => no_way h, fun h => no_way h, fun h => no_way h, fun h => no_way h, fun h => no_way h, fun h => no_way h, fun h => no_way h, fun h => no_way h, fun h => no_way h, fun h => no_way h, fun h => no_way h, fun h => no_way h, fun _ => rfl, fun _ => HK6.out.next (Below.refl _ _).drew, fun h => no_way h, fun h => no_way h, fun h => no_way h⟩
                      · simp only [StepAll, and_true]
                        refine ⟨?_, ?_, ?_, ?_, ?_, ?_, ?_, ?_, ?_, ?_, ?_, ?_, ?_⟩
                        · intro d a W hI hd hdep
                          obtain ⟨gb, g2, gr, cr, x12, x101, x102, x103, x104, x105, x106, x107, x108, x109, x110, x111, x112, rfl, hF⟩ := hI
                          have HD12 : d 12 = false := no_later hF.out.q12_0 hd
                          obtain rfl := hF.out.s12 HD12
                          clear HD12
                          clear hdep hd
                          intro K hK
                          simp only [Act.put, List.setIfInBounds_toArray, List.set_cons_zero, List.set_cons_succ]
                          go_simp
                          refine hK.out _ _ ⟨gb, g2, gr, cr, sv, sv, x102, x103, x104, x105, x106, x107, x108, x109, x110, x111, x112, by simp only [Act.put, List.setIfInBounds_toArray, List.set_cons_zero, List.set_cons_succ], ?_⟩
                          exact ⟨fun _ => rfl, fun h => hF.out.f1 (by simpa using h), fun h => hF.out.f2 (by simpa using h), fun h => hF.out.f3 (by simpa using h), fun h => hF.out.f4 (by simpa using h), fun h => hF.out.f5 (by simpa using h), fun h => hF.out.f6 (by simpa using h), fun h => hF.out.f7 (by simpa using h), fun h => hF.out.f8 (by simpa using h), fun h => hF.out.f9 (by simpa using h), fun h => hF.out.f10 (by simpa using h), fun h => hF.out.f11 (by simpa using h), fun h => hF.out.f12 (by simpa using h), fun h => by have := hF.out.q8_7 (by simpa using h); simpa using this, fun h => by have := hF.out.q9_4 (by simpa using h); simpa using this, fun h => by have := hF.out.q9_8 (by simpa using h); simpa using this, fun h => by have := hF.out.q10_9 (by simpa using h); simpa using this, fun h => by have := hF.out.q10_7 (by simpa using h); simpa using this, fun h => by have := hF.out.q12_11 (by simpa using h); simpa using this, fun _ => by simp, fun h => by have := hF.out.q4 (by simpa using h); simpa using this, fun h => by have := hF.out.q7 (by simpa using h); simpa using this, fun h => by have := hF.out.q8 (by simpa using h); simpa using this, fun h => by have := hF.out.q10 (by simpa using h); simpa using this, fun _ => rfl, fun h => hF.out.rk (by simpa using h), fun h h2 => hF.out.b5 (by simpa using h) (by simpa using h2), fun h h2 => hF.out.b9 (by simpa using h) (by simpa using h2), fun h => hF.out.fin (by simpa using h)⟩
                        · intro d a W hI hd hdep
                          obtain ⟨gb, g2, gr, cr, x12, x101, x102, x103, x104, x105, x106, x107, x108, x109, x110, x111, x112, rfl, hF⟩ := hI
                          clear hdep hd
                          intro K hK
                          simp only [Act.put, List.setIfInBounds_toArray, List.set_cons_zero, List.set_cons_succ]
                          go_simp
                          refine hK.out _ _ ⟨gb, g2, gr, cr, x12, x101, (.slice (some ⟨gt, 0, none⟩) L tcap), x103, x104, x105, x106, x107, x108, x109, x110, x111, x112, by simp only [Act.put, List.setIfInBounds_toArray, List.set_cons_zero, List.set_cons_succ], ?_⟩
                          exact ⟨fun h => hF.out.f0 (by simpa using h), fun _ => rfl, fun h => hF.out.f2 (by simpa using h), fun h => hF.out.f3 (by simpa using h), fun h => hF.out.f4 (by simpa using h), fun h => hF.out.f5 (by simpa using h), fun h => hF.out.f6 (by simpa using h), fun h => hF.out.f7 (by simpa using h), fun h => hF.out.f8 (by simpa using h), fun h => hF.out.f9 (by simpa using h), fun h => hF.out.f10 (by simpa using h), fun h => hF.out.f11 (by simpa using h), fun h => hF.out.f12 (by simpa using h), fun h => by have := hF.out.q8_7 (by simpa using h); simpa using this, fun h => by have := hF.out.q9_4 (by simpa using h); simpa using this, fun h => by have := hF.out.q9_8 (by simpa using h); simpa using this, fun h => by have := hF.out.q10_9 (by simpa using h); simpa using this, fun h => by have := hF.out.q10_7 (by simpa using h); simpa using this, fun h => by have := hF.out.q12_11 (by simpa using h); simpa using this, fun h => by have := hF.out.q12_0 (by simpa using h); simpa using this, fun h => by have := hF.out.q4 (by simpa using h); simpa using this, fun h => by have := hF.out.q7 (by simpa using h); simpa using this, fun h => by have := hF.out.q8 (by simpa using h); simpa using this, fun h => by have := hF.out.q10 (by simpa using h); simpa using this, fun h => hF.out.s12 (by simpa using h), fun h => hF.out.rk (by simpa using h), fun h h2 => hF.out.b5 (by simpa using h) (by simpa using h2), fun h h2 => hF.out.b9 (by simpa using h) (by simpa using h2), fun h => hF.out.fin (by simpa using h)⟩
                        · intro d a W hI hd hdep
                          obtain ⟨gb, g2, gr, cr, x12, x101, x102, x103, x104, x105, x106, x107, x108, x109, x110, x111, x112, rfl, hF⟩ := hI
                          clear hdep hd
                          intro K hK
                          simp only [Act.put, List.setIfInBounds_toArray, List.set_cons_zero, List.set_cons_succ]
                          go_simp
                          refine hK.out _ _ ⟨gb, g2, gr, cr, x12, x101, x102, (.int .i64 (i : Int)), x104, x105, x106, x107, x108, x109, x110, x111, x112, by simp only [Act.put, List.setIfInBounds_toArray, List.set_cons_zero, List.set_cons_succ], ?_⟩
                          exact ⟨fun h => hF.out.f0 (by simpa using h), fun h => hF.out.f1 (by simpa using h), fun _ => rfl, fun h => hF.out.f3 (by simpa using h), fun h => hF.out.f4 (by simpa using h), fun h => hF.out.f5 (by simpa using h), fun h => hF.out.f6 (by simpa using h), fun h => hF.out.f7 (by simpa using h), fun h => hF.out.f8 (by simpa using h), fun h => hF.out.f9 (by simpa using h), fun h => hF.out.f10 (by simpa using h), fun h => hF.out.f11 (by simpa using h), fun h => hF.out.f12 (by simpa using h), fun h => by have := hF.out.q8_7 (by simpa using h); simpa using this, fun h => by have := hF.out.q9_4 (by simpa using h); simpa using this, fun h => by have := hF.out.q9_8 (by simpa using h); simpa using this, fun h => by have := hF.out.q10_9 (by simpa using h); simpa using this, fun h => by have := hF.out.q10_7 (by simpa using h); simpa using this, fun h => by have := hF.out.q12_11 (by simpa using h); simpa using this, fun h => by have := hF.out.q12_0 (by simpa using h); simpa using this, fun h => by have := hF.out.q4 (by simpa using h); simpa using this, fun h => by have := hF.out.q7 (by simpa using h); simpa using this, fun h => by have := hF.out.q8 (by simpa using h); simpa using this, fun h => by have := hF.out.q10 (by simpa using h); simpa using this, fun h => hF.out.s12 (by simpa using h), fun h => hF.out.rk (by simpa using h), fun h h2 => hF.out.b5 (by simpa using h) (by simpa using h2), fun h h2 => hF.out.b9 (by simpa using h) (by simpa using h2), fun h => hF.out.fin (by simpa using h)⟩
                        · intro d a W hI hd hdep
                          obtain ⟨gb, g2, gr, cr, x12, x101, x102, x103, x104, x105, x106, x107, x108, x109, x110, x111, x112, rfl, hF⟩ := hI
                          have hd1 : d 1 = true := dep_of hdep 1 (by kernel_rfl)
                          have hd2 : d 2 = true := dep_of hdep 2 (by kernel_rfl)
                          obtain rfl := hF.out.f1 hd1
                          obtain rfl := hF.out.f2 hd2
                          clear hdep hd hd1 hd2
                          intro K hK
                          simp only [Act.put, List.setIfInBounds_toArray, List.set_cons_zero, List.set_cons_succ]
                          go_simp
                          refine hK.out _ _ ⟨gb, g2, gr, cr, x12, x101, (.slice (some ⟨gt, 0, none⟩) L tcap), (.int .i64 (i : Int)), (.pointer (some ⟨gt, i, none⟩)), x105, x106, x107, x108, x109, x110, x111, x112, by simp only [Act.put, List.setIfInBounds_toArray, List.set_cons_zero, List.set_cons_succ], ?_⟩
                          exact ⟨fun h => hF.out.f0 (by simpa using h), fun h => hF.out.f1 (by simpa using h), fun h => hF.out.f2 (by simpa using h), fun _ => rfl, fun h => hF.out.f4 (by simpa using h), fun h => hF.out.f5 (by simpa using h), fun h => hF.out.f6 (by simpa using h), fun h => hF.out.f7 (by simpa using h), fun h => hF.out.f8 (by simpa using h), fun h => hF.out.f9 (by simpa using h), fun h => hF.out.f10 (by simpa using h), fun h => hF.out.f11 (by simpa using h), fun h => hF.out.f12 (by simpa using h), fun h => by have := hF.out.q8_7 (by simpa using h); simpa using this, fun h => by have := hF.out.q9_4 (by simpa using h); simpa using this, fun h => by have := hF.out.q9_8 (by simpa using h); simpa using this, fun h => by have := hF.out.q10_9 (by simpa using h); simpa using this, fun h => by have := hF.out.q10_7 (by simpa using h); simpa using this, fun h => by have := hF.out.q12_11 (by simpa using h); simpa using this, fun h => by have := hF.out.q12_0 (by simpa using h); simpa using this, fun h => by have := hF.out.q4 (by simpa using h); simpa using this, fun h => by have := hF.out.q7 (by simpa using h); simpa using this, fun h => by have := hF.out.q8 (by simpa using h); simpa using this, fun h => by have := hF.out.q10 (by simpa using h); simpa using this, fun h => hF.out.s12 (by simpa using h), fun h => hF.out.rk (by simpa using h), fun h h2 => hF.out.b5 (by simpa using h) (by simpa using h2), fun h h2 => hF.out.b9 (by simpa using h) (by simpa using h2), fun h => hF.out.fin (by simpa using h)⟩
                        · intro d a W hI hd hdep
                          obtain ⟨gb, g2, gr, cr, x12, x101, x102, x103, x104, x105, x106, x107, x108, x109, x110, x111, x112, rfl, hF⟩ := hI
                          have hd3 : d 3 = true := dep_of hdep 3 (by kernel_rfl)
                          obtain rfl := hF.out.f3 hd3
                          have HN11 : Hid (d 11 = false) := no_later hF.out.q4 hd
                          have hrk := hF.out.rk HN11.out
                          have ya := HTXC.out _ hrk
                          clear hdep hd hd3
                          intro K hK
                          simp only [Act.put, List.setIfInBounds_toArray, List.set_cons_zero, List.set_cons_succ]
                          go_simp
                          refine hK.out _ _ ⟨gb, g2, gr, cr, x12, x101, x102, x103, (.pointer (some ⟨gt, i, none⟩)), (.string ⟨wd.toArray⟩), x106, x107, x108, x109, x110, x111, x112, by simp only [Act.put, List.setIfInBounds_toArray, List.set_cons_zero, List.set_cons_succ], ?_⟩
                          exact ⟨fun h => hF.out.f0 (by simpa using h), fun h => hF.out.f1 (by simpa using h), fun h => hF.out.f2 (by simpa using h), fun h => hF.out.f3 (by simpa using h), fun _ => rfl, fun h => hF.out.f5 (by simpa using h), fun h => hF.out.f6 (by simpa using h), fun h => hF.out.f7 (by simpa using h), fun h => hF.out.f8 (by simpa using h), fun h => hF.out.f9 (by simpa using h), fun h => hF.out.f10 (by simpa using h), fun h => hF.out.f11 (by simpa using h), fun h => hF.out.f12 (by simpa using h), fun h => by have := hF.out.q8_7 (by simpa using h); simpa using this, fun _ => by simp, fun h => by have := hF.out.q9_8 (by simpa using h); simpa using this, fun h => by have := hF.out.q10_9 (by simpa using h); simpa using this, fun h => by have := hF.out.q10_7 (by simpa using h); simpa using this, fun h => by have := hF.out.q12_11 (by simpa using h); simpa using this, fun h => by have := hF.out.q12_0 (by simpa using h); simpa using this, fun _ => by simp, fun h => by have := hF.out.q7 (by simpa using h); simpa using this, fun h => by have := hF.out.q8 (by simpa using h); simpa using this, fun h => by have := hF.out.q10 (by simpa using h); simpa using this, fun h => hF.out.s12 (by simpa using h), fun h => hF.out.rk (by simpa using h), fun h h2 => hF.out.b5 (by simpa using h) (by simpa using h2), fun h h2 => hF.out.b9 (by simpa using h) (by simpa using h2), fun h => hF.out.fin (by simpa using h)⟩
                        · intro d a W hI hd hdep
                          obtain ⟨gb, g2, gr, cr, x12, x101, x102, x103, x104, x105, x106, x107, x108, x109, x110, x111, x112, rfl, hF⟩ := hI
                          clear hdep hd
                          intro K hK
                          simp only [Act.put, List.setIfInBounds_toArray, List.set_cons_zero, List.set_cons_succ]
                          go_simp
                          refine hK.out _ _ ⟨gb, g2, gr, cr, x12, x101, x102, x103, x104, x105, (.int .i64 (c : Int)), x107, x108, x109, x110, x111, x112, by simp only [Act.put, List.setIfInBounds_toArray, List.set_cons_zero, List.set_cons_succ], ?_⟩
                          exact ⟨fun h => hF.out.f0 (by simpa using h), fun h => hF.out.f1 (by simpa using h), fun h => hF.out.f2 (by simpa using h), fun h => hF.out.f3 (by simpa using h), fun h => hF.out.f4 (by simpa using h), fun _ => rfl, fun h => hF.out.f6 (by simpa using h), fun h => hF.out.f7 (by simpa using h), fun h => hF.out.f8 (by simpa using h), fun h => hF.out.f9 (by simpa using h), fun h => hF.out.f10 (by simpa using h), fun h => hF.out.f11 (by simpa using h), fun h => hF.out.f12 (by simpa using h), fun h => by have := hF.out.q8_7 (by simpa using h); simpa using this, fun h => by have := hF.out.q9_4 (by simpa using h); simpa using this, fun h => by have := hF.out.q9_8 (by simpa using h); simpa using this, fun h => by have := hF.out.q10_9 (by simpa using h); simpa using this, fun h => by have := hF.out.q10_7 (by simpa using h); simpa using this, fun h => by have := hF.out.q12_11 (by simpa using h); simpa using this, fun h => by have := hF.out.q12_0 (by simpa using h); simpa using this, fun h => by have := hF.out.q4 (by simpa using h); simpa using this, fun h => by have := hF.out.q7 (by simpa using h); simpa using this, fun h => by have := hF.out.q8 (by simpa using h); simpa using this, fun h => by have := hF.out.q10 (by simpa using h); simpa using this, fun h => hF.out.s12 (by simpa using h), fun h => hF.out.rk (by simpa using h), fun h h2 => hF.out.b5 (by simpa using h) (by simpa using h2), fun h h2 => hF.out.b9 (by simpa using h) (by simpa using h2), fun h => hF.out.fin (by simpa using h)⟩
                        · intro d a W hI hd hdep
                          obtain ⟨gb, g2, gr, cr, x12, x101, x102, x103, x104, x105, x106, x107, x108, x109, x110, x111, x112, rfl, hF⟩ := hI
                          have hd5 : d 5 = true := dep_of hdep 5 (by kernel_rfl)
                          obtain rfl := hF.out.f5 hd5
                          have hw8 := HW8.out
                          clear hdep hd hd5
                          intro K hK
                          simp only [Act.put, List.setIfInBounds_toArray, List.set_cons_zero, List.set_cons_succ]
                          go_simp
                          refine hK.out _ _ ⟨gb, g2, gr, cr, x12, x101, x102, x103, x104, x105, (.int .i64 (c : Int)), (.int .u8 (c : Int)), x108, x109, x110, x111, x112, by simp only [Act.put, List.setIfInBounds_toArray, List.set_cons_zero, List.set_cons_succ], ?_⟩
                          exact ⟨fun h => hF.out.f0 (by simpa using h), fun h => hF.out.f1 (by simpa using h), fun h => hF.out.f2 (by simpa using h), fun h => hF.out.f3 (by simpa using h), fun h => hF.out.f4 (by simpa using h), fun h => hF.out.f5 (by simpa using h), fun _ => rfl, fun h => hF.out.f7 (by simpa using h), fun h => hF.out.f8 (by simpa using h), fun h => hF.out.f9 (by simpa using h), fun h => hF.out.f10 (by simpa using h), fun h => hF.out.f11 (by simpa using h), fun h => hF.out.f12 (by simpa using h), fun h => by have := hF.out.q8_7 (by simpa using h); simpa using this, fun h => by have := hF.out.q9_4 (by simpa using h); simpa using this, fun h => by have := hF.out.q9_8 (by simpa using h); simpa using this, fun h => by have := hF.out.q10_9 (by simpa using h); simpa using this, fun h => by have := hF.out.q10_7 (by simpa using h); simpa using this, fun h => by have := hF.out.q12_11 (by simpa using h); simpa using this, fun h => by have := hF.out.q12_0 (by simpa using h); simpa using this, fun h => by have := hF.out.q4 (by simpa using h); simpa using this, fun h => by have := hF.out.q7 (by simpa using h); simpa using this, fun h => by have := hF.out.q8 (by simpa using h); simpa using this, fun h => by have := hF.out.q10 (by simpa using h); simpa using this, fun h => hF.out.s12 (by simpa using h), fun h => hF.out.rk (by simpa using h), fun h h2 => hF.out.b5 (by simpa using h) (by simpa using h2), fun h h2 => hF.out.b9 (by simpa using h) (by simpa using h2), fun h => hF.out.fin (by simpa using h)⟩
                        · intro d a W hI hd hdep
                          obtain ⟨gb, g2, gr, cr, x12, x101, x102, x103, x104, x105, x106, x107, x108, x109, x110, x111, x112, rfl, hF⟩ := hI
                          have hd6 : d 6 = true := dep_of hdep 6 (by kernel_rfl)
                          obtain rfl := hF.out.f6 hd6
                          have HN11 : Hid (d 11 = false) := no_later hF.out.q7 hd
                          have hrk := hF.out.rk HN11.out
                          have HN8 : Hid (d 8 = false) := no_later hF.out.q8_7 hd
                          have HN10 : Hid (d 10 = false) := no_later hF.out.q10_7 hd
                          clear hdep hd hd6
                          intro K hK
                          simp only [Act.put, List.setIfInBounds_toArray, List.set_cons_zero, List.set_cons_succ]
                          go_simp
                          refine hK.out _ _ ⟨W.heap.size, g2, gr, cr, x12, x101, x102, x103, x104, x105, x106, (.int .u8 (c : Int)), (.slice (some ⟨W.heap.size, 0, none⟩) 1 1), x109, x110, x111, x112, by simp only [Act.put, List.setIfInBounds_toArray, List.set_cons_zero, List.set_cons_succ], ?_⟩
                          have B1 := (Below.refl W.heap.size W).alloc (Nat.le_refl _) (Obj.cells #[Value.int .u8 (c : Int)] 5)
                          exact ⟨fun h => hF.out.f0 (by simpa using h), fun h => hF.out.f1 (by simpa using h), fun h => hF.out.f2 (by simpa using h), fun h => hF.out.f3 (by simpa using h), fun h => hF.out.f4 (by simpa using h), fun h => hF.out.f5 (by simpa using h), fun h => hF.out.f6 (by simpa using h), fun _ => rfl, fun h => hF.out.f8 (by simpa using h), fun h => hF.out.f9 (by simpa using h), fun h => hF.out.f10 (by simpa using h), fun h => hF.out.f11 (by simpa using h), fun h => hF.out.f12 (by simpa using h), fun _ => by simp, fun h => by have := hF.out.q9_4 (by simpa using h); simpa using this, fun h => by have := hF.out.q9_8 (by simpa using h); simpa using this, fun h => by have := hF.out.q10_9 (by simpa using h); simpa using this, fun _ => by simp, fun h => by have := hF.out.q12_11 (by simpa using h); simpa using this, fun h => by have := hF.out.q12_0 (by simpa using h); simpa using this, fun h => by have := hF.out.q4 (by simpa using h); simpa using this, fun _ => by simp, fun h => by have := hF.out.q8 (by simpa using h); simpa using this, fun h => by have := hF.out.q10 (by simpa using h); simpa using this, fun h => hF.out.s12 (by simpa using h), fun _ => hrk.next B1, fun _ _ => by simp, fun h => by have := HN10.out; simp [this] at h, fun h => by have := HN11.out; simp [this] at h⟩
                        · intro d a W hI hd hdep
                          obtain ⟨gb, g2, gr, cr, x12, x101, x102, x103, x104, x105, x106, x107, x108, x109, x110, x111, x112, rfl, hF⟩ := hI
                          have hd7 : d 7 = true := dep_of hdep 7 (by kernel_rfl)
                          obtain rfl := hF.out.f7 hd7
                          have HN11 : Hid (d 11 = false) := no_later hF.out.q8 hd
                          have hrk := hF.out.rk HN11.out
                          have hcv := conv_one HC256.out (hF.out.b5 hd7 hd)
                          have e8_7 := hd7
                          clear hdep hd hd7
                          intro K hK
                          simp only [Act.put, List.setIfInBounds_toArray, List.set_cons_zero, List.set_cons_succ]
                          go_simp
                          refine hK.out _ _ ⟨gb, g2, gr, cr, x12, x101, x102, x103, x104, x105, x106, x107, (.slice (some ⟨gb, 0, none⟩) 1 1), (.string ⟨#[UInt8.ofNat c]⟩), x110, x111, x112, by simp only [Act.put, List.setIfInBounds_toArray, List.set_cons_zero, List.set_cons_succ], ?_⟩
                          exact ⟨fun h => hF.out.f0 (by simpa using h), fun h => hF.out.f1 (by simpa using h), fun h => hF.out.f2 (by simpa using h), fun h => hF.out.f3 (by simpa using h), fun h => hF.out.f4 (by simpa using h), fun h => hF.out.f5 (by simpa using h), fun h => hF.out.f6 (by simpa using h), fun h => hF.out.f7 (by simpa using h), fun _ => rfl, fun h => hF.out.f9 (by simpa using h), fun h => hF.out.f10 (by simpa using h), fun h => hF.out.f11 (by simpa using h), fun h => hF.out.f12 (by simpa using h), fun _ => by simpa using e8_7, fun h => by have := hF.out.q9_4 (by simpa using h); simpa using this, fun _ => by simp, fun h => by have := hF.out.q10_9 (by simpa using h); simpa using this, fun h => by have := hF.out.q10_7 (by simpa using h); simpa using this, fun h => by have := hF.out.q12_11 (by simpa using h); simpa using this, fun h => by have := hF.out.q12_0 (by simpa using h); simpa using this, fun h => by have := hF.out.q4 (by simpa using h); simpa using this, fun h => by have := hF.out.q7 (by simpa using h); simpa using this, fun _ => by simp, fun h => by have := hF.out.q10 (by simpa using h); simpa using this, fun h => hF.out.s12 (by simpa using h), fun h => hF.out.rk (by simpa using h), fun _ h => by simp at h, fun h h2 => hF.out.b9 (by simpa using h) (by simpa using h2), fun h => hF.out.fin (by simpa using h)⟩
                        · intro d a W hI hd hdep
                          obtain ⟨gb, g2, gr, cr, x12, x101, x102, x103, x104, x105, x106, x107, x108, x109, x110, x111, x112, rfl, hF⟩ := hI
                          have hd4 : d 4 = true := dep_of hdep 4 (by kernel_rfl)
                          have hd8 : d 8 = true := dep_of hdep 8 (by kernel_rfl)
                          obtain rfl := hF.out.f4 hd4
                          obtain rfl := hF.out.f8 hd8
                          have e9_4 := hd4
                          have e9_8 := hd8
                          have hcat := HCAT.out
                          clear hdep hd hd4 hd8
                          intro K hK
                          simp only [Act.put, List.setIfInBounds_toArray, List.set_cons_zero, List.set_cons_succ]
                          go_simp
                          rw [if_neg (by first | omega | (simp; omega))]
                          go_simp
                          refine hK.out _ _ ⟨gb, g2, gr, cr, x12, x101, x102, x103, x104, (.string ⟨wd.toArray⟩), x106, x107, x108, (.string ⟨#[UInt8.ofNat c]⟩), (.string ⟨(wd ++ [UInt8.ofNat c]).toArray⟩), x111, x112, by simp only [Act.put, List.setIfInBounds_toArray, List.set_cons_zero, List.set_cons_succ], ?_⟩
                          exact ⟨fun h => hF.out.f0 (by simpa using h), fun h => hF.out.f1 (by simpa using h), fun h => hF.out.f2 (by simpa using h), fun h => hF.out.f3 (by simpa using h), fun h => hF.out.f4 (by simpa using h), fun h => hF.out.f5 (by simpa using h), fun h => hF.out.f6 (by simpa using h), fun h => hF.out.f7 (by simpa using h), fun h => hF.out.f8 (by simpa using h), fun _ => rfl, fun h => hF.out.f10 (by simpa using h), fun h => hF.out.f11 (by simpa using h), fun h => hF.out.f12 (by simpa using h), fun h => by have := hF.out.q8_7 (by simpa using h); simpa using this, fun _ => by simpa using e9_4, fun _ => by simpa using e9_8, fun _ => by simp, fun h => by have := hF.out.q10_7 (by simpa using h); simpa using this, fun h => by have := hF.out.q12_11 (by simpa using h); simpa using this, fun h => by have := hF.out.q12_0 (by simpa using h); simpa using this, fun h => by have := hF.out.q4 (by simpa using h); simpa using this, fun h => by have := hF.out.q7 (by simpa using h); simpa using this, fun h => by have := hF.out.q8 (by simpa using h); simpa using this, fun h => by have := hF.out.q10 (by simpa using h); simpa using this, fun h => hF.out.s12 (by simpa using h), fun h => hF.out.rk (by simpa using h), fun h h2 => hF.out.b5 (by simpa using h) (by simpa using h2), fun h h2 => hF.out.b9 (by simpa using h) (by simpa using h2), fun h => hF.out.fin (by simpa using h)⟩
                        · intro d a W hI hd hdep
                          obtain ⟨gb, g2, gr, cr, x12, x101, x102, x103, x104, x105, x106, x107, x108, x109, x110, x111, x112, rfl, hF⟩ := hI
                          have hd9 : d 9 = true := dep_of hdep 9 (by kernel_rfl)
                          obtain rfl := hF.out.f9 hd9
                          have HN11 : Hid (d 11 = false) := no_later hF.out.q10 hd
                          have hrk := hF.out.rk HN11.out
                          have e10_9 := hd9
                          have g8x := hF.out.q9_8 hd9
                          have e10_7 := hF.out.q8_7 g8x
                          clear hdep hd hd9
                          intro K hK
                          simp only [Act.put, List.setIfInBounds_toArray, List.set_cons_zero, List.set_cons_succ]
                          go_simp
                          refine hK.out _ _ ⟨gb, W.heap.size, gr, cr, x12, x101, x102, x103, x104, x105, x106, x107, x108, x109, (.string ⟨(wd ++ [UInt8.ofNat c]).toArray⟩), (.slice (some ⟨W.heap.size, 0, none⟩) 1 1), x112, by simp only [Act.put, List.setIfInBounds_toArray, List.set_cons_zero, List.set_cons_succ], ?_⟩
                          have B1 := (Below.refl W.heap.size W).alloc (Nat.le_refl _) (Obj.cells #[Value.string ⟨(wd ++ [UInt8.ofNat c]).toArray⟩] 9)
                          exact ⟨fun h => hF.out.f0 (by simpa using h), fun h => hF.out.f1 (by simpa using h), fun h => hF.out.f2 (by simpa using h), fun h => hF.out.f3 (by simpa using h), fun h => hF.out.f4 (by simpa using h), fun h => hF.out.f5 (by simpa using h), fun h => hF.out.f6 (by simpa using h), fun h => hF.out.f7 (by simpa using h), fun h => hF.out.f8 (by simpa using h), fun h => hF.out.f9 (by simpa using h), fun _ => rfl, fun h => hF.out.f11 (by simpa using h), fun h => hF.out.f12 (by simpa using h), fun h => by have := hF.out.q8_7 (by simpa using h); simpa using this, fun h => by have := hF.out.q9_4 (by simpa using h); simpa using this, fun h => by have := hF.out.q9_8 (by simpa using h); simpa using this, fun _ => by simpa using e10_9, fun _ => by simpa using e10_7, fun h => by have := hF.out.q12_11 (by simpa using h); simpa using this, fun h => by have := hF.out.q12_0 (by simpa using h); simpa using this, fun h => by have := hF.out.q4 (by simpa using h); simpa using this, fun h => by have := hF.out.q7 (by simpa using h); simpa using this, fun h => by have := hF.out.q8 (by simpa using h); simpa using this, fun _ => by simp, fun h => hF.out.s12 (by simpa using h), fun _ => hrk.next B1, fun _ h => by have := g8x; simp [this] at h, fun _ _ j u hj => by rw [cell_of_one9]; exact hj, fun h => by have := HN11.out; simp [this] at h⟩
                        · intro d a W hI hd hdep
                          obtain ⟨gb, g2, gr, cr, x12, x101, x102, x103, x104, x105, x106, x107, x108, x109, x110, x111, x112, rfl, hF⟩ := hI
                          have hd0 : d 0 = true := dep_of hdep 0 (by kernel_rfl)
                          have hd10 : d 10 = true := dep_of hdep 10 (by kernel_rfl)
                          obtain rfl := hF.out.f0 hd0
                          obtain rfl := hF.out.f10 hd10
                          have hrk := hF.out.rk hd
                          have HN12 : Hid (d 12 = false) := no_later hF.out.q12_11 hd
                          have e11_10 := hd10
                          have e11_0 := hd0
                          have e11_4 := hF.out.q9_4 (hF.out.q10_9 hd10)
                          have e11_8 := hF.out.q9_8 (hF.out.q10_9 hd10)
                          have e11_7 := hF.out.q8_7 e11_8
                          have hbk := hF.out.b9 hd10 hd
                          have hm := run_append_lies (P := Try.prog) W 56 56 (w.heap.size + 3) 9 i9 _ 1 16 Try.underlying56 H9.out.1 H9.out.2.1 H9.out.2.2.1 H9.out.2.2.2 rfl (by omega) sv M.length (txs M) hrk.sad ⟨g2, 0, none⟩ 1 1 [(.string ⟨(wd ++ [UInt8.ofNat c]).toArray⟩)] rfl (fun j u hj => by rw [Addr.add_lit, Nat.zero_add]; exact hbk j u hj) (by intro u hu; simp at hu; subst hu; rfl) (by omega) (by unfold maxLen; have := HML.out; omega) (by have := HML.out; omega) hrk.size W.heap.size rfl
                          have hmm := hm.choose_spec.choose_spec.choose_spec
                          generalize hm.choose_spec.choose_spec.choose = W1 at hmm
                          generalize hm.choose_spec.choose = cr1 at hmm
                          generalize hm.choose = gr1 at hmm
                          have hrun := hmm.1
                          have HM : Hid (RK w RA RB vA tA vB tB (upd1 F q) (Q.drop lo) (M ++ [⟨wd ++ [UInt8.ofNat c], lo + i, c⟩]) (M ++ [⟨wd ++ [UInt8.ofNat c], lo + i, c⟩]) (.slice (some ⟨gv, 0, none⟩) L ncap) (.slice (some ⟨gt, 0, none⟩) L tcap) (.slice va vm vc) (.slice (some ⟨gr1, 0, none⟩) (M.length + 1) cr1) W1) := hrk.said hmm.2.2.1 (by rw [txs_snoc, List.length_append]; exact hmm.2.1) (hmm.2.2.2.1.imp (fun e => e.symm) (fun e => by rw [e]; rfl))
                          clear hmm hm hbk hrk
                          clear hdep hd hd0 hd10
                          intro K hK
                          refine step_call_append (sv := sv) (xv := .slice (some ⟨g2, 0, none⟩) 1 1) (v := .slice (some ⟨gr1, 0, none⟩) (M.length + 1) cr1) (W1 := W1) (by rfl) _ _ 56 (by rfl) (by simp only [Act.put, List.setIfInBounds_toArray, List.set_cons_zero, List.set_cons_succ]; rfl) (by simp only [Act.put, List.setIfInBounds_toArray, List.set_cons_zero, List.set_cons_succ]; rfl) (by exact hrun) ?_
                          simp only [Act.put, List.setIfInBounds_toArray, List.set_cons_zero, List.set_cons_succ]
                          refine hK.out _ _ ⟨gb, g2, gr1, cr1, x12, sv, x102, x103, x104, x105, x106, x107, x108, x109, x110, (.slice (some ⟨g2, 0, none⟩) 1 1), (.slice (some ⟨gr1, 0, none⟩) (M.length + 1) cr1), by simp only [Act.put, List.setIfInBounds_toArray, List.set_cons_zero, List.set_cons_succ], ?_⟩
                          exact ⟨fun h => hF.out.f0 (by simpa using h), fun h => hF.out.f1 (by simpa using h), fun h => hF.out.f2 (by simpa using h), fun h => hF.out.f3 (by simpa using h), fun h => hF.out.f4 (by simpa using h), fun h => hF.out.f5 (by simpa using h), fun h => hF.out.f6 (by simpa using h), fun h => hF.out.f7 (by simpa using h), fun h => hF.out.f8 (by simpa using h), fun h => hF.out.f9 (by simpa using h), fun h => hF.out.f10 (by simpa using h), fun _ => rfl, fun h => by have := HN12.out; simp [this] at h, fun h => by have := hF.out.q8_7 (by simpa using h); simpa using this, fun h => by have := hF.out.q9_4 (by simpa using h); simpa using this, fun h => by have := hF.out.q9_8 (by simpa using h); simpa using this, fun h => by have := hF.out.q10_9 (by simpa using h); simpa using this, fun h => by have := hF.out.q10_7 (by simpa using h); simpa using this, fun _ => by simp, fun h => by have := hF.out.q12_0 (by simpa using h); simpa using this, fun _ => by simpa using e11_4, fun _ => by simpa using e11_7, fun _ => by simpa using e11_8, fun _ => by simpa using e11_10, fun h => hF.out.s12 (by simpa using h), fun h => by simp at h, fun _ h => by have := e11_8; simp [this] at h, fun _ h => by simp at h, fun _ => HM.out⟩
                        · intro d a W hI hd hdep
                          obtain ⟨gb, g2, gr, cr, x12, x101, x102, x103, x104, x105, x106, x107, x108, x109, x110, x111, x112, rfl, hF⟩ := hI
                          have hd11 : d 11 = true := dep_of hdep 11 (by kernel_rfl)
                          have hd0 : d 0 = true := dep_of hdep 0 (by kernel_rfl)
                          obtain rfl := hF.out.f11 hd11
                          obtain rfl := hF.out.f0 hd0
                          have e12_11 := hd11
                          have e12_0 := hd0
                          clear hdep hd hd11 hd0
                          intro K hK
                          simp only [Act.put, List.setIfInBounds_toArray, List.set_cons_zero, List.set_cons_succ]
                          go_simp
                          refine hK.out _ _ ⟨gb, g2, gr, cr, (.slice (some ⟨gr, 0, none⟩) (M.length + 1) cr), sv, x102, x103, x104, x105, x106, x107, x108, x109, x110, x111, (.slice (some ⟨gr, 0, none⟩) (M.length + 1) cr), by simp only [Act.put, List.setIfInBounds_toArray, List.set_cons_zero, List.set_cons_succ], ?_⟩
                          exact ⟨fun h => hF.out.f0 (by simpa using h), fun h => hF.out.f1 (by simpa using h), fun h => hF.out.f2 (by simpa using h), fun h => hF.out.f3 (by simpa using h), fun h => hF.out.f4 (by simpa using h), fun h => hF.out.f5 (by simpa using h), fun h => hF.out.f6 (by simpa using h), fun h => hF.out.f7 (by simpa using h), fun h => hF.out.f8 (by simpa using h), fun h => hF.out.f9 (by simpa using h), fun h => hF.out.f10 (by simpa using h), fun h => hF.out.f11 (by simpa using h), fun _ => rfl, fun h => by have := hF.out.q8_7 (by simpa using h); simpa using this, fun h => by have := hF.out.q9_4 (by simpa using h); simpa using this, fun h => by have := hF.out.q9_8 (by simpa using h); simpa using this, fun h => by have := hF.out.q10_9 (by simpa using h); simpa using this, fun h => by have := hF.out.q10_7 (by simpa using h); simpa using this, fun _ => by simpa using e12_11, fun _ => by simpa using e12_0, fun h => by have := hF.out.q4 (by simpa using h); simpa using this, fun h => by have := hF.out.q7 (by simpa using h); simpa using this, fun h => by have := hF.out.q8 (by simpa using h); simpa using this, fun h => by have := hF.out.q10 (by simpa using h); simpa using this, fun h => by simp at h, fun h => hF.out.rk (by simpa using h), fun h h2 => hF.out.b5 (by simpa using h) (by simpa using h2), fun h h2 => hF.out.b9 (by simpa using h) (by simpa using h2), fun h => hF.out.fin (by simpa using h)⟩
                      · intro d a W hI hall
                        obtain ⟨gb, g2, gr, cr, x12, x101, x102, x103, x104, x105, x106, x107, x108, x109, x110, x111, x112, rfl, hF⟩ := hI
                        simp only [List.length_cons, List.length_nil] at hall
                        obtain rfl := hF.out.f0 (hall 0 (by omega))
                        obtain rfl := hF.out.f1 (hall 1 (by omega))
                        obtain rfl := hF.out.f2 (hall 2 (by omega))
                        obtain rfl := hF.out.f3 (hall 3 (by omega))
                        obtain rfl := hF.out.f4 (hall 4 (by omega))
                        obtain rfl := hF.out.f5 (hall 5 (by omega))
                        obtain rfl := hF.out.f6 (hall 6 (by omega))
                        obtain rfl := hF.out.f7 (hall 7 (by omega))
                        obtain rfl := hF.out.f8 (hall 8 (by omega))
                        obtain rfl := hF.out.f9 (hall 9 (by omega))
                        obtain rfl := hF.out.f10 (hall 10 (by omega))
                        obtain rfl := hF.out.f11 (hall 11 (by omega))
                        obtain rfl := hF.out.f12 (hall 12 (by omega))
                        have HK7 : Hid (RK w RA RB vA tA vB tB (upd1 F q) (Q.drop lo) (M ++ [⟨wd ++ [UInt8.ofNat c], lo + i, c⟩]) (M ++ [⟨wd ++ [UInt8.ofNat c], lo + i, c⟩]) (.slice (some ⟨gv, 0, none⟩) L ncap) (.slice (some ⟨gt, 0, none⟩) L tcap) (.slice va vm vc) (.slice (some ⟨gr, 0, none⟩) (M.length + 1) cr) W) := hF.out.fin (hall 11 (by omega))
                        clear hF hall
                        simp only [Act.put, List.setIfInBounds_toArray, List.set_cons_zero, List.set_cons_succ]
                        go_wp2_with fail
                        go_roundw
                        case rel => exact ⟨c + 1, by omega, by go_num, M ++ [⟨wd ++ [UInt8.ofNat c], lo + i, c⟩], upd1 F q, HNX.out, HFN.out, HK7.out⟩
                        case measure => simp [intOf]; omega
                · obtain rfl : c = 256 := by omega
                  have HE2 : Hid (∃ M F, Inv (pr RA RB) (Q ++ M) (lo + (i + 1)) 0 ∧ Fs RA RB F (Q ++ M) ∧ RK w RA RB vA tA vB tB F (Q.drop lo) M M (.slice (some ⟨gv, 0, none⟩) L ncap) (.slice (some ⟨gt, 0, none⟩) L tcap) hv sv wr) := by
                    obtain ⟨M, F, hiv, hfs, hrk⟩ := HE.out
                    exact ⟨M, F, hiv.next, hfs, hrk⟩
                  clear HE
                  go_wp2_with fail
                  go_roundw
                  case rel => exact ⟨i + 1, by omega, by go_num, HE2⟩
                  case measure => simp [intOf]; omega
            · obtain rfl : i = L := by omega
              have HLV : Hid (Lv w RA RB TA TB vA tA vB tB hv sv wr (50000 - Q.length)) := by
                obtain ⟨M, F, hiv, hfs, hrk⟩ := HE.out
                rw [hll] at hiv
                refine ⟨Q ++ M, Q.length, F, hiv, hfs, fun k hk => by rw [g_app _ _ _ hk]; exact HNDL.out k hk, by simp, ?_, rfl⟩
                rw [List.drop_left]
                exact hrk.turn
              clear HE
              go_wp2_with fail
              go_roundw
              case rel => exact ⟨_, HLV.out⟩
              case measure =>
                have h1 := leastOf_le HLV.out
                have h2 := HKK.out
                have h3 := HK0.out
                omega
end Go.Proofs.Ytcddomihkamhcaa
