/-
  Whatever text and cuts are handed in (together of bulk at most 1048576), the call of pushkeep.FrameCuts returns true: however a stream is cut, the same frames, the same error, the same rest. Conditions: the bulk of the arguments.
-/
import Derived.Test.YtnheaafepejaoaaRows
import Derived.WalkKit
import Derived.ProofKit
import Derived.OpenShut
import Derived.ShutString
import Derived.SizedLaws
import Derived.ChangeOld
import Derived.Below
import Derived.Carry
import Derived.WalkLawsBesides
import Derived.WalkSpells
import Derived.Test.YtnheaafepejaoaaOpens
import Derived.JoinedCond
import Derived.Test.YtnheaafepejaoaaAppends
namespace Go.Proofs.Ytnheaafepejaoaa.frameCuts
open Go.ChangeShapes Go.WideShapes Go.ChangeAt Go.RowKit
open Go.ChangeMaps (open_string shut_string)
open Frm
set_option linter.unusedVariables false

theorem own : ownKnob Try.prog.godebug = none := by kernel_rfl
theorem laidOut : laidOutB Try.prog = true := by kernel_rfl
theorem own_zero {w : World} {base e size : Nat} {v : Value} {xs : List Value} (h : w.ownsRow base e size v 0 xs) : ∃ ao c, v = .slice ao 0 c := by
  obtain ⟨_, ⟨h1, _⟩ | ⟨g', cap', cur, h1, _⟩⟩ := h
  · exact ⟨_, _, h1⟩
  · exact ⟨_, _, h1⟩

/-! ### The walk: the Go text returns true. -/
set_option maxHeartbeats 3200000 in
set_option maxRecDepth 20000 in
theorem walk (a0 : ByteArray) (v1 : Value) (a1l : List Int) (w : World) (w0 : a0.size ≤ 1048576) (w1s : Ints w v1 a1l) (w1z : a1l.length ≤ 1048576) :
    Calls Try.prog 5 #[.string a0, v1] w fun e w' => e = .returned (.bool true) ∧ Below w.heap.size w w' := by
  obtain ⟨i0, hi, hz0, hz1, hz2⟩ := info_parts info23
  have H3 : Hid (ff [3] = ([], [3], 0)) := ff_wait [3] (by decide) (by decide)
  go_enter Try.func5, Try.ntmps5
  go_wp2_with fail
  refine (feed_live ⟨#[]⟩ ⟨#[3]⟩ (by decide) _).mono ?_
  rintro e w1 ⟨v5, rfl, hown5, hb1⟩
  rw [show (ByteArray.mk #[]).data.toList ++ (ByteArray.mk #[3]).data.toList = [3] from rfl, H3.out] at hown5 ⊢
  obtain ⟨ao5, c5, rfl⟩ := own_zero hown5
  have s1 := hb1.size
  clear hown5
  go_wp2_with fail
  refine (feed_live ⟨#[]⟩ a0 (by show 0 + a0.size ≤ _; omega) _).mono ?_
  rintro e w2 ⟨v9, rfl, hown9, hb2⟩
  rw [show (ByteArray.mk #[]).data.toList ++ a0.data.toList = a0.data.toList from rfl] at hown9 ⊢
  obtain ⟨L, HL⟩ : ∃ L, Hid (a0.data.toList = L) := ⟨_, rfl⟩
  have hLl : L.length = a0.size := by rw [← HL.out]; exact len_list a0
  rw [HL.out] at hown9 ⊢
  obtain ⟨want, rest, er, HF⟩ : ∃ want rest er, Hid (ff L = (want, rest, er)) := ⟨_, _, _, rfl⟩
  have hwl : 8 * want.length + rest.length ≤ a0.size := by
    have := ff_size _ L (Nat.le_refl _)
    rw [HF.out] at this
    simp only at this
    omega
  rw [HF.out] at hown9 ⊢
  simp only at hown9 ⊢
  have s2 := hb2.size
  rw [World.size_alloc] at s2
  have B2 : Below w.heap.size w w2 := (hb1.alloc (by omega) _).trans (hb2.mono (by simp; omega))
  have HI : Ints w2 v1 a1l := w1s.below B2 (Nat.le_refl _)
  have HI2 := (HI.below ((Below.refl w2.heap.size w2).alloc (Nat.le_refl _) (Obj.cells #[.string ⟨rest.toArray⟩, .int .i64 (er : Int)] 31)) (Nat.le_refl _)).below ((Below.refl (w2.heap.size + 1) (w2.alloc (Obj.cells #[.string ⟨rest.toArray⟩, .int .i64 (er : Int)] 31))).alloc (by simp) (Obj.cells #[.string ⟨#[]⟩, .int .i64 0] 31)) (by simp)
  clear hb1 hb2 HI
  go_wp2_with fail
  refine (pieces_any a0 v1 a1l _ HI2 (by omega) (by omega)).mono ?_
  rintro e w3 ⟨pv, ls, rfl, hll, HJ0, hownp, hb3⟩
  have HJ : Hid (joined ls = L) := by show _ = _; rw [HJ0.out]; exact HL.out
  have hJl : (joined ls).length = a0.size := by rw [HJ.out]; exact hLl
  have s3 := hb3.size
  rw [World.size_alloc, World.size_alloc] at s3 hownp
  obtain ⟨gp, cp, rfl, hgp0, hgp1⟩ := hownp.form (by omega)
  have B3 : Below (w2.heap.size + 1) (w2.alloc (Obj.cells #[.string ⟨rest.toArray⟩, .int .i64 (er : Int)] 31)) w3 := ((Below.refl _ _).alloc (by simp) _).trans (hb3.mono (by simp))
  have hbk11 : w3.heap[w2.heap.size + 1]? = some (Obj.cells #[.string ⟨#[]⟩, .int .i64 0] 31 (0, 0)) := (hb3.block _ (by simp)).trans (two_second w2 _ _)
  have F9 : Frs (w2.alloc (Obj.cells #[.string ⟨rest.toArray⟩, .int .i64 (er : Int)] 31)) v9 want := (frs_of_own hown9 (by omega)).below ((Below.refl _ _).alloc (Nat.le_refl _) _) (Nat.le_refl _)
  have B8 : Below w.heap.size w (w2.alloc (Obj.cells #[.string ⟨rest.toArray⟩, .int .i64 (er : Int)] 31)) := B2.alloc B2.size _
  have hbk8 := heap_alloc_new w2 (Obj.cells #[.string ⟨rest.toArray⟩, .int .i64 (er : Int)] 31)
  have s8 : (w2.alloc (Obj.cells #[.string ⟨rest.toArray⟩, .int .i64 (er : Int)] 31)).heap.size = w2.heap.size + 1 := World.size_alloc ..
  generalize w2.alloc (Obj.cells #[.string ⟨rest.toArray⟩, .int .i64 (er : Int)] 31) = W8 at B3 F9 B8 hbk8 s8 hb3
  clear hb3 hown9 HI2 HJ0
  go_wp2_with fail
  go_loopw [46, 12, 13] (fun i v t wr => ∃ (k : Nat) (fs : List Fr) (R : List UInt8), k ≤ ls.length ∧ i = .int .i64 (k : Int) ∧ t = .int .i64 0 ∧ Hid (ff (joined (ls.take k)) = (fs, R, 0)) ∧ wr.ownsRow w3.heap.size 23 3 v fs.length (fcs fs) ∧ wr.heap[w2.heap.size + 1]? = some (.cells #[.string ⟨R.toArray⟩, .int .i64 0] 31 (0, 0)) ∧ wr.ownsRow (w2.heap.size + 2) 9 1 (.slice (some ⟨gp, 0, none⟩) ls.length cp) ls.length (ls.map Value.string) ∧ Below (w2.heap.size + 1) W8 wr ∧ w3.heap.size ≤ wr.heap.size) (fun i _ _ _ => ls.length - (intOf i).toNat)
  case atStart => exact ⟨0, [], [], by omega, rfl, rfl, by show _ = _; exact ff_wait [] (by decide) (by decide), World.ownsRow_nil _ _ _ _, hbk11, hownp, B3, Nat.le_refl _⟩
  case round =>
    clear hbk11 hownp B3
    obtain ⟨k, fs, R, hk, rfl, rfl, HK, hown, hbk11, hownp, B3, s4⟩ := hrel
    by_cases hlt : k < ls.length
    · obtain ⟨p, HP⟩ : ∃ p, Hid (p = ls.getD k ByteArray.empty) := ⟨_, rfl⟩
      have hps := piece_size ls k hlt fs R HK.out
      rw [← HP.out] at hps
      have cp0 : wr.cell? ⟨gp, k, none⟩ = some (.string p) := by
        have := hownp.cells (g := gp) rfl k (.string p) (by rw [HP.out]; simp [List.getD, List.getElem?_eq_getElem hlt])
        rwa [Go.WideShapes.add_plain, Nat.zero_add] at this
      have c0 : wr.cell? ⟨w2.heap.size + 1, 0, none⟩ = some (.string ⟨R.toArray⟩) := block_cell hbk11 0
      have c1 : wr.cell? ⟨w2.heap.size + 1, 1, none⟩ = some (.int .i64 0) := block_cell hbk11 1
      have k0 : (0 : Int) ≤ (k : Int) := by omega
      have k1 : (k : Int) < (ls.length : Int) := by omega
      obtain ⟨fs2, R2, e2, HN0⟩ : ∃ fs2 R2 e2, Hid (ff (R ++ p.data.toList) = (fs2, R2, e2)) := ⟨_, _, _, rfl⟩
      have HN : Hid (ff (joined (ls.take (k + 1))) = (fs ++ fs2, R2, e2)) := by
        show _ = _
        rw [piece_next ls k hlt fs R HK.out, ← HP.out, HN0.out]
        rfl
      have hsum : 8 * (fs.length + fs2.length) ≤ a0.size := by
        have h1 := ff_size _ (joined (ls.take (k + 1))) (Nat.le_refl _)
        rw [HN.out] at h1
        have h2 := congrArg List.length (joined_rest ls (k + 1))
        rw [List.length_append] at h2
        simp only [List.length_append] at h1
        omega
      go_wp2_with fail
      refine (feed_live ⟨R.toArray⟩ p (by rw [size_mk]; omega) _).mono ?_
      rintro e w4 ⟨v16, rfl, hown16, hb4⟩
      rw [show (ByteArray.mk R.toArray).data.toList ++ p.data.toList = R ++ p.data.toList from rfl, HN0.out] at hown16 ⊢
      simp only at hown16 ⊢
      have s5 := hb4.size
      have hbk11b : w4.heap[w2.heap.size + 1]? = _ := (hb4.block _ (by omega)).trans hbk11
      have hownb := own_below hown hb4 (Nat.le_refl _)
      have hownpb := own_below hownp hb4 (Nat.le_refl _)
      have B4 : Below (w2.heap.size + 1) W8 w4 := B3.trans (hb4.mono (by omega))
      have d0 : w4.cell? ⟨w2.heap.size + 1, 0, none⟩ = some (.string ⟨R.toArray⟩) := block_cell hbk11b 0
      have d1 : w4.cell? ⟨w2.heap.size + 1, 1, none⟩ = some (.int .i64 0) := block_cell hbk11b 1
      have f0 := block_free hbk11b 0
      have f1 := block_free hbk11b 1
      clear hb4 hown hownp B3 hbk11 c0 c1 cp0
      have hbk11c := cell_two hbk11b (.string ⟨R2.toArray⟩) (.int .i64 (e2 : Int))
      have hownc := ownsRow_setCell_below (ownsRow_setCell_below hownb (a := ⟨w2.heap.size + 1, 0, none⟩) (by show w2.heap.size + 1 < w3.heap.size; omega) (.string ⟨R2.toArray⟩)) (a := ⟨w2.heap.size + 1, 1, none⟩) (by show w2.heap.size + 1 < w3.heap.size; omega) (.int .i64 (e2 : Int))
      have hown16c := ownsRow_setCell_below (ownsRow_setCell_below hown16 (a := ⟨w2.heap.size + 1, 0, none⟩) (by show w2.heap.size + 1 < wr.heap.size; omega) (.string ⟨R2.toArray⟩)) (a := ⟨w2.heap.size + 1, 1, none⟩) (by show w2.heap.size + 1 < wr.heap.size; omega) (.int .i64 (e2 : Int))
      have hownpc := ownsRow_setCell_below (ownsRow_setCell_below hownpb (a := ⟨w2.heap.size + 1, 0, none⟩) (by show w2.heap.size + 1 < w2.heap.size + 2; omega) (.string ⟨R2.toArray⟩)) (a := ⟨w2.heap.size + 1, 1, none⟩) (by show w2.heap.size + 1 < w2.heap.size + 2; omega) (.int .i64 (e2 : Int))
      have B5 := (B4.setCell (p := ⟨w2.heap.size + 1, 0, none⟩) (Nat.le_refl _) (.string ⟨R2.toArray⟩)).setCell (p := ⟨w2.heap.size + 1, 1, none⟩) (Nat.le_refl _) (.int .i64 (e2 : Int))
      have s6 : ((w4.setCell ⟨w2.heap.size + 1, 0, none⟩ (.string ⟨R2.toArray⟩)).setCell ⟨w2.heap.size + 1, 1, none⟩ (.int .i64 (e2 : Int))).heap.size = w4.heap.size := by simp
      clear hbk11b hownb hownpb hown16 B4
      by_cases he : e2 = 0
      · subst he
        have z0 : ((0 : Nat) : Int) = 0 := rfl
        rw [z0] at hownc hown16c hownpc hbk11c B5 s6
        go_wp2_with (at_builtin; refine wpList_append_both rfl _ _ 32 rfl w3.heap.size 23 i0 (.agg #[.int .i64 0, .int .i64 0, .string ⟨#[]⟩]) 3 32 Try.underlying32 hi hz0 hz1 hz2 rfl (by decide) _ _ _ rfl hownc _ _ _ _ rfl hown16c (fcs_one _) (by unfold maxLen; omega) (by omega) (by omega) ?_)
        intro v' w6 hown6 hgrow
        have R1 : w6.ownsRow w3.heap.size 23 3 v' (fs ++ fs2).length (fcs (fs ++ fs2)) := by rw [fcs_append, List.length_append]; exact hown6
        have R2' := (hgrow.block (w2.heap.size + 1) (by omega) (fun e => by have := own_ge hownc _ e.symm; omega)).trans hbk11c
        have R3 := hownpc.kept hgrow (Or.inr (fun e => by have := own_ge hownc gp e.symm; omega))
        have R4 := Below.grown B5 hgrow (by omega) (fun j hj => by have := own_ge hownc j hj; omega)
        have R5 : w3.heap.size ≤ w6.heap.size := by have := hgrow.size; omega
        clear hown6 hgrow hownc hown16c hownpc hbk11c B5
        go_wp2_with fail
        go_roundw
        case rel => exact ⟨k + 1, fs ++ fs2, R2, by omega, by go_num, rfl, HN, R1, R2', R3, R4, R5⟩
        case measure => simp [intOf]; omega
      · have he0 : ((e2 : Int) == 0) = false := by simp; omega
        have HW : Hid ((want, rest, er) = (fs ++ fs2, R2, e2)) := by
          show _ = _
          rw [← HF.out, ← HJ.out, piece_over ls (k + 1) (by rw [HN.out]; exact he), HN.out]
        go_wp2_with (at_builtin; refine wpList_append_both rfl _ _ 32 rfl w3.heap.size 23 i0 (.agg #[.int .i64 0, .int .i64 0, .string ⟨#[]⟩]) 3 32 Try.underlying32 hi hz0 hz1 hz2 rfl (by decide) _ _ _ rfl hownc _ _ _ _ rfl hown16c (fcs_one _) (by unfold maxLen; omega) (by omega) (by omega) ?_)
        intro v' w6 hown6 hgrow
        have R1 : w6.ownsRow w3.heap.size 23 3 v' (fs ++ fs2).length (fcs (fs ++ fs2)) := by rw [fcs_append, List.length_append]; exact hown6
        have R2' := (hgrow.block (w2.heap.size + 1) (by omega) (fun e => by have := own_ge hownc _ e.symm; omega)).trans hbk11c
        have R4 := Below.grown B5 hgrow (by omega) (fun j hj => by have := own_ge hownc j hj; omega)
        have hgrow6 := hgrow.size
        clear hown6 hgrow hownc hown16c hownpc hbk11c B5
        have G1 : Frs w6 v' (fs ++ fs2) := frs_of_own R1 (by simp; omega)
        have R5 : w3.heap.size ≤ w6.heap.size := by have := hgrow6; omega
        have W0 : want = fs ++ fs2 := (Prod.ext_iff.1 HW.out).1
        have G2 : Frs w6 v9 (fs ++ fs2) := by
          have := F9.below R4 (by omega)
          rwa [W0] at this
        clear W0
        clear R1
        go_wp2_with fail
        refine (equal_true _ v' v9 (fs ++ fs2) G1 G2).mono ?_
        rintro e w7 ⟨rfl, hb7⟩
        have x0 : w7.heap[w2.heap.size + 1]? = _ := (hb7.block _ (by have := R4.size; omega)).trans R2'
        have x8 : w7.heap[w2.heap.size]? = _ := ((hb7.block _ (by have := R4.size; omega)).trans (R4.block _ (by omega))).trans hbk8
        have y0 : w7.cell? ⟨w2.heap.size + 1, 0, none⟩ = some (.string ⟨R2.toArray⟩) := block_cell x0 0
        have y1 : w7.cell? ⟨w2.heap.size + 1, 1, none⟩ = some (.int .i64 (e2 : Int)) := block_cell x0 1
        have y2 : w7.cell? ⟨w2.heap.size, 0, none⟩ = some (.string ⟨rest.toArray⟩) := block_cell x8 0
        have y3 : w7.cell? ⟨w2.heap.size, 1, none⟩ = some (.int .i64 (er : Int)) := block_cell x8 1
        have W1 : rest = R2 := (Prod.ext_iff.1 (Prod.ext_iff.1 HW.out).2).1
        have W2 : er = e2 := (Prod.ext_iff.1 (Prod.ext_iff.1 HW.out).2).2
        have HB : Below w.heap.size w w7 := (B8.trans (R4.mono (by have := B8.size; omega))).trans (hb7.mono (by have := R4.size; have := B8.size; omega))
        subst W1 W2
        clear x0 x8 R2' R4 G1 G2 hb7
        go_wp2_with fail
        go_ret
        exact ⟨rfl, HB⟩
    · have hkn : k = ls.length := by omega
      subst hkn
      have HW : Hid ((want, rest, er) = (fs, R, 0)) := by
        show _ = _
        rw [← HF.out, ← HJ.out, ← HK.out, List.take_of_length_le (Nat.le_refl _)]
      have G1 : Frs wr u12 fs := frs_of_own hown (by have := congrArg (fun x => x.1.length) HW.out; simp only at this; omega)
      have G2 : Frs wr v9 fs := by
        have := F9.below B3 (by omega)
        have W0 : want = fs := (Prod.ext_iff.1 HW.out).1
        rwa [W0] at this
      have W1 : rest = R := (Prod.ext_iff.1 (Prod.ext_iff.1 HW.out).2).1
      have W2 : er = 0 := (Prod.ext_iff.1 (Prod.ext_iff.1 HW.out).2).2
      go_wp2_with fail
      refine (equal_true _ _ v9 fs G1 G2).mono ?_
      rintro e w7 ⟨rfl, hb7⟩
      have x0 : w7.heap[w2.heap.size + 1]? = _ := (hb7.block _ (by omega)).trans hbk11
      have x8 : w7.heap[w2.heap.size]? = _ := ((hb7.block _ (by omega)).trans (B3.block _ (by omega))).trans hbk8
      have y0 : w7.cell? ⟨w2.heap.size + 1, 0, none⟩ = some (.string ⟨R.toArray⟩) := block_cell x0 0
      have y1 : w7.cell? ⟨w2.heap.size + 1, 1, none⟩ = some (.int .i64 0) := block_cell x0 1
      have y2 : w7.cell? ⟨w2.heap.size, 0, none⟩ = some (.string ⟨rest.toArray⟩) := block_cell x8 0
      have y3 : w7.cell? ⟨w2.heap.size, 1, none⟩ = some (.int .i64 (er : Int)) := block_cell x8 1
      have HB : Below w.heap.size w w7 := (B8.trans (B3.mono (by have := B8.size; omega))).trans (hb7.mono (by have := B8.size; omega))
      subst W1 W2
      clear x0 x8 hown hownp hbk11 G1 G2 hb7 B3
      go_wp2_with fail
      go_ret
      exact ⟨rfl, HB⟩

/-! ### What the walk gives, for every argument -/
set_option maxRecDepth 100000 in
theorem contract (H : Type) (enc : TypeId × Value → H) (W : World) (base : Nat) (args : Array Value) (ds gs : List (DataW H)) (before : List MemPlace)
    (hval : ∀ (j : Nat) t v, Try.f5.params[j]? = some t → args[j]? = some v → Value.okWide Try.prog W .any base t v)
    (hW : DataW.Whole enc Try.prog Try.f5.params.toList Rows.frameCutsSpec.vars false W args.toList ds gs before) (hk : Rows.uptoSmall H (ds ++ gs) = true) :
    Calls Try.prog 5 args W fun e W' => ∃ v, e = .returned v ∧ Rows.frameCutsSpec.post enc Try.prog Try.f5 false true false false W args v W' := by
  have hW' := hW
  obtain ⟨p, q, hA0, hV, rfl, hfz, hnd⟩ := hW
  have hA : DataW.TrodAll enc Try.prog W 0 (fun _ => true) true Try.f5.params.toList args.toList ds p := hA0
  rw [Try.params5] at hA hval
  obtain ⟨v0, vs0, d0, ds0, p0, q0, hargs, rfl, rfl, h0, r0⟩ := trodAll_cons hA
  obtain ⟨v1, vs1, d1, ds1, p1, q1, rfl, rfl, rfl, h1, r1⟩ := trodAll_cons r0
  obtain ⟨rfl, rfl, rfl⟩ := trodAll_nil r1
  obtain rfl : args = #[v0, v1] := by cases args; simp_all
  obtain ⟨rfl, rfl⟩ := trodVars_none hV
  obtain ⟨a0, rfl, rfl, rfl, w0⟩ := open_string Try.underlying9 (hval 0 9 v0 rfl rfl) h0
  have k1 := h1
  have lt1 : ∀ x ∈ p1, x.block < W.heap.size := by obtain ⟨m, hm⟩ := k1; exact DataW.trod_lt m _ _ _ hm
  obtain ⟨a1l, w1s, w1z⟩ := open_nums (hval 1 39 v1 rfl rfl) h1
  have hB := of_decide_eq_true hk
  simp only [List.append_nil, Rows.uptoBulkAll, Rows.uptoBulk] at hB
  have r0z : a0.size ≤ 1048576 := by have e : a0.data.toList.length = a0.size := by { rw [Array.length_toList]; rfl }; omega
  have r1z : a1l.length ≤ 1048576 := by omega
  clear hA0
  refine (walk a0 _ a1l W r0z w1s r1z).mono fun e W' ⟨he, bel⟩ => ?_
  subst he
  exact ⟨_, rfl, _, _, _, [], _, [], hW', trodAll_mk1 (shut_bool Try.underlying4 _), (trodAll_cons_mk (shut_string Try.underlying9 w0) (trodAll_cons_mk (Below.trod laidOut (by kernel_rfl) (of_decide_eq_true (by kernel_rfl)) k1 bel lt1) trodAll_mk0)), rfl, bel.frame _, fun h => by cases h⟩

/-! ### The row's step -/
set_option maxRecDepth 100000 in
theorem lifted (os : Os) (started : os.Started) (H : Type) (enc : TypeId × Value → H) (F : Stop.Interp) :
    ReturnsInHanded {} Try.checked os 5 .any ((Rows.OpenSpec.upto Rows.frameCutsSpec).pre6 enc Try.prog Try.f5 Rows.frameCutsUptoRow.domain false) (((Rows.OpenSpec.upto Rows.frameCutsSpec).at F).post enc Try.prog Try.f5 false true false false) := by
  refine returnsInHanded_of_cond (C := Try.checked) (s := Rows.OpenSpec.upto Rows.frameCutsSpec) (k := Rows.uptoSmall) rfl own started (by kernel_rfl) Try.func5
    (OpenSpec.witness (enc := enc) (C := Try.checked) (s := Rows.OpenSpec.upto Rows.frameCutsSpec) (k := Rows.uptoSmall) rfl false ⟨#[], #[.string .empty, .slice none 0 0], []⟩ 8 (by kernel_rfl) (by kernel_rfl) (by kernel_rfl)
      (x := ([.lit (.string []), .nil], [], [])) (by kernel_rfl) rfl (by kernel_rfl)) ?_
  intro W base args ds gs before hval hW _ hk _
  exact contract H enc W base args ds gs before hval hW hk

theorem over : Rows.frameCutsUptoRow.holds Try.pinned (Rows.OpenSpec.upto Rows.frameCutsSpec) :=
  OpenClaim.holds_of_cond 5 Try.f5 rfl rfl rfl rfl rfl rfl rfl ⟨rfl, rfl, rfl, rfl, rfl⟩ rfl rfl rfl rfl rfl (by kernel_rfl) Try.func5 (by kernel_rfl)
    (of_decide_eq_true (by kernel_rfl)) (by unfold Func.isWrapper; first | (rw [if_pos (by decide +kernel)]; kernel_rfl) | (rw [if_neg (by decide +kernel)]; exact ⟨rfl, rfl⟩))
    (fun os started H enc _ F => lifted os started H enc F)

end Go.Proofs.Ytnheaafepejaoaa.frameCuts
namespace Go.Proofs.Ytnheaafepejaoaa
/-- The given statement. -/
theorem frameCuts_upto : Rows.FrameCutsUptoSaid := frameCuts.over
#print axioms frameCuts_upto
end Go.Proofs.Ytnheaafepejaoaa
