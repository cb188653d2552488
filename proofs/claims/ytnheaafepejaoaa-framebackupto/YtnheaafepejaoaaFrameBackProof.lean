/-
  Whatever frames and cuts are handed in (together of bulk at most 1048576), the call of pushkeep.FrameBack returns true: frames that are written are told, in order, and nothing is left. Conditions: the bulk of the arguments.
-/
import Derived.Test.YtnheaafepejaoaaRows
import Derived.WalkKit
import Derived.ProofKit
import Derived.OpenShut
import Derived.ShutString
import Derived.SizedLaws
import Derived.ChangeOld
import Derived.Below
import Derived.Carry
import Derived.WalkLawsBesides
import Derived.WalkSpells
import Derived.Test.YtnheaafepejaoaaOpens
import Derived.JoinedCond
import Derived.Test.YtnheaafepejaoaaAppends
namespace Go.Proofs.Ytnheaafepejaoaa.frameBack
open Go.ChangeShapes Go.WideShapes Go.ChangeAt Go.RowKit
open Go.ChangeMaps (open_string shut_string)
open Frm
set_option linter.unusedVariables false

theorem own : ownKnob Try.prog.godebug = none := by kernel_rfl
theorem laidOut : laidOutB Try.prog = true := by kernel_rfl
/-- The frames that can be written. -/
def goods (fs : List Fr) : List Fr := fs.filter (fun f => decide (chk f = 0))
theorem goods_append (a b : List Fr) : goods (a ++ b) = goods a ++ goods b := by simp [goods]
theorem goods_one (f : Fr) (h : chk f = 0) : goods [f] = [f] := by simp [goods, h]
theorem goods_none (f : Fr) (h : chk f ≠ 0) : goods [f] = [] := by simp [goods, h]
theorem goods_ok (fs : List Fr) : ∀ f ∈ goods fs, chk f = 0 := by
  intro f hf
  simp only [goods, List.mem_filter, decide_eq_true_eq] at hf
  exact hf.2

/-! ### The walk: the Go text returns true. -/
set_option maxHeartbeats 3200000 in
set_option maxRecDepth 20000 in
theorem walk (v0 : Value) (a0l : List Frm.Fr) (v1 : Value) (a1l : List Int) (w : World) (w0s : Frs w v0 a0l) (w0z : a0l.length ≤ 1048576) (w1s : Ints w v1 a1l) (w1z : a1l.length ≤ 1048576) :
    Calls Try.prog 6 #[v0, v1] w fun e w' => e = .returned (.bool true) ∧ Below w.heap.size w w' := by
  obtain ⟨i0, hi, hz0, hz1, hz2⟩ := info_parts info23
  obtain ⟨ao, cap, rfl, hm, hfs⟩ := w0s
  go_enter Try.func6, Try.ntmps6
  go_wp2_with fail
  go_loopw [21, 5, 6] (fun i t v wr => ∃ (k : Nat) (T : ByteArray), k ≤ a0l.length ∧ i = .int .i64 (k : Int) ∧ t = .string T ∧ Hid (T.data.toList = wires (goods (a0l.take k))) ∧ T.size ≤ 1032 * k ∧ (goods (a0l.take k)).length ≤ k ∧ wr.ownsRow w.heap.size 23 3 v (goods (a0l.take k)).length (fcs (goods (a0l.take k))) ∧ Below w.heap.size w wr) (fun i _ _ _ => a0l.length - (intOf i).toNat)
  case atStart => exact ⟨0, ⟨#[]⟩, by omega, rfl, rfl, by show _ = _; rfl, by simp [ByteArray.size], by simp [goods], World.ownsRow_nil _ _ _ _, Below.refl _ _⟩
  case round =>
    obtain ⟨k, T, hk, rfl, rfl, HT, hTs, hgl, hown, hbel⟩ := hrel
    have hsb := hbel.size
    by_cases hlt : k < a0l.length
    · have hne : a0l ≠ [] := by intro e; subst e; simp at hlt
      obtain ⟨b, o, rfl, hb, hc⟩ := hfs.resolve_left hne
      obtain ⟨x0, x1, x2⟩ := hc k hlt
      have HG : Hid (goods (a0l.take (k + 1)) = goods (a0l.take k) ++ goods [a0l[k]]) := by show _ = _; rw [List.take_succ_eq_append_getElem hlt, goods_append]
      generalize a0l[k] = f at x0 x1 x2 HG
      obtain ⟨kk, wh, bd⟩ := f
      simp only at x0 x1 x2
      have c0 : wr.cell? ⟨b, o + k * 3, none⟩ = some (.int .i64 kk) := (hbel.cell (p := ⟨b, o + k * 3, none⟩) hb).trans x0
      have c1 : wr.cell? ⟨b, o + k * 3 + 1, none⟩ = some (.int .i64 wh) := (hbel.cell (p := ⟨b, o + k * 3 + 1, none⟩) hb).trans x1
      have c2 : wr.cell? ⟨b, o + k * 3 + 2, none⟩ = some (.string bd) := (hbel.cell (p := ⟨b, o + k * 3 + 2, none⟩) hb).trans x2
      have hk0 : (0 : Int) ≤ (k : Int) := by omega
      have hk1 : (k : Int) < (a0l.length : Int) := by omega
      clear x0 x1 x2 hc hfs
      go_wp2_with fail
      refine (write_parts kk wh bd _).mono ?_
      rintro e w1 ⟨rfl, hb1⟩
      have s1 := hb1.size
      rw [World.size_alloc] at s1
      have y0 : w1.cell? ⟨wr.heap.size, 0, none⟩ = some (.int .i64 kk) := by rw [hb1.cell (by simp)]; simp
      have y1 : w1.cell? ⟨wr.heap.size, 1, none⟩ = some (.int .i64 wh) := by rw [hb1.cell (by simp)]; simp
      have y2 : w1.cell? ⟨wr.heap.size, 2, none⟩ = some (.string bd) := by rw [hb1.cell (by simp)]; simp
      have B1 : Below w.heap.size w w1 := (hbel.alloc hsb _).trans (hb1.mono (by simp; omega))
      have O1 := own_below (hown.alloc _) hb1 (Nat.le_refl _)
      clear hb1 hbel hown c0 c1 c2
      go_wp2_with fail
      refine (check_parts kk wh bd _).mono ?_
      rintro e w2 ⟨rfl, hb2⟩
      have s2 := hb2.size
      have z0 : w2.cell? ⟨wr.heap.size, 0, none⟩ = some (.int .i64 kk) := by rw [hb2.cell (by show wr.heap.size < _; omega)]; exact y0
      have z1 : w2.cell? ⟨wr.heap.size, 1, none⟩ = some (.int .i64 wh) := by rw [hb2.cell (by show wr.heap.size < _; omega)]; exact y1
      have z2 : w2.cell? ⟨wr.heap.size, 2, none⟩ = some (.string bd) := by rw [hb2.cell (by show wr.heap.size < _; omega)]; exact y2
      have B2 : Below w.heap.size w w2 := B1.trans (hb2.mono (by omega))
      have O2 := own_below O1 hb2 (Nat.le_refl _)
      clear hb2 B1 O1 y0 y1 y2
      by_cases h : chk ⟨kk, wh, bd⟩ = 0
      · rw [h, out_good _ h]
        have hl := wire_length ⟨kk, wh, bd⟩
        obtain ⟨_, _, _, _, h5⟩ := chk_ok ⟨kk, wh, bd⟩ h
        simp only at h5 hl
        have hadd : T.size + (ByteArray.mk (wire ⟨kk, wh, bd⟩).toArray).size ≤ 9223372036854775807 := by rw [size_mk (wire ⟨kk, wh, bd⟩)]; omega
        have HG2 : Hid (goods (a0l.take (k + 1)) = goods (a0l.take k) ++ [⟨kk, wh, bd⟩]) := by show _ = _; rw [HG.out, goods_one _ h]
        have HT2 : Hid ((T ++ ByteArray.mk (wire ⟨kk, wh, bd⟩).toArray).data.toList = wires (goods (a0l.take (k + 1)))) := by
          show _ = _
          rw [HG2.out, wires_snoc, ← HT.out]
          simp
        go_wp2_with (at_builtin; refine wpList_append_own _ rfl _ _ 32 rfl w.heap.size 23 i0 (.agg #[.int .i64 0, .int .i64 0, .string ⟨#[]⟩]) 3 32 Try.underlying32 hi hz0 hz1 hz2 rfl (by decide) _ _ _ rfl (O2.alloc _) ⟨w2.heap.size, 0, none⟩ 1 1 [.int .i64 kk, .int .i64 wh, .string bd] rfl rfl (World.news_of_block (t := 23) (fr := (0, 0)) (heap_alloc_new w2 _)) (by simp [Value.oneCell']) (by unfold maxLen; omega) (by omega) (by simp; omega) ?_)
        intro v' w4 hown' hgrow _
        have R1 : w4.ownsRow w.heap.size 23 3 v' (goods (a0l.take (k + 1))).length (fcs (goods (a0l.take (k + 1)))) := by rw [HG2.out, fcs_one_snoc, List.length_append]; exact hown'
        have R2 : Below w.heap.size w w4 := Below.grown (B2.alloc (by omega) _) hgrow (by simp; omega) (own_ge O2)
        clear hown' hgrow O2 B2 z0 z1 z2 HT
        go_wp2_with fail
        go_roundw
        case rel => exact ⟨k + 1, _, by omega, by go_num, rfl, HT2, by rw [ByteArray.size_append, size_mk (wire ⟨kk, wh, bd⟩)]; omega, by rw [HG2.out, List.length_append]; simp; omega, R1, R2⟩
        case measure => simp [intOf]; omega
      · rw [out_bad _ h]
        have hb : (((chk ⟨kk, wh, bd⟩ : Nat) : Int) == 0) = false := by simp; omega
        have HG2 : Hid (goods (a0l.take (k + 1)) = goods (a0l.take k)) := by show _ = _; rw [HG.out, goods_none _ h, List.append_nil]
        go_wp2_with fail
        go_roundw
        case rel => exact ⟨k + 1, T, by omega, by go_num, rfl, by show _ = _; rw [HG2.out]; exact HT.out, by omega, by rw [HG2.out]; omega, by rw [HG2.out]; exact O2, B2⟩
        case measure => simp [intOf]; omega
    · have hkn : k = a0l.length := by omega
      subst hkn
      rw [List.take_of_length_le (Nat.le_refl _)] at HT hgl hown
      obtain ⟨gs, HGS⟩ : ∃ gs, Hid (gs = goods a0l) := ⟨_, rfl⟩
      have HOK : Hid (∀ f ∈ gs, chk f = 0) := by show ∀ f ∈ gs, chk f = 0; rw [HGS.out]; exact goods_ok a0l
      rw [← HGS.out] at HT hgl hown
      have F6 : Frs wr u6 gs := frs_of_own hown (by omega)
      clear hown
      have e3 := out_good ⟨3, 0, ⟨#[]⟩⟩ (by decide)
      have hl3 := wire_length ⟨3, 0, ⟨#[]⟩⟩
      obtain ⟨S3, HS3, hS3⟩ : ∃ S3 : ByteArray, Hid (S3 = ⟨(wire ⟨3, 0, ⟨#[]⟩⟩).toArray⟩) ∧ S3.size = 8 := ⟨_, rfl, by rw [size_mk, hl3]; rfl⟩
      clear hl3
      go_wp2_with fail
      refine (write_parts 3 0 ⟨#[]⟩ _).mono ?_
      rintro e w2 ⟨rfl, hb2⟩
      rw [e3, show chk ⟨3, 0, ⟨#[]⟩⟩ = 0 by decide, ← HS3.out]
      clear e3
      have s2 := hb2.size
      have B2 : Below w.heap.size w w2 := hbel.trans (hb2.mono (by omega))
      have F6b : Frs w2 u6 gs := F6.below hb2 (Nat.le_refl _)
      have HI : Ints w2 v1 a1l := w1s.below B2 (Nat.le_refl _)
      have HI2 := HI.below ((Below.refl w2.heap.size w2).alloc (Nat.le_refl _) (Obj.cells #[.string ⟨#[]⟩, .int .i64 0] 31)) (Nat.le_refl _)
      clear hb2 hbel F6 HI
      go_wp2_with fail
      refine (pieces_any T v1 a1l _ HI2 (by omega) (by omega)).mono ?_
      rintro e w3 ⟨pv, ls, rfl, hll, HJ0, hownp, hb3⟩
      have HFF : Hid (ff (joined ls) = (gs, [], 0)) := by
        show _ = _
        rw [HJ0.out, HT.out]
        have := ff_wires gs HOK.out []
        rw [List.append_nil] at this
        rw [this, ff_wait [] (by decide) (by decide)]
        simp [Frm.ahead]
      have hJl : (joined ls).length ≤ 1032 * a0l.length := by rw [HJ0.out, len_list]; exact hTs
      have s3 := hb3.size
      rw [World.size_alloc] at s3 hownp
      obtain ⟨gp, cp, rfl, hgp0, hgp1⟩ := hownp.form (by omega)
      have B3 : Below w2.heap.size w2 w3 := ((Below.refl _ _).alloc (Nat.le_refl _) _).trans (hb3.mono (by simp))
      have hbk13 : w3.heap[w2.heap.size]? = some (Obj.cells #[.string ⟨#[]⟩, .int .i64 0] 31 (0, 0)) := (hb3.block _ (by simp)).trans (heap_alloc_new w2 _)
      clear hb3 HI2 HJ0 HT
      go_wp2_with fail
      go_loopw [60, 14] (fun i v wr => ∃ (k : Nat) (fs : List Fr) (R : List UInt8), k ≤ ls.length ∧ i = .int .i64 (k : Int) ∧ Hid (ff (joined (ls.take k)) = (fs, R, 0)) ∧ wr.ownsRow w3.heap.size 23 3 v fs.length (fcs fs) ∧ wr.heap[w2.heap.size]? = some (.cells #[.string ⟨R.toArray⟩, .int .i64 0] 31 (0, 0)) ∧ wr.ownsRow (w2.heap.size + 1) 9 1 (.slice (some ⟨gp, 0, none⟩) ls.length cp) ls.length (ls.map Value.string) ∧ Below w2.heap.size w2 wr ∧ w3.heap.size ≤ wr.heap.size) (fun i _ _ => ls.length - (intOf i).toNat)
      case atStart => exact ⟨0, [], [], by omega, rfl, by show _ = _; exact ff_wait [] (by decide) (by decide), World.ownsRow_nil _ _ _ _, hbk13, hownp, B3, Nat.le_refl _⟩
      case round =>
        clear hbk13 hownp B3
        obtain ⟨k, fs, R, hk, rfl, HK, hown, hbk13, hownp, B3, s4⟩ := hrel
        by_cases hlt : k < ls.length
        · obtain ⟨p, HP⟩ : ∃ p, Hid (p = ls.getD k ByteArray.empty) := ⟨_, rfl⟩
          have hps := piece_size ls k hlt fs R HK.out
          rw [← HP.out] at hps
          have cp0 : wr.cell? ⟨gp, k, none⟩ = some (.string p) := by
            have := hownp.cells (g := gp) rfl k (.string p) (by rw [HP.out]; simp [List.getD, List.getElem?_eq_getElem hlt])
            rwa [Go.WideShapes.add_plain, Nat.zero_add] at this
          have c0 : wr.cell? ⟨w2.heap.size, 0, none⟩ = some (.string ⟨R.toArray⟩) := block_cell hbk13 0
          have c1 : wr.cell? ⟨w2.heap.size, 1, none⟩ = some (.int .i64 0) := block_cell hbk13 1
          have k0 : (0 : Int) ≤ (k : Int) := by omega
          have k1 : (k : Int) < (ls.length : Int) := by omega
          obtain ⟨fs2, R2, e2, HN0⟩ : ∃ fs2 R2 e2, Hid (ff (R ++ p.data.toList) = (fs2, R2, e2)) := ⟨_, _, _, rfl⟩
          have HN : Hid (ff (joined (ls.take (k + 1))) = (fs ++ fs2, R2, e2)) := by
            show _ = _
            rw [piece_next ls k hlt fs R HK.out, ← HP.out, HN0.out]
            rfl
          have he : e2 = 0 := by
            rcases Nat.eq_zero_or_pos e2 with h | h
            · exact h
            · exfalso
              have h1 := piece_over ls (k + 1) (by rw [HN.out]; show e2 ≠ 0; omega)
              rw [HFF.out, HN.out] at h1
              have h2 := congrArg (fun x => x.2.2) h1
              simp only at h2
              omega
          subst he
          have hsum : 8 * (fs.length + fs2.length) ≤ 1032 * a0l.length := by
            have h1 := ff_size _ (joined (ls.take (k + 1))) (Nat.le_refl _)
            rw [HN.out] at h1
            have h2 := congrArg List.length (joined_rest ls (k + 1))
            rw [List.length_append] at h2
            simp only [List.length_append] at h1
            omega
          go_wp2_with fail
          refine (feed_live ⟨R.toArray⟩ p (by rw [size_mk]; omega) _).mono ?_
          rintro e w4 ⟨v16, rfl, hown16, hb4⟩
          rw [show (ByteArray.mk R.toArray).data.toList ++ p.data.toList = R ++ p.data.toList from rfl, HN0.out] at hown16 ⊢
          simp only at hown16 ⊢
          have s5 := hb4.size
          have hbk13b : w4.heap[w2.heap.size]? = _ := (hb4.block _ (by omega)).trans hbk13
          have hownb := own_below hown hb4 (Nat.le_refl _)
          have hownpb := own_below hownp hb4 (Nat.le_refl _)
          have B4 : Below w2.heap.size w2 w4 := B3.trans (hb4.mono (by omega))
          have d0 : w4.cell? ⟨w2.heap.size, 0, none⟩ = some (.string ⟨R.toArray⟩) := block_cell hbk13b 0
          have d1 : w4.cell? ⟨w2.heap.size, 1, none⟩ = some (.int .i64 0) := block_cell hbk13b 1
          have f0 := block_free hbk13b 0
          have f1 := block_free hbk13b 1
          clear hb4 hown hownp B3 hbk13 c0 c1 cp0
          have hbk13c := cell_two hbk13b (.string ⟨R2.toArray⟩) (.int .i64 0)
          have hownc := ownsRow_setCell_below (ownsRow_setCell_below hownb (a := ⟨w2.heap.size, 0, none⟩) (by show w2.heap.size < w3.heap.size; omega) (.string ⟨R2.toArray⟩)) (a := ⟨w2.heap.size, 1, none⟩) (by show w2.heap.size < w3.heap.size; omega) (.int .i64 0)
          have hown16c := ownsRow_setCell_below (ownsRow_setCell_below hown16 (a := ⟨w2.heap.size, 0, none⟩) (by show w2.heap.size < wr.heap.size; omega) (.string ⟨R2.toArray⟩)) (a := ⟨w2.heap.size, 1, none⟩) (by show w2.heap.size < wr.heap.size; omega) (.int .i64 0)
          have hownpc := ownsRow_setCell_below (ownsRow_setCell_below hownpb (a := ⟨w2.heap.size, 0, none⟩) (by show w2.heap.size < w2.heap.size + 1; omega) (.string ⟨R2.toArray⟩)) (a := ⟨w2.heap.size, 1, none⟩) (by show w2.heap.size < w2.heap.size + 1; omega) (.int .i64 0)
          have B5 := (B4.setCell (p := ⟨w2.heap.size, 0, none⟩) (Nat.le_refl _) (.string ⟨R2.toArray⟩)).setCell (p := ⟨w2.heap.size, 1, none⟩) (Nat.le_refl _) (.int .i64 0)
          have s6 : ((w4.setCell ⟨w2.heap.size, 0, none⟩ (.string ⟨R2.toArray⟩)).setCell ⟨w2.heap.size, 1, none⟩ (.int .i64 0)).heap.size = w4.heap.size := by simp
          clear hbk13b hownb hownpb hown16 B4
          go_wp2_with (at_builtin; refine wpList_append_both rfl _ _ 32 rfl w3.heap.size 23 i0 (.agg #[.int .i64 0, .int .i64 0, .string ⟨#[]⟩]) 3 32 Try.underlying32 hi hz0 hz1 hz2 rfl (by decide) _ _ _ rfl hownc _ _ _ _ rfl hown16c (fcs_one _) (by unfold maxLen; omega) (by omega) (by omega) ?_)
          intro v' w6 hown6 hgrow
          have R1 : w6.ownsRow w3.heap.size 23 3 v' (fs ++ fs2).length (fcs (fs ++ fs2)) := by rw [fcs_append, List.length_append]; exact hown6
          have R2' := (hgrow.block w2.heap.size (by omega) (fun e => by have := own_ge hownc _ e.symm; omega)).trans hbk13c
          have R3 := hownpc.kept hgrow (Or.inr (fun e => by have := own_ge hownc gp e.symm; omega))
          have R4 := Below.grown B5 hgrow (by omega) (fun j hj => by have := own_ge hownc j hj; omega)
          have R5 : w3.heap.size ≤ w6.heap.size := by have := hgrow.size; omega
          clear hown6 hgrow hownc hown16c hownpc hbk13c B5
          go_wp2_with fail
          go_roundw
          case rel => exact ⟨k + 1, fs ++ fs2, R2, by omega, by go_num, HN, R1, R2', R3, R4, R5⟩
          case measure => simp [intOf]; omega
        · have hkn : k = ls.length := by omega
          subst hkn
          have HW : (gs, ([] : List UInt8), 0) = (fs, R, 0) := by
            rw [← HFF.out, ← HK.out, List.take_of_length_le (Nat.le_refl _)]
          have W0 : gs = fs := (Prod.ext_iff.1 HW).1
          have W1 : [] = R := (Prod.ext_iff.1 (Prod.ext_iff.1 HW).2).1
          clear HW
          subst W0 W1
          have G1 : Frs wr u14 gs := frs_of_own hown (by omega)
          have G2 : Frs wr u6 gs := F6b.below B3 (Nat.le_refl _)
          clear hown hownp
          go_wp2_with fail
          refine (equal_true _ _ u6 gs G1 G2).mono ?_
          rintro e w7 ⟨rfl, hb7⟩
          have x0 : w7.heap[w2.heap.size]? = _ := (hb7.block _ (by omega)).trans hbk13
          have y0 : w7.cell? ⟨w2.heap.size, 0, none⟩ = some (.string ⟨#[]⟩) := block_cell x0 0
          have y1 : w7.cell? ⟨w2.heap.size, 1, none⟩ = some (.int .i64 0) := block_cell x0 1
          have HB : Below w.heap.size w w7 := (B2.trans (B3.mono B2.size)).trans (hb7.mono (by have := B2.size; omega))
          clear x0 hbk13 G1 G2 hb7 B3
          go_wp2_with fail
          go_ret
          exact ⟨rfl, HB⟩

/-! ### What the walk gives, for every argument -/
set_option maxRecDepth 100000 in
theorem contract (H : Type) (enc : TypeId × Value → H) (W : World) (base : Nat) (args : Array Value) (ds gs : List (DataW H)) (before : List MemPlace)
    (hval : ∀ (j : Nat) t v, Try.f6.params[j]? = some t → args[j]? = some v → Value.okWide Try.prog W .any base t v)
    (hW : DataW.Whole enc Try.prog Try.f6.params.toList Rows.frameBackSpec.vars false W args.toList ds gs before) (hk : Rows.uptoSmall H (ds ++ gs) = true) :
    Calls Try.prog 6 args W fun e W' => ∃ v, e = .returned v ∧ Rows.frameBackSpec.post enc Try.prog Try.f6 false true false false W args v W' := by
  have hW' := hW
  obtain ⟨p, q, hA0, hV, rfl, hfz, hnd⟩ := hW
  have hA : DataW.TrodAll enc Try.prog W 0 (fun _ => true) true Try.f6.params.toList args.toList ds p := hA0
  rw [Try.params6] at hA hval
  obtain ⟨v0, vs0, d0, ds0, p0, q0, hargs, rfl, rfl, h0, r0⟩ := trodAll_cons hA
  obtain ⟨v1, vs1, d1, ds1, p1, q1, rfl, rfl, rfl, h1, r1⟩ := trodAll_cons r0
  obtain ⟨rfl, rfl, rfl⟩ := trodAll_nil r1
  obtain rfl : args = #[v0, v1] := by cases args; simp_all
  obtain ⟨rfl, rfl⟩ := trodVars_none hV
  have k0 := h0
  have lt0 : ∀ x ∈ p0, x.block < W.heap.size := by obtain ⟨m, hm⟩ := k0; exact DataW.trod_lt m _ _ _ hm
  obtain ⟨a0l, w0s, w0z⟩ := open_frs (hval 0 32 v0 rfl rfl) h0
  have k1 := h1
  have lt1 : ∀ x ∈ p1, x.block < W.heap.size := by obtain ⟨m, hm⟩ := k1; exact DataW.trod_lt m _ _ _ hm
  obtain ⟨a1l, w1s, w1z⟩ := open_nums (hval 1 39 v1 rfl rfl) h1
  have hB := of_decide_eq_true hk
  simp only [List.append_nil, Rows.uptoBulkAll] at hB
  have r0z : a0l.length ≤ 1048576 := by omega
  have r1z : a1l.length ≤ 1048576 := by omega
  clear hA0
  refine (walk _ a0l _ a1l W w0s r0z w1s r1z).mono fun e W' ⟨he, bel⟩ => ?_
  subst he
  exact ⟨_, rfl, _, _, _, [], _, [], hW', trodAll_mk1 (shut_bool Try.underlying4 _), (trodAll_cons_mk (Below.trod laidOut (by kernel_rfl) (of_decide_eq_true (by kernel_rfl)) k0 bel lt0) (trodAll_cons_mk (Below.trod laidOut (by kernel_rfl) (of_decide_eq_true (by kernel_rfl)) k1 bel lt1) trodAll_mk0)), rfl, bel.frame _, fun h => by cases h⟩

/-! ### The row's step -/
set_option maxRecDepth 100000 in
theorem lifted (os : Os) (started : os.Started) (H : Type) (enc : TypeId × Value → H) (F : Stop.Interp) :
    ReturnsInHanded {} Try.checked os 6 .any ((Rows.OpenSpec.upto Rows.frameBackSpec).pre6 enc Try.prog Try.f6 Rows.frameBackUptoRow.domain false) (((Rows.OpenSpec.upto Rows.frameBackSpec).at F).post enc Try.prog Try.f6 false true false false) := by
  refine returnsInHanded_of_cond (C := Try.checked) (s := Rows.OpenSpec.upto Rows.frameBackSpec) (k := Rows.uptoSmall) rfl own started (by kernel_rfl) Try.func6
    (OpenSpec.witness (enc := enc) (C := Try.checked) (s := Rows.OpenSpec.upto Rows.frameBackSpec) (k := Rows.uptoSmall) rfl false ⟨#[], #[.slice none 0 0, .slice none 0 0], []⟩ 8 (by kernel_rfl) (by kernel_rfl) (by kernel_rfl)
      (x := ([.nil, .nil], [], [])) (by kernel_rfl) rfl (by kernel_rfl)) ?_
  intro W base args ds gs before hval hW _ hk _
  exact contract H enc W base args ds gs before hval hW hk

theorem over : Rows.frameBackUptoRow.holds Try.pinned (Rows.OpenSpec.upto Rows.frameBackSpec) :=
  OpenClaim.holds_of_cond 6 Try.f6 rfl rfl rfl rfl rfl rfl rfl ⟨rfl, rfl, rfl, rfl, rfl⟩ rfl rfl rfl rfl rfl (by kernel_rfl) Try.func6 (by kernel_rfl)
    (of_decide_eq_true (by kernel_rfl)) (by unfold Func.isWrapper; first | (rw [if_pos (by decide +kernel)]; kernel_rfl) | (rw [if_neg (by decide +kernel)]; exact ⟨rfl, rfl⟩))
    (fun os started H enc _ F => lifted os started H enc F)

end Go.Proofs.Ytnheaafepejaoaa.frameBack
namespace Go.Proofs.Ytnheaafepejaoaa
/-- The given statement. -/
theorem frameBack_upto : Rows.FrameBackUptoSaid := frameBack.over
#print axioms frameBack_upto
end Go.Proofs.Ytnheaafepejaoaa
