/-
  The contract of ll.Make.
-/
import Derived.Test.YtpbnnmfjahckmaaLlHold
namespace Go.Proofs.Ytpbnnmfjahckmaa
open Go.RowKit
open Cg

theorem info_parts39 : ∃ i, Try.prog.info? 139 = some i ∧ i.zero = some (.agg #[.int .i64 0, .int .i64 0, .int .i64 0, .int .i64 0]) ∧ i.size = 4 ∧ i.bytes = 32 := by
  have h := info139
  cases e : Try.prog.info? 139 with
  | none => rw [e] at h; cases h
  | some i => rw [e] at h; simp at h; exact ⟨i, rfl, h.1, h.2.1, h.2.2⟩
/-- What Make leaves. -/
def LO (w : World) (T n : Nat) (ps : List Pd) (av cv : Value) (w' : World) : Prop := Below w.heap.size w w' ∧ ∃ S, TK ps S ∧ Rws w' av (rowsL ps S T n) ∧ Cls w' cv (clsN ps S T n)
/-- The clashes so far. -/
def clsF (ps : List Pd) (S : Nat → Wd) (T k col j : Nat) : List Cl := (clsN ps S T k ++ clsR ps S T k col) ++ (clsC ps S T k col).take j
theorem clsF_zero (ps : List Pd) (S : Nat → Wd) (T k col : Nat) : clsF ps S T k col 0 = clsN ps S T k ++ clsR ps S T k col := by simp [clsF]
theorem clsF_next (ps : List Pd) (S : Nat → Wd) (T k col j : Nat) (hj : j < (mayL ps S T k col).tail.length) : clsF ps S T k col (j + 1) = clsF ps S T k col j ++ [((k : Int), (col : Int), rowA ps S T k col, (mayL ps S T k col).tail[j])] := by
  have h2 : j < (clsC ps S T k col).length := by unfold clsC; rw [List.length_map]; exact hj
  unfold clsF
  rw [List.take_succ_eq_append_getElem h2, ← List.append_assoc]
  congr 2
  simp [clsC, rowA]
theorem clsF_end (ps : List Pd) (S : Nat → Wd) (T k col j : Nat) (hj : (mayL ps S T k col).tail.length ≤ j) : clsF ps S T k col j = clsN ps S T k ++ clsR ps S T k (col + 1) := by
  have h2 : (clsC ps S T k col).length ≤ j := by unfold clsC; rw [List.length_map]; exact hj
  unfold clsF
  rw [List.take_of_length_le h2, List.append_assoc]; rfl
theorem clsF_few {ps : List Pd} {S : Nat → Wd} {T k col : Nat} (hp : ps.length ≤ 40) (hT : T ≤ 30) (hn : k ≤ 20) (hc : col ≤ T) (j : Nat) : (clsF ps S T k col j).length ≤ 40000 := by
  unfold clsF
  rw [List.length_append, List.length_take]
  have h1 := cls_few (S := S) (T := T) (non := k) hp hT hn col (by omega)
  have h2 := clsC_le ps S T k col
  omega
set_option maxHeartbeats 3200000 in
set_option maxRecDepth 20000 in
theorem Make_bad (t n : Int) (pv : Value) (ps : List Pd) (w : World) (hp : Pds w pv ps) (hk : chk t n ps ≠ 0) :
    Calls Try.prog 43 #[.agg #[.int .i64 t, .int .i64 n, pv]] w fun e w' => e = .returned (.tuple #[.slice none 0 0, .slice none 0 0, .int .i64 (chk t n ps)]) ∧ Below w.heap.size w w' := by
  have HGB := Gb.box hp t n
  obtain ⟨ao, c, rfl, hm, -⟩ := hp
  have HG0 : Hid (Gb w w.heap.size t n (.slice ao ps.length c) ps (w.alloc (Obj.cells #[.int .i64 t, .int .i64 n, .slice ao ps.length c] 24))) := HGB
  clear HGB
  have hcall := takenAt_bad t n _ ps _ HG0.out.pds hk
  obtain ⟨r, HR⟩ : ∃ r, Hid (chk t n ps = r) := ⟨_, (rfl : chk t n ps = chk t n ps)⟩
  rw [HR.out] at hcall hk ⊢
  have b0 : (r != 0) = true := by simpa using hk
  clear hk
  go_enter Try.func43, Try.ntmps43
  go_wp2_with fail
  refine hcall.mono ?_
  rintro _ w1 ⟨rfl, hb1⟩
  have HB1 : Hid (Below w.heap.size w w1) := HG0.out.below.trans (hb1.mono HG0.out.below.size)
  clear hb1 hcall HG0
  go_wp2_with fail
  go_ret3
  exact ⟨by simp, HB1.out⟩
set_option maxHeartbeats 6400000 in
set_option maxRecDepth 20000 in
theorem Make_ok (T n : Nat) (pv : Value) (ps : List Pd) (w : World) (hp : Pds w pv ps) (hk : chk (T : Int) (n : Int) ps = 0) :
    Calls Try.prog 43 #[.agg #[.int .i64 (T : Int), .int .i64 (n : Int), pv]] w fun e w' => ∃ ra rn rc vo vn vc, e = .returned (.tuple #[.slice ra rn rc, .slice vo vn vc, .int .i64 0]) ∧ LO w T n ps (.slice ra rn rc) (.slice vo vn vc) w' := by
  obtain ⟨i0, hi, hz0, hz1, hz2⟩ := info_parts39
  have HP : Hid (Pds w pv ps) := hp
  have HGB := Gb.box hp (T : Int) (n : Int)
  obtain ⟨ao, c, rfl, hm, -⟩ := hp
  have HG0 : Hid (Gb w w.heap.size (T : Int) (n : Int) (.slice ao ps.length c) ps (w.alloc (Obj.cells #[.int .i64 (T : Int), .int .i64 (n : Int), (.slice ao ps.length c)] 24))) := HGB
  have HRG : Hid (Rg (T : Int) n ps) := rg_of hk
  have HT : Hid (T ≤ 30 ∧ n ≤ 20 ∧ ps.length ≤ 40) := ⟨by have := HRG.out.t2; omega, HRG.out.n2, HRG.out.ln⟩
  have hcall := takenAt_ok (T : Int) n _ ps _ HG0.out.pds hk
  have hmk := run_make_row' (P := Try.prog) 26 29 (.slice none 0 0) 24 Try.underlying26 info29 rfl .i64 .i64 n (by have := HT.out; omega) (by have := HT.out; omega)
  clear HGB hk
  go_enter Try.func43, Try.ntmps43
  go_wp2_with fail
  refine hcall.mono ?_
  rintro _ w1 ⟨bs, S, rfl, hb1, hbs, hrs, htk⟩
  have HTK : Hid (TK ps S) := htk
  have hg1 := HG0.out.next hb1
  have hbm := below_alloc w1 (Obj.cells (madeCells #[Value.slice none 0 0] n) 29)
  have hmr := World.rowIs_made w1 (.slice none 0 0) n 29
  have HLM0 : Hid (LM w T n (.slice ao ps.length c) ps bs S w1.heap.size 0 (fun _ => 0) (Ap (rowA ps S T) 0 0) (.slice none 0 0) [] (w1.alloc (Obj.cells (madeCells #[Value.slice none 0 0] n) 29))) :=
    ⟨hg1.next hbm, hrs.next hbm, hmr.congr fun i _ => by rw [if_neg (by omega)], fun i hi => by omega, fun i hi => by omega, fun i j hi => by omega, ⟨hg1.lt, by simp at hbs; omega⟩, World.ownsRow_nil _ _ _ _, HP.out⟩
  have k1 := hg1.c1
  clear hb1 hcall HG0 hg1 hbm hmr hrs hbs htk
  go_upto_region 6 with (fail)
  obtain ⟨br, HBR⟩ : ∃ br, Hid (w1.heap.size = br) := ⟨_, (rfl : w1.heap.size = w1.heap.size)⟩
  obtain ⟨w3, HW3⟩ : ∃ w3, Hid (w1.alloc (Obj.cells (madeCells #[Value.slice none 0 0] n) 29) = w3) := ⟨_, (rfl : _ = _)⟩
  rw [HBR.out, HW3.out] at HLM0
  rw [HBR.out, HW3.out]
  clear HBR HW3 hmk k1
  go_wp2_with fail
  go_loopw [8, 28] (fun cs i wr => ∃ (k : Nat) (vo : Option Addr) (vn vc : Nat), k ≤ n ∧ cs = .slice vo vn vc ∧ i = .int .i64 (k : Int) ∧ Hid (∃ rb, LM w T n (.slice ao ps.length c) ps bs S br k rb (Ap (rowA ps S T) k 0) (.slice vo vn vc) (clsN ps S T k) wr)) (fun _ i _ => n - (intOf i).toNat)
  case atStart => exact ⟨0, none, 0, 0, by omega, rfl, rfl, _, HLM0.out⟩
  case round =>
    obtain ⟨k, vo, vn, vc, hk, rfl, rfl, HLK⟩ := hrel
    clear HLM0
    by_cases hlt : k < n
    · obtain ⟨rb0, hlm⟩ := HLK.out
      have HLN : Hid (LM w T n (.slice ao ps.length c) ps bs S br (k + 1) (upd rb0 k wr.heap.size) (Ap (rowA ps S T) k 0) (.slice vo vn vc) (clsN ps S T k) ((wr.alloc (Obj.cells (madeCells #[Value.int .i64 0] (T + 1)) 3)).setCell ⟨br, k, none⟩ (.slice (some ⟨wr.heap.size, 0, none⟩) (T + 1) (T + 1)))) := (hlm.row hlt).congr fun i j _ _ => Ap_new _ _ _ _
      have HRB : Hid (upd rb0 k wr.heap.size k = wr.heap.size) := upd_at _ _ _
      have hmk2 := run_make_row' (P := Try.prog) 29 3 (.int .i64 0) 8 Try.underlying29 info3 rfl .i64 .i64 (T + 1) (by have := HT.out; omega) (by have := HT.out; omega)
      have ea : (((T + 1 : Nat)) : Int) = (T : Int) + 1 := by omega
      rw [ea] at hmk2
      have k0 := hlm.gb.c0
      have hbm := below_alloc wr (Obj.cells (madeCells #[Value.int .i64 0] (T + 1)) 3)
      have kr := ((hlm.next hbm).rr.cell hlt)
      have kf := World.rowIs.frozen (hlm.next hbm).rr k
      have hk0 : (0 : Int) ≤ (k : Int) := by omega
      have hk1 : (k : Int) < (n : Int) := by omega
      have hT30 : (T : Int) ≤ 30 := by have := HT.out; omega
      clear hlm HLK hbm
      go_upto_region 10 with (fail)
      clear kr kf k0 hmk2
      obtain ⟨w4, HW4⟩ : ∃ w4, Hid (((wr.alloc (Obj.cells (madeCells #[Value.int .i64 0] (T + 1)) 3)).setCell ⟨br, k, none⟩ (.slice (some ⟨wr.heap.size, 0, none⟩) (T + 1) (T + 1))) = w4) := ⟨_, (rfl : _ = _)⟩
      obtain ⟨rk, HRK⟩ : ∃ rk, Hid (wr.heap.size = rk) := ⟨_, (rfl : wr.heap.size = wr.heap.size)⟩
      obtain ⟨rb, HRBE⟩ : ∃ rb, Hid (upd rb0 k wr.heap.size = rb) := ⟨_, (rfl : _ = _)⟩
      rw [HW4.out, HRBE.out] at HLN
      rw [HRBE.out, HRK.out] at HRB
      rw [HW4.out, HRK.out]
      clear HW4 HRK HRBE
      have kr := HLN.out.rr.cell hlt
      rw [if_pos (by omega), HRB.out] at kr
      have HLT : Hid (k < n) := hlt
      clear hlt
      go_wp2_with fail
      clear kr
      go_loopw [8, 43] (fun cs i wr => ∃ (col : Nat) (vo : Option Addr) (vn vc : Nat), col ≤ T + 1 ∧ cs = .slice vo vn vc ∧ i = .int .i64 (col : Int) ∧ Hid (LM w T n (.slice ao ps.length c) ps bs S br (k + 1) rb (Ap (rowA ps S T) k col) (.slice vo vn vc) (clsN ps S T k ++ clsR ps S T k col) wr)) (fun _ i _ => T + 1 - (intOf i).toNat)
      case atStart => exact ⟨0, vo, vn, vc, by omega, rfl, rfl, by show LM _ _ _ _ _ _ _ _ _ _ _ _ _ _; rw [show clsN ps S T k ++ clsR ps S T k 0 = clsN ps S T k by simp [clsR]]; exact HLN.out⟩
      case round =>
        clear HLN
        obtain ⟨col, vo, vn, vc, hcol, rfl, rfl, HLM⟩ := hrel
        by_cases hcl : col < T + 1
        · have kc0 := HLM.out.gb.c0
          have kc1 := HLM.out.gb.c1
          have kc2 := HLM.out.gb.c2
          have hcc := choose_any T (n : Int) HT.out.1 (.slice ao ps.length c) ps HT.out.2.2 bs S k col (by omega) wr HLM.out.gb.pds HLM.out.rs
          obtain ⟨F, HF⟩ : ∃ F, Hid (mayL ps S T k col = F) := ⟨_, (rfl : _ = _)⟩
          obtain ⟨ls, HLS⟩ : ∃ ls, Hid (rowA ps S T k col = ls) := ⟨_, (rfl : _ = _)⟩
          rw [show hdI (mayL ps S T k col) = ls from HLS.out, HF.out] at hcc
          have HCL : Hid (col < T + 1) := hcl
          have hc1 : (col : Int) < (T : Int) + 1 := by omega
          clear hcl
          go_wp2_with fail
          refine hcc.mono ?_
          rintro _ w5 ⟨fo, fl, fc, rfl, hfl, hfo, hb5⟩
          have HL5 : Hid (LM w T n (.slice ao ps.length c) ps bs S br (k + 1) rb (Ap (rowA ps S T) k col) (.slice vo vn vc) (clsN ps S T k ++ clsR ps S T k col) w5) := HLM.out.next hb5
          have HL6 : Hid (LM w T n (.slice ao ps.length c) ps bs S br (k + 1) rb (Ap (rowA ps S T) k (col + 1)) (.slice vo vn vc) (clsN ps S T k ++ clsR ps S T k col) (w5.setCell ⟨rk, col, none⟩ (.int .i64 ls))) := by
            have := (HL5.out.put col ls).congr (A' := Ap (rowA ps S T) k (col + 1)) fun i j hi _ => by rw [← HLS.out]; exact Ap_put _ _ _ _ _ hi
            rw [HRB.out] at this; exact this
          have HFO : Hid ((w5.setCell ⟨rk, col, none⟩ (.int .i64 ls)).ownsRow wr.heap.size 3 1 (.slice fo fl fc) F.tail.length (F.tail.map (Value.int .i64))) := own_fm hfo (Fm.set (X := fun q => q = rk) (b := rk) (i := col) _ rfl) (fun q hq e => by
            have h1 := (hfo.lt q hq).1
            have h2 := (HLM.out.ri k (by omega)).lt
            rw [HRB.out] at h2; omega)
          have kr := HL5.out.rr.cell HLT.out
          rw [if_pos (by omega), HRB.out] at kr
          have kz := (HL5.out.ri k (by omega)).cell HCL.out
          have kf := World.rowIs.frozen (HL5.out.ri k (by omega)) col
          rw [HRB.out] at kz kf
          have HFL : Hid (fl = F.tail.length) := hfl
          clear hcc hfl hfo hb5 HL5 HLM kc0 kc1 kc2
          go_upto_region 15 with (fail)
          obtain ⟨w6, HW6⟩ : ∃ w6, Hid (w5.setCell ⟨rk, col, none⟩ (.int .i64 ls) = w6) := ⟨_, (rfl : _ = _)⟩
          rw [HW6.out] at HL6 HFO
          rw [HW6.out]
          clear HW6 kr kz kf
          obtain ⟨BB, HBB⟩ : ∃ BB, Hid (wr.heap.size = BB) := ⟨_, (rfl : wr.heap.size = wr.heap.size)⟩
          rw [HBB.out] at HFO
          clear HBB
          go_wp2_with fail
          go_loopw [8, 63] (fun cs i wr => ∃ (j : Nat) (vo : Option Addr) (vn vc : Nat), j ≤ fl ∧ cs = .slice vo vn vc ∧ i = .int .i64 (j : Int) ∧ Hid (LM w T n (.slice ao ps.length c) ps bs S br (k + 1) rb (Ap (rowA ps S T) k (col + 1)) (.slice vo vn vc) (clsF ps S T k col j) wr ∧ wr.ownsRow BB 3 1 (.slice fo fl fc) F.tail.length (F.tail.map (Value.int .i64)))) (fun _ i _ => fl - (intOf i).toNat)
          case atStart => exact ⟨0, vo, vn, vc, by omega, rfl, rfl, by rw [clsF_zero]; exact HL6.out, HFO.out⟩
          case round =>
            clear HL6 HFO
            obtain ⟨j, vo, vn, vc, hj, rfl, rfl, HL⟩ := hrel
            by_cases hjl : j < fl
            · obtain ⟨fb, rfl⟩ : ∃ fb, fo = some ⟨fb, 0, none⟩ := by
                obtain ⟨fb, fcap, hfe⟩ := Go.Joins.ownsRow_form HL.out.2 (by have := HFL.out; omega)
                cases hfe; exact ⟨fb, rfl⟩
              have hj2 : j < F.tail.length := by have := HFL.out; omega
              have hca := HL.out.2.cells (g := fb) rfl j (.int .i64 F.tail[j]) (by rw [List.getElem?_map, List.getElem?_eq_getElem hj2]; rfl)
              rw [Addr.add_lit, Nat.zero_add] at hca
              have HNX : Hid (clsF ps S T k col (j + 1) = clsF ps S T k col j ++ [((k : Int), (col : Int), ls, F.tail[j])]) := by
                show _ = _
                rw [clsF_next ps S T k col j (by rw [HF.out]; exact hj2), HLS.out]; simp only [HF.out]
              generalize F.tail[j] = z at hca HNX
              have HFEW : Hid ((clsF ps S T k col j).length ≤ 40000) := clsF_few HT.out.2.2 HT.out.1 (by have := HT.out; have := HLT.out; omega) (by have := HCL.out; omega) j
              have hfew := HFEW.out
              have hj0 : (0 : Int) ≤ (j : Int) := by omega
              have hfl40 : fl ≤ 40 := by have h1 := mayL_le ps S T k col; rw [HF.out] at h1; have h2 := HFL.out; have h3 := HT.out.2.2; rw [List.length_tail] at h2; omega
              have hj1 : (j : Int) < (fl : Int) := by omega
              obtain ⟨CC, HCC⟩ : ∃ CC, Hid (clsF ps S T k col j = CC) := ⟨_, (rfl : _ = _)⟩
              rw [HCC.out] at HL HNX hfew
              have HSW : Hid (w.heap.size + 1 ≤ wr.heap.size) := HL.out.1.gb.lt
              have hsw := HSW.out
              have HO3 : Hid ((wr.alloc (Obj.cells #[.int .i64 (k : Int), .int .i64 (col : Int), .int .i64 ls, .int .i64 z] 139)).ownsRow (w.heap.size + 1) 139 4 (.slice vo vn vc) CC.length (ccs CC)) := HL.out.1.cl.alloc _
              go_wp2_with (at_builtin; refine wpList_append_own _ rfl _ _ 93 rfl (w.heap.size + 1) 139 i0 (.agg #[.int .i64 0, .int .i64 0, .int .i64 0, .int .i64 0]) 4 32 Try.underlying93 hi hz0 hz1 hz2 rfl (by decide) _ _ _ rfl HO3.out ⟨wr.heap.size, 0, none⟩ 1 1 [.int .i64 (k : Int), .int .i64 (col : Int), .int .i64 ls, .int .i64 z] rfl rfl (World.news_of_block (t := 139) (fr := (0, 0)) (heap_alloc_new wr _)) (by simp [Value.oneCell']) (by unfold maxLen; omega) (by omega) (by simp; omega) ?_)
              intro v' w7 hown' hgrow _
              have hown2 : w7.ownsRow (w.heap.size + 1) 139 4 v' (clsF ps S T k col (j + 1)).length (ccs (clsF ps S T k col (j + 1))) := by
                rw [HNX.out, ccs_app, List.length_append]; exact hown'
              have HL7 : Hid (LM w T n (.slice ao ps.length c) ps bs S br (k + 1) rb (Ap (rowA ps S T) k (col + 1)) v' (clsF ps S T k col (j + 1)) w7 ∧ w7.ownsRow BB 3 1 (.slice (some ⟨fb, 0, none⟩) fl fc) F.tail.length (F.tail.map (Value.int .i64))) := by
                refine ⟨(HL.out.1.next (below_alloc wr _)).grow hgrow hown2, (HL.out.2.alloc _).kept hgrow (Or.inr fun e => ?_)⟩
                obtain ⟨c1, f1, e1⟩ := Go.Lib.ownsRow_kind (HL.out.2.alloc (Obj.cells #[.int .i64 (k : Int), .int .i64 (col : Int), .int .i64 ls, .int .i64 z] 139)) fb rfl
                obtain ⟨c2, f2, e2⟩ := Go.Lib.ownsRow_kind HO3.out fb e.symm
                rw [e1] at e2; cases e2
              obtain ⟨v'a, v'n, v'c, rfl⟩ := own_form hown'
              clear hown' hgrow hown2 HL HO3 HSW hsw HNX hca
              go_wp2_with fail
              go_roundw
              case rel => exact ⟨j + 1, v'a, v'n, v'c, by omega, rfl, by go_num, HL7⟩
              case measure => simp [intOf]; omega
            · have HL8 : Hid (LM w T n (.slice ao ps.length c) ps bs S br (k + 1) rb (Ap (rowA ps S T) k (col + 1)) (.slice vo vn vc) (clsN ps S T k ++ clsR ps S T k (col + 1)) wr) := by
                rw [← clsF_end ps S T k col j (by rw [HF.out, ← HFL.out]; omega)]; exact HL.out.1
              clear HL
              go_wp2_with fail
              go_roundw
              case rel => exact ⟨col + 1, vo, vn, vc, by have := HCL.out; omega, rfl, by go_num, HL8⟩
              case measure => have := HCL.out; simp [intOf]; omega
        · have HL9 : Hid (∃ rb, LM w T n (.slice ao ps.length c) ps bs S br (k + 1) rb (Ap (rowA ps S T) (k + 1) 0) (.slice vo vn vc) (clsN ps S T (k + 1)) wr) := by
            refine ⟨rb, ?_⟩
            obtain rfl : col = T + 1 := by omega
            exact HLM.out.congr fun i j hi hj => Ap_row _ _ _ _ _ hi hj
          have hcn : ¬ (col : Int) < (T : Int) + 1 := by omega
          have hn20 : n ≤ 20 := HT.out.2.1
          have hkn := HLT.out
          clear HLM
          go_wp2_with fail
          go_roundw
          case rel => exact ⟨k + 1, vo, vn, vc, by have := HLT.out; omega, rfl, by go_num, HL9⟩
          case measure => have := HLT.out; simp [intOf]; omega
    · obtain rfl : k = n := by omega
      have HFIN : Hid (LO w T k ps (.slice (some ⟨br, 0, none⟩) k k) (.slice vo vn vc) wr) := by
        obtain ⟨rb, hlm⟩ := HLK.out
        refine ⟨hlm.gb.below, S, HTK.out, rws_of hlm HT.out.2.1 HT.out.1, cls_of_own hlm.cl ?_⟩
        have := cls_few (S := S) (T := T) (k := k) (non := 0) HT.out.2.2 HT.out.1 HT.out.2.1 0 (by omega)
        rw [List.length_append] at this; omega
      clear HLK
      go_wp2_with fail
      go_ret3
      exact ⟨_, _, _, vo, vn, vc, by simp, HFIN.out⟩
end Go.Proofs.Ytpbnnmfjahckmaa
