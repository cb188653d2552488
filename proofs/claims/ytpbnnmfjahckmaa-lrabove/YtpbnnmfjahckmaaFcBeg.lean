/-
  The contract of facts.Begin.
-/
import Derived.Test.YtpbnnmfjahckmaaGrE
namespace Go.Proofs.Ytpbnnmfjahckmaa
open Go.RowKit
open Cg

/-- The error that Begin tells. -/
def begErr (t n : Int) (ps : List Pd) (l : List Sy) : Int := if chk t n ps = 0 then (if 60 < l.length then 1 else if l.all (okSy t n) = true then 0 else 1) else chk t n ps
/-- What words of l begin with. -/
def BgR (ps : List Pd) (l : List Sy) (x y : Wd) : Prop := ∃ E F M, Mk ps false E ∧ Mk ps true M ∧ Fi ps M E F ∧ y = bg E F l x
set_option maxHeartbeats 6400000 in
set_option maxRecDepth 20000 in
theorem Begin_bad (t n : Int) (pv : Value) (ps : List Pd) (v : Value) (l : List Sy) (x : Wd) (w : World) (hp : Pds w pv ps) (hs : Syms w v l) (hk : begErr t n ps l ≠ 0) :
    Calls Try.prog 82 #[.agg #[.int .i64 t, .int .i64 n, pv], v, .int .u64 (x.toNat : Int)] w fun e w' => e = .returned (.tuple #[.int .u64 0, .int .i64 (begErr t n ps l)]) ∧ Below w.heap.size w w' := by
  have HP : Hid (Pds w pv ps) := hp
  have HS : Hid (Syms w v l) := hs
  obtain ⟨ao, c, rfl, hm, -⟩ := hp
  obtain ⟨bo, bc, rfl, hlm, hcs⟩ := hs
  have HGB : Hid (Gb w w.heap.size t n (.slice ao ps.length c) ps (w.alloc (Obj.cells #[.int .i64 t, .int .i64 n, .slice ao ps.length c] 24))) := Gb.box HP.out t n
  have hcall := Check_any t n _ ps (w.alloc (Obj.cells #[.int .i64 t, .int .i64 n, .slice ao ps.length c] 24)) (HP.out.below (below_alloc w _))
  obtain ⟨r, HR⟩ : ∃ r, Hid (begErr t n ps l = r) := ⟨_, (rfl : begErr t n ps l = begErr t n ps l)⟩
  rw [HR.out] at hk ⊢
  by_cases h0 : chk t n ps = 0
  · rw [h0] at hcall
    by_cases h60 : 60 < l.length
    · obtain rfl : r = 1 := by rw [← HR.out]; unfold begErr; rw [if_pos h0, if_pos h60]
      have b1 : decide ((60 : Int) < (l.length : Int)) = true := by simp; omega
      clear hk h0
      go_enter Try.func82, Try.ntmps82
      go_wp2_with fail
      refine hcall.mono ?_
      rintro _ w1 ⟨rfl, hb1⟩
      have HG1 : Hid (Gb w w.heap.size t n (.slice ao ps.length c) ps w1) := HGB.out.next hb1
      clear hb1 hcall HGB
      go_wp2_with fail
      go_ret2
      exact ⟨by simp, HG1.out.below⟩
    · have b1 : decide ((60 : Int) < (l.length : Int)) = false := by simp; omega
      have HR2 : Hid (r = if l.all (okSy t n) = true then 0 else 1) := by show _ = _; rw [← HR.out]; unfold begErr; rw [if_pos h0, if_neg h60]
      clear h0 HR
      go_enter Try.func82, Try.ntmps82
      go_wp2_with fail
      refine hcall.mono ?_
      rintro _ w1 ⟨rfl, hb1⟩
      have HG1 : Hid (Gb w w.heap.size t n (.slice ao ps.length c) ps w1) := HGB.out.next hb1
      clear hb1 hcall HGB
      go_wp2_with fail
      clear b1
      go_loopw [21] (fun i wr => ∃ q : Nat, q ≤ l.length ∧ i = .int .i64 (q : Int) ∧ Hid ((l.take q).all (okSy t n) = true) ∧ Hid (Gb w w.heap.size t n (.slice ao ps.length c) ps wr)) (fun i _ => l.length - (intOf i).toNat)
      case atStart => exact ⟨0, by omega, rfl, rfl, HG1⟩
      case round =>
        obtain ⟨q, hq, rfl, HA, HGr⟩ := hrel
        clear HG1
        by_cases hlt : q < l.length
        · obtain ⟨b2, o, rfl, hb, hc⟩ := hcs.resolve_left (by intro e; subst e; simp at hlt)
          obtain ⟨c0, c1⟩ := hc q hlt
          have HAS : Hid ((l.take (q + 1)).all (okSy t n) = okSy t n (l[q].1, l[q].2)) := by
            show _ = _
            rw [List.take_succ_eq_append_getElem hlt, List.all_append, HA.out]; simp
          have HF : Hid (okSy t n (l[q].1, l[q].2) = false → l.all (okSy t n) = false) := fun e => by
            rw [List.all_eq_false]; exact ⟨l[q], List.getElem_mem hlt, by simpa using e⟩
          generalize l[q].1 = s0 at c0 HAS HF
          generalize l[q].2 = s1 at c1 HAS HF
          have hbw := HGr.out.below
          replace c0 : wr.cell? ⟨b2, o + q * 2, none⟩ = _ := (hbw.cell (p := ⟨b2, o + q * 2, none⟩) hb).trans c0
          replace c1 : wr.cell? ⟨b2, o + q * 2 + 1, none⟩ = _ := (hbw.cell (p := ⟨b2, o + q * 2 + 1, none⟩) hb).trans c1
          have HG2 : Hid (Gb w w.heap.size t n (.slice ao ps.length c) ps (wr.alloc (Obj.cells #[.int .i64 s0, .int .i64 s1] 80))) := HGr.out.next (below_alloc _ _)
          have z0 := HG2.out.c0
          have z1 := HG2.out.c1
          have z2 := HG2.out.c2
          have hk1 : (q : Int) < (l.length : Int) := by omega
          obtain ⟨rr, HRR⟩ : ∃ rr, Hid (okSy t n (s0, s1) = rr) := ⟨_, (rfl : okSy t n (s0, s1) = okSy t n (s0, s1))⟩
          rw [HRR.out] at HAS HF
          have hcc := isSym_any t n ao ps.length c s0 s1 (wr.alloc (Obj.cells #[.int .i64 s0, .int .i64 s1] 80))
          rw [HRR.out] at hcc
          clear hcs hc hbw HGr
          go_wp2_with fail
          refine hcc.mono ?_
          rintro _ w2 ⟨rfl, hb2⟩
          have HG3 : Hid (Gb w w.heap.size t n (.slice ao ps.length c) ps w2) := HG2.out.next hb2
          clear hcc hb2 z0 z1 z2 c0 c1
          cases rr with
          | true =>
            go_wp2_with fail
            go_roundw
            case rel => exact ⟨q + 1, by omega, by go_num, HAS.out, HG3⟩
            case measure => simp [intOf]; omega
          | false =>
            obtain rfl : r = 1 := by rw [HR2.out, HF.out rfl]; rfl
            go_wp2_with fail
            go_ret2
            exact ⟨by simp, HG3.out.below⟩
        · exfalso
          apply hk
          rw [HR2.out, ← List.take_of_length_le (i := q) (l := l) (by omega), HA.out]; rfl
  · obtain rfl : r = chk t n ps := by rw [← HR.out]; unfold begErr; rw [if_neg h0]
    obtain ⟨rr, HRR⟩ : ∃ rr, Hid (chk t n ps = rr) := ⟨_, (rfl : chk t n ps = chk t n ps)⟩
    rw [HRR.out] at hcall hk h0 ⊢
    have hk2 : (rr != 0) = true := by simpa using hk
    clear hk h0 HR
    go_enter Try.func82, Try.ntmps82
    go_wp2_with fail
    refine hcall.mono ?_
    rintro _ w1 ⟨rfl, hb1⟩
    have HG1 : Hid (Gb w w.heap.size t n (.slice ao ps.length c) ps w1) := HGB.out.next hb1
    clear hb1 hcall HGB
    go_wp2_with fail
    go_ret2
    exact ⟨by simp, HG1.out.below⟩
set_option maxHeartbeats 6400000 in
set_option maxRecDepth 20000 in
theorem Begin_ok (t : Int) (n : Nat) (pv : Value) (ps : List Pd) (v : Value) (l : List Sy) (x : Wd) (w : World) (hp : Pds w pv ps) (hs : Syms w v l) (hk : begErr t n ps l = 0) :
    Calls Try.prog 82 #[.agg #[.int .i64 t, .int .i64 (n : Int), pv], v, .int .u64 (x.toNat : Int)] w fun e w' => ∃ y : Wd, e = .returned (.tuple #[.int .u64 (y.toNat : Int), .int .i64 0]) ∧ BgR ps l x y ∧ Below w.heap.size w w' := by
  have HP : Hid (Pds w pv ps) := hp
  have HS : Hid (Syms w v l) := hs
  obtain ⟨ao, c, rfl, hm, -⟩ := hp
  obtain ⟨bo, bc, rfl, hlm, hcs⟩ := hs
  have HGB : Hid (Gb w w.heap.size t n (.slice ao ps.length c) ps (w.alloc (Obj.cells #[.int .i64 t, .int .i64 (n : Int), .slice ao ps.length c] 24))) := Gb.box HP.out t n
  have hcall := Check_any t n _ ps (w.alloc (Obj.cells #[.int .i64 t, .int .i64 (n : Int), .slice ao ps.length c] 24)) (HP.out.below (below_alloc w _))
  have h0 : chk t n ps = 0 := by
    unfold begErr at hk
    split at hk
    · assumption
    · contradiction
  unfold begErr at hk
  rw [if_pos h0] at hk
  have h60 : ¬ 60 < l.length := fun h => by rw [if_pos h] at hk; omega
  rw [if_neg h60] at hk
  have hall : l.all (okSy t n) = true := by
    cases e : l.all (okSy t n) with
    | true => rfl
    | false => rw [e] at hk; simp at hk
  have HRG : Hid (Rg t n ps) := rg_of h0
  have HOK : Hid (OkL t n l) := okL_of hall
  have HALL : Hid (l.all (okSy t n) = true) := hall
  rw [h0] at hcall
  have b1 : decide ((60 : Int) < (l.length : Int)) = false := by simp; omega
  clear h0 hk h60 hall
  go_enter Try.func82, Try.ntmps82
  go_wp2_with fail
  refine hcall.mono ?_
  rintro _ w1 ⟨rfl, hb1⟩
  have HG1 : Hid (Gb w w.heap.size t n (.slice ao ps.length c) ps w1) := HGB.out.next hb1
  clear hb1 hcall HGB
  go_wp2_with fail
  clear b1
  go_loopw [21] (fun i wr => ∃ q : Nat, q ≤ l.length ∧ i = .int .i64 (q : Int) ∧ Hid (Gb w w.heap.size t n (.slice ao ps.length c) ps wr)) (fun i _ => l.length - (intOf i).toNat)
  case atStart => exact ⟨0, by omega, rfl, HG1⟩
  case round =>
    obtain ⟨q, hq, rfl, HGr⟩ := hrel
    clear HG1
    by_cases hlt : q < l.length
    · obtain ⟨b2, o, rfl, hb, hc⟩ := hcs.resolve_left (by intro e; subst e; simp at hlt)
      obtain ⟨c0, c1⟩ := hc q hlt
      have hoq : okSy t n (l[q].1, l[q].2) = true := List.all_eq_true.1 HALL.out l[q] (List.getElem_mem hlt)
      generalize l[q].1 = s0 at c0 hoq
      generalize l[q].2 = s1 at c1 hoq
      have hbw := HGr.out.below
      replace c0 : wr.cell? ⟨b2, o + q * 2, none⟩ = _ := (hbw.cell (p := ⟨b2, o + q * 2, none⟩) hb).trans c0
      replace c1 : wr.cell? ⟨b2, o + q * 2 + 1, none⟩ = _ := (hbw.cell (p := ⟨b2, o + q * 2 + 1, none⟩) hb).trans c1
      have HG2 : Hid (Gb w w.heap.size t n (.slice ao ps.length c) ps (wr.alloc (Obj.cells #[.int .i64 s0, .int .i64 s1] 80))) := HGr.out.next (below_alloc _ _)
      have z0 := HG2.out.c0
      have z1 := HG2.out.c1
      have z2 := HG2.out.c2
      have hk1 : (q : Int) < (l.length : Int) := by omega
      have hcc := isSym_any t n ao ps.length c s0 s1 (wr.alloc (Obj.cells #[.int .i64 s0, .int .i64 s1] 80))
      rw [hoq] at hcc
      clear hcs hc hbw HGr hoq
      go_wp2_with fail
      refine hcc.mono ?_
      rintro _ w2 ⟨rfl, hb2⟩
      have HG3 : Hid (Gb w w.heap.size t n (.slice ao ps.length c) ps w2) := HG2.out.next hb2
      clear hcc hb2 z0 z1 z2 c0 c1
      go_wp2_with fail
      go_roundw
      case rel => exact ⟨q + 1, by omega, by go_num, HG3⟩
      case measure => simp [intOf]; omega
    · have z0 := HGr.out.c0
      have z1 := HGr.out.c1
      have z2 := HGr.out.c2
      clear hcs
      go_wp2_with fail
      refine (beginnings_any t n _ ps wr HGr.out.pds HRG.out).mono ?_
      rintro _ w2 ⟨be, bf, bm, rfl, -, -, -, hb2, E, F, M, hE, hF, hM, hkE, hkM, hkF⟩
      have hcb := begin_any t n be bf E F (.slice none 0 0) (.slice none 0 0) (.slice (some ⟨bm, 0, none⟩) n n) (.slice bo l.length bc) l x w2 (HS.out.below (HGr.out.below.trans (hb2.mono HGr.out.below.size))) hE hF HOK.out HRG.out.t2
      obtain ⟨y, HY⟩ : ∃ y, Hid (bg E F l x = y) := ⟨_, (rfl : bg E F l x = bg E F l x)⟩
      rw [HY.out] at hcb
      have HFIN : Hid (BgR ps l x y ∧ Below w.heap.size w w2) := ⟨⟨E, F, M, hkE, hkM, hkF, HY.out.symm⟩, HGr.out.below.trans (hb2.mono HGr.out.below.size)⟩
      clear hE hF hM hkE hkM hkF hb2 z0 z1 z2
      go_wp2_with fail
      refine hcb.mono ?_
      rintro _ w3 ⟨rfl, hb3⟩
      have HB3 : Hid (Below w.heap.size w w3) := HFIN.out.2.trans (hb3.mono HFIN.out.2.size)
      clear hb3 hcb
      go_wp2_with fail
      go_ret2
      exact ⟨y, by simp, HFIN.out.1, HB3.out⟩
end Go.Proofs.Ytpbnnmfjahckmaa
