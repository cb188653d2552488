/-
  The contract of pushref.Dfa.
-/
import Derived.Test.YtlmlkpdppkgenaaDrDfaB
import Derived.Shelf.Abstract
namespace Go.Proofs.Ytlmlkpdppkgenaa
open Go.RowKit
open Cls Po Dm
open Df (rl rl_length rl_at rl_one size35)

set_option maxHeartbeats 16000000 in
set_option maxRecDepth 20000 in
theorem RDfa_ok (v0 v1 v2 v3 v4 v5 : Value) (p : P) (w : World) (hp : Pn w v0 v1 v2 v3 v4 v5 p) (hck : chk p = 0) :
    Calls Try.prog 12 #[.agg #[v0, v1, v2, v3, v4, v5]] w fun e w' => MkP p w e w' := by
  have HOK : Hid (ok p = true ∧ p.cls.length ≤ 200) := chk_zero hck
  obtain ⟨-, hfl, -, -, -, -, hfi, hfo⟩ := (ok_iff p).1 HOK.out.1
  have HFL : Hid (p.follow.length = p.cls.length ∧ p.follow.all (rises p.cls.length) = true) := ⟨hfl, hfo⟩
  have HFI : Hid (∀ x ∈ p.first, 0 ≤ x ∧ x < (p.cls.length : Int)) := fun x hx => by
    have := ((risesFrom_iff _ _ _).1 hfi).1 x hx
    omega
  obtain ⟨i72, a1, a2, a3, a4⟩ := info_parts info72
  have H72 : Hid (Try.prog.info? 72 = some i72 ∧ i72.zero = some (.agg (Array.replicate 256 (.int .i16 0))) ∧ i72.size = 256 ∧ i72.bytes = 512) := ⟨a1, a2, a3, a4⟩
  have HSZ2 : Hid ((Value.agg (Array.replicate 256 (Value.int .i16 0))).cells.size = 256) := by show _ = _; simp [Value.cells]
  clear a1 a2 a3 a4
  obtain ⟨i3, a1, a2, a3, a4⟩ := info_parts iinfo3
  have H3 : Hid (Try.prog.info? 3 = some i3 ∧ i3.zero = some (.int .i64 0) ∧ i3.size = 1 ∧ i3.bytes = 8) := ⟨a1, a2, a3, a4⟩
  clear a1 a2 a3 a4
  obtain ⟨i23, a1, a2, a3, a4⟩ := info_parts iinfo23
  have H23 : Hid (Try.prog.info? 23 = some i23 ∧ i23.zero = some (.slice none 0 0) ∧ i23.size = 1 ∧ i23.bytes = 24) := ⟨a1, a2, a3, a4⟩
  clear a1 a2 a3 a4 hfl hfi hfo
  obtain ⟨b0, k0, rfl, m0, -⟩ := hp.cls
  obtain ⟨b1, k1, rfl, m1, -⟩ := hp.rules
  obtain ⟨b2, k2, rfl, m2, -⟩ := hp.first
  obtain ⟨b3, k3, rfl, m3, -⟩ := hp.follow
  obtain ⟨b4, k4, rfl, m4, -⟩ := hp.last
  obtain ⟨b5, k5, rfl, m5, -⟩ := hp.empty
  have HP : Hid (Pn w (.slice b0 p.cls.length k0) (.slice b1 p.rules.length k1) (.slice b2 p.first.length k2) (.slice b3 p.follow.length k3) (.slice b4 p.last.length k4) (.slice b5 p.empty.length k5) p) := hp
  clear hp
  obtain ⟨n0, HN0⟩ : ∃ q, Hid (p.cls.length = q) := ⟨_, (rfl : _ = _)⟩
  obtain ⟨n1, HN1⟩ : ∃ q, Hid (p.rules.length = q) := ⟨_, (rfl : _ = _)⟩
  obtain ⟨n2, HN2⟩ : ∃ q, Hid (p.first.length = q) := ⟨_, (rfl : _ = _)⟩
  obtain ⟨n3, HN3⟩ : ∃ q, Hid (p.follow.length = q) := ⟨_, (rfl : _ = _)⟩
  obtain ⟨n4, HN4⟩ : ∃ q, Hid (p.last.length = q) := ⟨_, (rfl : _ = _)⟩
  obtain ⟨n5, HN5⟩ : ∃ q, Hid (p.empty.length = q) := ⟨_, (rfl : _ = _)⟩
  rw [HN0.out, HN1.out, HN2.out, HN3.out, HN4.out, HN5.out] at HP
  rw [HN0.out, HN1.out, HN2.out, HN3.out, HN4.out, HN5.out]
  have hn0 : n0 ≤ 200 := by rw [← HN0.out]; exact HOK.out.2
  clear m0 m1 m2 m3 m4 m5 hck
  obtain ⟨w1, HW1⟩ : ∃ z, Hid (((w.alloc (Obj.cells #[.slice b0 n0 k0, .slice b1 n1 k1, .slice b2 n2 k2, .slice b3 n3 k3, .slice b4 n4 k4, .slice b5 n5 k5] 27)).alloc (Obj.cells #[.slice none 0 0, .slice none 0 0] 30)) = z) := ⟨_, (rfl : _ = _)⟩
  have HB1 : Hid (Below w.heap.size w w1 ∧ w1.rowIs (w.heap.size + 1) 30 2 (fun _ => .slice none 0 0) ∧ w1.heap.size = w.heap.size + 2 ∧ (w1.cell? ⟨w.heap.size, 0, none⟩ = some (.slice b0 n0 k0) ∧ w1.cell? ⟨w.heap.size, 1, none⟩ = some (.slice b1 n1 k1) ∧ w1.cell? ⟨w.heap.size, 2, none⟩ = some (.slice b2 n2 k2) ∧ w1.cell? ⟨w.heap.size, 3, none⟩ = some (.slice b3 n3 k3) ∧ w1.cell? ⟨w.heap.size, 4, none⟩ = some (.slice b4 n4 k4) ∧ w1.cell? ⟨w.heap.size, 5, none⟩ = some (.slice b5 n5 k5))) := by
    rw [← HW1.out]
    have h2 := row_new2 (w.alloc (Obj.cells #[.slice b0 n0 k0, .slice b1 n1 k1, .slice b2 n2 k2, .slice b3 n3 k3, .slice b4 n4 k4, .slice b5 n5 k5] 27))
    rw [show (w.alloc (Obj.cells #[.slice b0 n0 k0, .slice b1 n1 k1, .slice b2 n2 k2, .slice b3 n3 k3, .slice b4 n4 k4, .slice b5 n5 k5] 27)).heap.size = w.heap.size + 1 by simp] at h2
    exact ⟨((Below.refl _ _).alloc (Nat.le_refl _) _).alloc (by simp) _, h2, by simp, Go.Lib.cell?_alloc_some _ (by simp), Go.Lib.cell?_alloc_some _ (by simp), Go.Lib.cell?_alloc_some _ (by simp), Go.Lib.cell?_alloc_some _ (by simp), Go.Lib.cell?_alloc_some _ (by simp), Go.Lib.cell?_alloc_some _ (by simp)⟩
  obtain ⟨B, HBB⟩ : ∃ z, Hid (w1.heap.size = z) := ⟨_, (rfl : _ = _)⟩
  obtain ⟨pb, HPB⟩ : ∃ z, Hid (w.heap.size = z) := ⟨_, (rfl : _ = _)⟩
  obtain ⟨rs, HRSE⟩ : ∃ z, Hid (w.heap.size + 1 = z) := ⟨_, (rfl : _ = _)⟩
  have HS : Hid (pb < B ∧ rs < B ∧ w.heap.size ≤ rs ∧ w.heap.size ≤ B ∧ B = w1.heap.size) := ⟨by have := HB1.out.2.2.1; have := HBB.out; have := HPB.out; omega, by have := HB1.out.2.2.1; have := HBB.out; have := HRSE.out; omega, by have := HRSE.out; omega, by have := HB1.out.2.2.1; have := HBB.out; omega, HBB.out.symm⟩
  have HP1 : Hid (∀ W, Below B w1 W → Pn W (.slice b0 n0 k0) (.slice b1 n1 k1) (.slice b2 n2 k2) (.slice b3 n3 k3) (.slice b4 n4 k4) (.slice b5 n5 k5) p) := fun W hW => (HP.out.below HB1.out.1).below (by rw [HBB.out]; exact hW)
  have HPC : Hid (∀ W, Below B w1 W → W.cell? ⟨pb, 0, none⟩ = some (.slice b0 n0 k0) ∧ W.cell? ⟨pb, 1, none⟩ = some (.slice b1 n1 k1) ∧ W.cell? ⟨pb, 2, none⟩ = some (.slice b2 n2 k2) ∧ W.cell? ⟨pb, 3, none⟩ = some (.slice b3 n3 k3) ∧ W.cell? ⟨pb, 4, none⟩ = some (.slice b4 n4 k4) ∧ W.cell? ⟨pb, 5, none⟩ = some (.slice b5 n5 k5)) := fun W hW => by
    have hl := HS.out.1
    have h9 := HB1.out.2.2.2
    rw [HPB.out] at h9
    obtain ⟨y0, y1, y2, y3, y4, y5⟩ := h9
    exact ⟨(hW.cell hl).trans y0, (hW.cell hl).trans y1, (hW.cell hl).trans y2, (hW.cell hl).trans y3, (hW.cell hl).trans y4, (hW.cell hl).trans y5⟩
  have HRS : Hid (∀ W, Below B w1 W → W.rowIs rs 30 2 (fun _ => .slice none 0 0)) := fun W hW => by
    have h9 := HB1.out.2.1
    rw [HRSE.out] at h9
    exact h9.of_block (hW.block _ HS.out.2.1)
  have HBW : Hid (∀ W, Below B w1 W → Below w.heap.size w W) := fun W hW => HB1.out.1.trans (hW.mono HS.out.2.2.2.1)
  have HLT : Hid (∀ W, Below B w1 W → Calls Try.prog 34 #[.slice none 0 0, .bool true, .pointer (some ⟨pb, 0, none⟩)] W fun e w' => e = .returned (.int .i64 (tag0 p)) ∧ Below W.heap.size W w') := fun W hW => by
    obtain ⟨-, y1, -, -, y4, y5⟩ := HPC.out W hW
    have h9 := HP1.out W hW
    rw [← HN1.out] at y1
    rw [← HN4.out] at y4
    rw [← HN5.out] at y5
    rw [← HN1.out, ← HN4.out, ← HN5.out] at h9
    have := leastT_any none 0 [] pb p _ _ _ b1 b4 b5 k1 k4 k5 W (ints_nil W) h9 (by simp) HOK.out.1 HOK.out.2 y1 y4 y5
    rwa [lb_tag0] at this
  have HLF : Hid (∀ W (t : Cl) (uo : Option Addr) (ul uc : Nat), Below B w1 W → Ints W (.slice uo ul uc) (sel p.cls.length (mem t)) → Calls Try.prog 34 #[.slice uo ul uc, .bool false, .pointer (some ⟨pb, 0, none⟩)] W fun e w' => e = .returned (.int .i64 (tgF p t)) ∧ Below W.heap.size W w') := fun W t uo ul uc hW hi => by
    obtain ⟨-, y1, -, -, y4, y5⟩ := HPC.out W hW
    have h9 := HP1.out W hW
    rw [← HN1.out] at y1
    rw [← HN4.out] at y4
    rw [← HN5.out] at y5
    rw [← HN1.out, ← HN4.out, ← HN5.out] at h9
    have hul : ul = (sel p.cls.length (mem t)).length := by obtain ⟨_, _, he, _⟩ := hi; cases he; rfl
    subst hul
    have := leastF_any uo uc _ pb p _ _ _ b1 b4 b5 k1 k4 k5 W hi h9 (fun y hy => by
      obtain ⟨z, h1, -, rfl⟩ := (sel_mem _ _ _).1 hy
      omega) HOK.out.1 HOK.out.2 y1 y4 y5
    rwa [lb_tag] at this
  have hmf : ∀ (fn : Fn) (first cap : Array Value) (w : World), (Instr.makeFunc fn first cap).run Try.prog w = .ok (.func fn first cap) w := fun _ _ _ _ => rfl
  have he34 := enters_of Try.func34 (by kernel_rfl) rfl
  have he35 := enters_of Try.func35 (by kernel_rfl) rfl
  -- what lies there ahead of the first call
  have s1 : (w1.alloc (Obj.cells #[.slice none 0 0, .slice none 0 0] 30)).heap.size = B + 1 := by rw [← HBB.out]; simp
  obtain ⟨w2, HW2⟩ : ∃ z, Hid ((w1.alloc (Obj.cells #[.slice none 0 0, .slice none 0 0] 30)).alloc (Obj.cells #[.slice none 0 0] 23) = z) := ⟨_, (rfl : _ = _)⟩
  have HB2 : Hid (Below B w1 w2 ∧ w2.rowIs B 30 2 (fun _ => .slice none 0 0) ∧ w2.ownsRow B 23 1 (.slice (some ⟨B + 1, 0, none⟩) 1 1) 1 [.slice none 0 0]) := by
    rw [← HW2.out]
    have h1 := row_new2 w1
    rw [HBB.out] at h1
    have h2 : ((w1.alloc (Obj.cells #[.slice none 0 0, .slice none 0 0] 30)).alloc (Obj.cells #[.slice none 0 0] 23)).heap[B + 1]? = some (Obj.cells #[.slice none 0 0] 23) := by
      have := snew (w1.alloc (Obj.cells #[.slice none 0 0, .slice none 0 0] 30)) (Obj.cells #[.slice none 0 0] 23)
      rwa [s1] at this
    have hb := (Below.refl w1.heap.size w1).alloc (Nat.le_refl _) (Obj.cells #[.slice none 0 0, .slice none 0 0] 30)
    have hb2 := hb.alloc (by simp) (Obj.cells #[.slice none 0 0] 23)
    rw [HBB.out] at hb2
    exact ⟨hb2, h1.alloc _, ⟨rfl, Or.inr ⟨B + 1, 1, #[.slice none 0 0], rfl, by omega, h2, by first | omega | (unfold maxLen; omega), by first | omega | (unfold maxLen; omega), rfl, rfl⟩⟩⟩
  have hle0 := HLT.out w2 HB2.out.1
  obtain ⟨tz, HT0⟩ : ∃ z, Hid (tag0 p = z) := ⟨_, (rfl : _ = _)⟩
  rw [HT0.out] at hle0
  go_enter Try.func12, Try.ntmps12
  go_upto_region 1 with fail
  rw [HW1.out, HRSE.out, HPB.out]
  clear HW1
  go_upto_region 4 with fail
  rw [HW2.out, HBB.out]
  go_wp2_with fail
  refine hle0.mono ?_
  rintro _ w3 ⟨rfl, hb3⟩
  have hl2 : B < w2.heap.size := HB2.out.2.1.lt
  have hr3 := (HB2.out.2.1.of_block (hb3.block _ hl2)).alloc (Obj.cells #[.int .i64 tz] 3)
  have HRD0 : Hid (Rd w1 B B p (G p 0) (G p 0) 0 (B + 1) 1 none 0 w3.heap.size 1 (fun _ => .slice none 0 0) ((w3.alloc (Obj.cells #[.int .i64 tz] 3)).setCell ⟨B, 1, none⟩ (.slice (some ⟨w3.heap.size, 0, none⟩) 1 1))) := by
    have hb4 := (Below.refl w3.heap.size w3).alloc (Nat.le_refl _) (Obj.cells #[.int .i64 tz] 3)
    have k2 : Kt 30 (w3.alloc (Obj.cells #[.int .i64 tz] 3)) ((w3.alloc (Obj.cells #[.int .i64 tz] 3)).setCell ⟨B, 1, none⟩ (.slice (some ⟨w3.heap.size, 0, none⟩) 1 1)) := Kt.set (row_ty hr3)
    have hbl : Below B w1 (w3.alloc (Obj.cells #[.int .i64 tz] 3)) := HB2.out.1.trans ((hb3.trans (hb4.mono hb3.size)).mono (by omega))
    have h3 := hb3.size
    have ho : (w3.alloc (Obj.cells #[.int .i64 tz] 3)).ownsRow B 3 1 (.slice (some ⟨w3.heap.size, 0, none⟩) 1 1) 1 (tl2 p (G p 0) 1) := by
      have e : tl2 p (G p 0) 1 = [.int .i64 tz] := by
        rw [← HT0.out]; rfl
      rw [e]
      exact ⟨rfl, Or.inr ⟨w3.heap.size, 1, #[.int .i64 tz], rfl, by omega, heap_alloc_new w3 _, by first | omega | (unfold maxLen; omega), by first | omega | (unfold maxLen; omega), rfl, rfl⟩⟩
    refine ⟨hbl.setCell (Nat.le_refl _) _, (hr3.set 1 _).congr fun i hi => ?_, k2.own (by decide) (own_below (own_below HB2.out.2.2 hb3) hb4), fun i hi => ⟨?_, fun b hq => by simp [Value.ownBlock] at hq⟩, ⟨rfl, Or.inl ⟨rfl, rfl⟩⟩, k2.own (by decide) ho, Nat.le_refl _, by simp [World.setCell]; omega⟩
    · unfold lv
      have : i = 0 ∨ i = 1 := by omega
      rcases this with e | e <;> simp [e, G]
    · have e0 : i = 0 := by simp [G] at hi; omega
      subst e0
      show Ints _ _ (sel p.cls.length (mem empty))
      rw [sel_nil]
      exact ints_nil _
  have y0 := hr3.cell (i := 1) (by omega)
  have y1 := hr3.frozen 1
  clear hb3 hle0 hl2 hr3 HB2 HW2 s1
  go_upto_region 5 with fail
  clear y0 y1
  obtain ⟨w4, HW4⟩ : ∃ z, Hid ((w3.alloc (Obj.cells #[.int .i64 tz] 3)).setCell ⟨B, 1, none⟩ (.slice (some ⟨w3.heap.size, 0, none⟩) 1 1) = z) := ⟨_, (rfl : _ = _)⟩
  rw [HW4.out] at HRD0
  rw [HW4.out]
  clear HW4
  go_wp2_with fail
  go_loopw [7, 6] (fun z v wr => ∃ (n gs sc rc gt tc sn : Nat) (ro : Option Addr), z = .int .i64 (n : Int) ∧ v = .slice (some ⟨gs, 0, none⟩) sn sc ∧ Hid (sn = (G p n).length ∧ Gd p n ∧ ∃ V, Rd w1 B B p (G p n) (G p n) n gs sc ro rc gt tc V wr)) (fun z _ _ => 202 - (intOf z).toNat)
  case atStart => exact ⟨0, B + 1, 1, 0, w3.heap.size, 1, 1, none, rfl, rfl, rfl, ⟨fun j hj => by omega, by simp [G]⟩, _, HRD0.out⟩
  case round =>
    clear HRD0
    obtain ⟨n, gs, sc, rc, gt, tc, sn, ro, rfl, rfl, HA⟩ := hrel
    obtain ⟨hsn, hgd, V, hrd⟩ := HA.out
    have HSN : Hid (sn = (G p n).length) := hsn
    have HGD : Hid (Gd p n) := hgd
    have HRD : Hid (Rd w1 B B p (G p n) (G p n) n gs sc ro rc gt tc V wr) := hrd
    have hn200 : n ≤ 200 := hgd.le
    clear hsn hgd hrd HA
    by_cases hlt : n < sn
    · have hnl : n < (G p n).length := by rw [← HSN.out]; exact hlt
      have hni0 : (0 : Int) ≤ (n : Int) := by omega
      have hni1 : (n : Int) < (sn : Int) := by omega
      have hel := (HRD.out.el n hnl).1
      have hcl := HRD.out.at_ hnl
      obtain ⟨lf, HLF0⟩ : ∃ z, Hid (sel p.cls.length (mem ((G p n).getD n empty)) = z) := ⟨_, (rfl : _ = _)⟩
      rw [HLF0.out] at hel
      have HIF : Hid (Ints wr (V n) lf) := hel
      obtain ⟨fo, fc, hvn, -, -⟩ := hel
      rw [hvn] at hcl HIF
      obtain ⟨fl, HFLN⟩ : ∃ z, Hid (lf.length = z) := ⟨_, (rfl : _ = _)⟩
      rw [HFLN.out] at hcl HIF
      have hfl : fl ≤ 200 := by
        rw [← HFLN.out, ← HLF0.out]
        have := sel_length p.cls.length (mem ((G p n).getD n empty))
        have := HOK.out.2
        omega
      have hmk : ∀ W : World, (Instr.makeSlice 25 (.int .i64 (n0 : Int)) (.int .i64 (n0 : Int))).run Try.prog W = .ok (.slice (some ⟨W.heap.size, 0, none⟩) n0 n0) (W.alloc (.cells (madeCells #[.bool false] n0) 4)) := fun W => run_make_row' (P := Try.prog) 25 4 (.bool false) 1 Try.underlying25 iinfo4 rfl .i64 .i64 n0 (by omega) (by omega) W
      obtain ⟨w8, HW8⟩ : ∃ z, Hid ((wr.alloc (Obj.cells (madeCells #[.bool false] n0) 4)).alloc (Obj.cells #[.slice (some ⟨wr.heap.size, 0, none⟩) n0 n0] 25) = z) := ⟨_, (rfl : _ = _)⟩
      have H8 : Hid (Below wr.heap.size wr w8 ∧ w8.rowIs wr.heap.size 4 n0 (fun _ => .bool false) ∧ w8.rowIs (wr.heap.size + 1) 25 1 (fun _ => .slice (some ⟨wr.heap.size, 0, none⟩) n0 n0)) := by
        rw [← HW8.out]
        have h1 := World.rowIs_made wr (.bool false) n0 4
        have h2 := World.rowIs_alloc (wr.alloc (Obj.cells (madeCells #[.bool false] n0) 4)) #[.slice (some ⟨wr.heap.size, 0, none⟩) n0 n0] 25 (fun _ => .slice (some ⟨wr.heap.size, 0, none⟩) n0 n0) (fun i hi => by
          obtain rfl : i = 0 := by simpa using hi
          rfl)
        rw [show (wr.alloc (Obj.cells (madeCells #[.bool false] n0) 4)).heap.size = wr.heap.size + 1 by simp] at h2
        exact ⟨((Below.refl _ _).alloc (Nat.le_refl _) _).alloc (by simp) _, h1.alloc _, h2⟩
      obtain ⟨ab, HAB⟩ : ∃ z, Hid (wr.heap.size = z) := ⟨_, (rfl : _ = _)⟩
      have HR8 : Hid (Rd w1 B B p (G p n) (G p n) n gs sc ro rc gt tc V w8) := HRD.out.next H8.out.1
      obtain ⟨y0, -⟩ := HPC.out wr HRD.out.bl
      have y9 := (H8.out.1.cell (p := ⟨gs, n, none⟩) (HRD.out.so.lt gs rfl).2).trans hcl
      clear hcl hvn
      go_upto_region 9 with fail
      rw [HW8.out]
      clear y0 hmk HW8
      have HABL : Hid (wr.heap.size = ab) := HAB.out
      rw [HAB.out] at H8
      rw [HAB.out]
      go_upto_region 11 with fail
      clear y9
      obtain ⟨xb, HXB⟩ : ∃ z, Hid (ab + 1 = z) := ⟨_, (rfl : _ = _)⟩
      rw [HXB.out] at H8
      rw [HXB.out]
      obtain ⟨wr8, HWR8⟩ : ∃ z, z = wr := ⟨_, rfl⟩
      obtain ⟨c, HCN⟩ : ∃ z, Hid (nx p (G p n) n = z) := ⟨_, (rfl : _ = _)⟩
      by_cases hz : n = 0
      · have bz : ((n : Int) == 0) = true := by simpa using hz
        obtain ⟨-, -, y2, -⟩ := HPC.out w8 HR8.out.bl
        have hmark := mark_any b2 k2 p.first xb ab n0 (fun _ => false) w8 (by rw [HN2.out]; exact (HP1.out w8 HR8.out.bl).first) (by rw [← HN0.out]; exact HFI.out) (H8.out.2.2.cell (i := 0) (by omega)) H8.out.2.1
        rw [HN2.out] at hmark
        obtain ⟨F0, HF0⟩ : ∃ F0 : Nat → Bool, Hid (F0 = fun (i : Nat) => p.first.contains (i : Int)) := ⟨_, rfl⟩
        have HFC : Hid (∀ x, x < p.cls.length → (F0 x || behindB p lf x) = mem c x) := fun x hx => by
          have hn9 := HOK.out.2
          obtain ⟨-, -, -, -, -, -, hfi, -⟩ := (ok_iff p).1 HOK.out.1
          have e1 : lf = [] := by rw [← HLF0.out, hz]; exact sel_nil _
          rw [HF0.out, ← HCN.out, e1]
          unfold nx
          rw [if_pos hz, mem_stOf (first_in hfi hn9) (by omega)]
          simp [behindB]
        clear hz
        go_wp2_with fail
        refine hmark.mono ?_
        rintro _ w9 ⟨rfl, hr9, hg9⟩
        have HM0 : Hid (w9.rowIs ab 4 n0 (fun x => .bool (F0 x)) ∧ w8.grownBy w9 (some ab)) := ⟨hr9.congr fun x _ => by rw [HF0.out]; simp, hg9⟩
        clear hmark hr9 hg9 y2
        go_wp2_with fail
        go_loopw [11] (fun z wx => ∃ k : Nat, k ≤ fl ∧ z = .int .i64 (k : Int) ∧ Hid (wx.rowIs ab 4 n0 (fun x => .bool (F0 x || behindB p (lf.take k) x)) ∧ w8.grownBy wx (some ab))) (fun z _ => fl - (intOf z).toNat)
        case atStart => exact ⟨0, by omega, rfl, HM0.out.1.congr fun x _ => by simp [behindB], HM0.out.2⟩
        case round =>
          clear HM0
          obtain ⟨k, hk, rfl, HA2⟩ := hrel
          by_cases hkl : k < fl
          · have hk0 : (0 : Int) ≤ (k : Int) := by omega
            have hk1 : (k : Int) < (fl : Int) := by omega
            have hkl2 : k < lf.length := by rw [HFLN.out]; exact hkl
            have hI := HIF.out
            obtain ⟨_, _, he, -, hI2⟩ := hI
            simp only [Value.slice.injEq] at he
            obtain ⟨rfl, -, rfl⟩ := he
            obtain ⟨cf, of, rfl, hcf, hcellf⟩ := hI2.resolve_left (fun e => by rw [e] at hkl2; simp at hkl2)
            have hcab : cf ≠ ab := by have := HABL.out; omega
            have hxab : xb ≠ ab := by have := HXB.out; omega
            have hw8 : ab ≤ w8.heap.size := by
              have := H8.out.1.size
              have := HABL.out
              omega
            have hyk : (lf[k]'hkl2) ∈ sel p.cls.length (mem ((G p n).getD n empty)) := by rw [HLF0.out]; exact List.getElem_mem hkl2
            obtain ⟨y, hy1, -, hy3⟩ := (sel_mem _ _ _).1 hyk
            have HY : Hid (lf[k]'hkl2 = (y : Int)) := hy3
            have hyf : y < p.follow.length := by rw [HFL.out.1]; exact hy1
            have hFw := (HP1.out w8 HR8.out.bl).follow
            obtain ⟨_, _, he, -, hF2⟩ := hFw
            simp only [Value.slice.injEq] at he
            obtain ⟨rfl, -, rfl⟩ := he
            obtain ⟨c3, o3, rfl, hc3, hcell3⟩ := hF2.resolve_left (fun e => by rw [e] at hyf; simp at hyf)
            obtain ⟨u, hu1, hu2⟩ := hcell3 y hyf
            have HU : Hid (Ints w8 u (p.follow[y]'hyf)) := hu2
            obtain ⟨uo, uc, rfl, -, -⟩ := hu2
            obtain ⟨l9, HL90⟩ : ∃ z, Hid (p.follow[y]'hyf = z) := ⟨p.follow[y]'hyf, Eq.refl _⟩
            have HL9 : Hid (p.follow.getD y [] = l9) := by show _ = _; rw [List.getD_eq_getElem?_getD, List.getElem?_eq_getElem hyf, ← HL90.out]; rfl
            rw [HL90.out] at HU hu1
            have hpbl : pb < w8.heap.size := by have := HS.out.1; have := HR8.out.ge.2; omega
            have hpab : pb ≠ ab := by have := HS.out.1; have := HABL.out; have := HRD.out.ge.2; omega
            have far : ∀ {q o : Nat} {v : Value} {W : World}, q ≠ ab → q < w8.heap.size → w8.cell? ⟨q, o, none⟩ = some v → w8.grownBy W (some ab) → W.cell? ⟨q, o, none⟩ = some v := fun hq hl hv hg => (hg.cell_far _ hl (by simpa using hq)).trans hv
            have hc3ab : c3 ≠ ab := by
              rintro rfl
              have e0 := H8.out.2.1
              obtain ⟨cc, hcc, hsz, -⟩ := H8.out.2.1
              have e1 : w8.cell? ⟨c3, o3 + y, none⟩ = cc[o3 + y]? := by simp [World.cell?, hcc]
              rw [e1] at hu1
              have hl9 := (Array.getElem?_eq_some_iff.1 hu1).1
              have e2 := e0.cell (i := o3 + y) (by omega)
              rw [e1, hu1] at e2; cases e2
            have HC1 : Hid (∀ W, w8.grownBy W (some ab) → W.cell? ⟨pb, 3, none⟩ = some (.slice (some ⟨c3, o3, none⟩) n3 k3)) := fun W hW => far hpab hpbl (HPC.out w8 HR8.out.bl).2.2.2.1 hW
            have HC2 : Hid (∀ W, w8.grownBy W (some ab) → W.cell? ⟨cf, of + k, none⟩ = some (.int .i64 (y : Int))) := fun W hW => far hcab (by have := HABL.out; omega) ((H8.out.1.cell (p := ⟨cf, of + k, none⟩) (by have := HABL.out; show cf < ab; omega)).trans (by rw [← HY.out]; exact hcellf k hkl2)) hW
            have HC3 : Hid (∀ W, w8.grownBy W (some ab) → W.cell? ⟨c3, o3 + y, none⟩ = some (.slice uo l9.length uc)) := fun W hW => far hc3ab hc3 hu1 hW
            have HMA : Hid (∀ W, w8.grownBy W (some ab) → W.rowIs ab 4 n0 (fun i => .bool (F0 i || behindB p (lf.take k) i)) → Calls Try.prog 35 #[.slice uo l9.length uc, .pointer (some ⟨xb, 0, none⟩)] W fun e w' => e = .returned (.tuple #[]) ∧ w'.rowIs ab 4 n0 (fun i => .bool ((F0 i || behindB p (lf.take k) i) || l9.contains (i : Int))) ∧ W.grownBy w' (some ab)) := fun W hW hr => by
              refine mark_any uo uc l9 xb ab n0 _ W (HU.out.far H8.out.2.1 hW) (fun x hx => ?_) (far hxab H8.out.2.2.lt (H8.out.2.2.cell (i := 0) (by omega)) hW) hr
              have h1 := HFL.out.2
              rw [List.all_eq_true] at h1
              have h2 := ((risesFrom_iff _ _ _).1 (h1 _ (List.getElem_mem hyf))).1 x (by rw [HL90.out]; exact hx)
              have := HN0.out
              omega
            have hy0 : (0 : Int) ≤ (y : Int) := by omega
            have hy9 : (y : Int) < (n3 : Int) := by have := HN3.out; omega
            obtain ⟨ul, HUL⟩ : ∃ z, Hid (l9.length = z) := ⟨_, (rfl : _ = _)⟩
            rw [HUL.out] at HC3 HMA
            clear hcellf hyk hy1 hy3 hcell3 hu1 far hc3ab hpab hpbl hxab hcab hw8 hc3 hcf hI2 hF2
            go_upto_region 16 with fail
            refine wp_region_free mixed (fun a0 d a W => ∃ (x50 x51 x52 x53 x54 x55 x56 x57 x58 x59 : Value), a = ((((((((((a0.put (some 50) x50).put (some 51) x51).put (some 52) x52).put (some 53) x53).put (some 54) x54).put (some 55) x55).put (some 56) x56).put (some 57) x57).put (some 58) x58).put (some 59) x59) ∧ Hid (RD16 w8 ab xb pb n0 n3 c3 o3 k3 cf of fl fc k y uo ul uc (fun x => F0 x || behindB p (lf.take k) x) l9 d x50 x51 x52 x53 x54 x55 x56 x57 x58 x59 W)) (by kernel_rfl) ⟨u50, u51, u52, u53, u54, u55, u56, u57, u58, u59, by simp only [Act.put, List.setIfInBounds_toArray, List.set_cons_zero, List.set_cons_succ], ?_⟩ ?_ ?_
            · exact ⟨fun h => no_way h, fun h => no_way h, fun h => no_way h, fun h => no_way h, fun h => no_way h, fun h => no_way h, fun h => no_way h, fun h => no_way h, fun h => no_way h, fun h => no_way h, HA2.out.2.trans ⟨rfl, rfl, rfl, Nat.le_refl _, fun _ _ _ => rfl⟩, fun _ => HA2.out.1.drew, fun h => no_way h⟩
            · simp only [StepAll, and_true]
              refine ⟨?_, ?_, ?_, ?_, ?_, ?_, ?_, ?_, ?_, ?_⟩
              · intro d a W hI hd hdep
                obtain ⟨x50, x51, x52, x53, x54, x55, x56, x57, x58, x59, rfl, hF⟩ := hI
                clear hdep hd
                intro K hK
                simp only [Act.put, List.setIfInBounds_toArray, List.set_cons_zero, List.set_cons_succ]
                go_simp
                refine hK.out _ _ ⟨(.func (Fn.func 35) #[] #[.pointer (some ⟨xb, 0, none⟩)]), x51, x52, x53, x54, x55, x56, x57, x58, x59, by simp only [Act.put, List.setIfInBounds_toArray, List.set_cons_zero, List.set_cons_succ], ?_⟩
                exact ⟨fun _ => rfl, fun h => hF.out.f1 (by simpa using h), fun h => hF.out.f2 (by simpa using h), fun h => hF.out.f3 (by simpa using h), fun h => hF.out.f4 (by simpa using h), fun h => hF.out.f5 (by simpa using h), fun h => hF.out.f6 (by simpa using h), fun h => hF.out.f7 (by simpa using h), fun h => hF.out.f8 (by simpa using h), fun h => hF.out.f9 (by simpa using h), hF.out.gb, fun h => hF.out.r0 (by simpa using h), fun h => hF.out.r1 (by simpa using h)⟩
              · intro d a W hI hd hdep
                obtain ⟨x50, x51, x52, x53, x54, x55, x56, x57, x58, x59, rfl, hF⟩ := hI
                clear hdep hd
                intro K hK
                simp only [Act.put, List.setIfInBounds_toArray, List.set_cons_zero, List.set_cons_succ]
                go_simp
                refine hK.out _ _ ⟨x50, (.pointer (some ⟨pb, 3, none⟩)), x52, x53, x54, x55, x56, x57, x58, x59, by simp only [Act.put, List.setIfInBounds_toArray, List.set_cons_zero, List.set_cons_succ], ?_⟩
                exact ⟨fun h => hF.out.f0 (by simpa using h), fun _ => rfl, fun h => hF.out.f2 (by simpa using h), fun h => hF.out.f3 (by simpa using h), fun h => hF.out.f4 (by simpa using h), fun h => hF.out.f5 (by simpa using h), fun h => hF.out.f6 (by simpa using h), fun h => hF.out.f7 (by simpa using h), fun h => hF.out.f8 (by simpa using h), fun h => hF.out.f9 (by simpa using h), hF.out.gb, fun h => hF.out.r0 (by simpa using h), fun h => hF.out.r1 (by simpa using h)⟩
              · intro d a W hI hd hdep
                obtain ⟨x50, x51, x52, x53, x54, x55, x56, x57, x58, x59, rfl, hF⟩ := hI
                have hd1 : d 1 = true := dep_of hdep 1 (by kernel_rfl)
                obtain rfl := hF.out.f1 hd1
                have ya := HC1.out W hF.out.gb
                clear hdep hd hd1
                intro K hK
                simp only [Act.put, List.setIfInBounds_toArray, List.set_cons_zero, List.set_cons_succ]
                go_simp
                refine hK.out _ _ ⟨x50, (.pointer (some ⟨pb, 3, none⟩)), (.slice (some ⟨c3, o3, none⟩) n3 k3), x53, x54, x55, x56, x57, x58, x59, by simp only [Act.put, List.setIfInBounds_toArray, List.set_cons_zero, List.set_cons_succ], ?_⟩
                exact ⟨fun h => hF.out.f0 (by simpa using h), fun h => hF.out.f1 (by simpa using h), fun _ => rfl, fun h => hF.out.f3 (by simpa using h), fun h => hF.out.f4 (by simpa using h), fun h => hF.out.f5 (by simpa using h), fun h => hF.out.f6 (by simpa using h), fun h => hF.out.f7 (by simpa using h), fun h => hF.out.f8 (by simpa using h), fun h => hF.out.f9 (by simpa using h), hF.out.gb, fun h => hF.out.r0 (by simpa using h), fun h => hF.out.r1 (by simpa using h)⟩
              · intro d a W hI hd hdep
                obtain ⟨x50, x51, x52, x53, x54, x55, x56, x57, x58, x59, rfl, hF⟩ := hI
                clear hdep hd
                intro K hK
                simp only [Act.put, List.setIfInBounds_toArray, List.set_cons_zero, List.set_cons_succ]
                go_simp
                refine hK.out _ _ ⟨x50, x51, x52, (.slice (some ⟨cf, of, none⟩) fl fc), x54, x55, x56, x57, x58, x59, by simp only [Act.put, List.setIfInBounds_toArray, List.set_cons_zero, List.set_cons_succ], ?_⟩
                exact ⟨fun h => hF.out.f0 (by simpa using h), fun h => hF.out.f1 (by simpa using h), fun h => hF.out.f2 (by simpa using h), fun _ => rfl, fun h => hF.out.f4 (by simpa using h), fun h => hF.out.f5 (by simpa using h), fun h => hF.out.f6 (by simpa using h), fun h => hF.out.f7 (by simpa using h), fun h => hF.out.f8 (by simpa using h), fun h => hF.out.f9 (by simpa using h), hF.out.gb, fun h => hF.out.r0 (by simpa using h), fun h => hF.out.r1 (by simpa using h)⟩
              · intro d a W hI hd hdep
                obtain ⟨x50, x51, x52, x53, x54, x55, x56, x57, x58, x59, rfl, hF⟩ := hI
                clear hdep hd
                intro K hK
                simp only [Act.put, List.setIfInBounds_toArray, List.set_cons_zero, List.set_cons_succ]
                go_simp
                refine hK.out _ _ ⟨x50, x51, x52, x53, (.int .i64 (k : Int)), x55, x56, x57, x58, x59, by simp only [Act.put, List.setIfInBounds_toArray, List.set_cons_zero, List.set_cons_succ], ?_⟩
                exact ⟨fun h => hF.out.f0 (by simpa using h), fun h => hF.out.f1 (by simpa using h), fun h => hF.out.f2 (by simpa using h), fun h => hF.out.f3 (by simpa using h), fun _ => rfl, fun h => hF.out.f5 (by simpa using h), fun h => hF.out.f6 (by simpa using h), fun h => hF.out.f7 (by simpa using h), fun h => hF.out.f8 (by simpa using h), fun h => hF.out.f9 (by simpa using h), hF.out.gb, fun h => hF.out.r0 (by simpa using h), fun h => hF.out.r1 (by simpa using h)⟩
              · intro d a W hI hd hdep
                obtain ⟨x50, x51, x52, x53, x54, x55, x56, x57, x58, x59, rfl, hF⟩ := hI
                have hd3 : d 3 = true := dep_of hdep 3 (by kernel_rfl)
                have hd4 : d 4 = true := dep_of hdep 4 (by kernel_rfl)
                obtain rfl := hF.out.f3 hd3
                obtain rfl := hF.out.f4 hd4
                clear hdep hd hd3 hd4
                intro K hK
                simp only [Act.put, List.setIfInBounds_toArray, List.set_cons_zero, List.set_cons_succ]
                go_simp
                refine hK.out _ _ ⟨x50, x51, x52, (.slice (some ⟨cf, of, none⟩) fl fc), (.int .i64 (k : Int)), (.pointer (some ⟨cf, of + k, none⟩)), x56, x57, x58, x59, by simp only [Act.put, List.setIfInBounds_toArray, List.set_cons_zero, List.set_cons_succ], ?_⟩
                exact ⟨fun h => hF.out.f0 (by simpa using h), fun h => hF.out.f1 (by simpa using h), fun h => hF.out.f2 (by simpa using h), fun h => hF.out.f3 (by simpa using h), fun h => hF.out.f4 (by simpa using h), fun _ => rfl, fun h => hF.out.f6 (by simpa using h), fun h => hF.out.f7 (by simpa using h), fun h => hF.out.f8 (by simpa using h), fun h => hF.out.f9 (by simpa using h), hF.out.gb, fun h => hF.out.r0 (by simpa using h), fun h => hF.out.r1 (by simpa using h)⟩
              · intro d a W hI hd hdep
                obtain ⟨x50, x51, x52, x53, x54, x55, x56, x57, x58, x59, rfl, hF⟩ := hI
                have hd5 : d 5 = true := dep_of hdep 5 (by kernel_rfl)
                obtain rfl := hF.out.f5 hd5
                have ya := HC2.out W hF.out.gb
                clear hdep hd hd5
                intro K hK
                simp only [Act.put, List.setIfInBounds_toArray, List.set_cons_zero, List.set_cons_succ]
                go_simp
                refine hK.out _ _ ⟨x50, x51, x52, x53, x54, (.pointer (some ⟨cf, of + k, none⟩)), (.int .i64 (y : Int)), x57, x58, x59, by simp only [Act.put, List.setIfInBounds_toArray, List.set_cons_zero, List.set_cons_succ], ?_⟩
                exact ⟨fun h => hF.out.f0 (by simpa using h), fun h => hF.out.f1 (by simpa using h), fun h => hF.out.f2 (by simpa using h), fun h => hF.out.f3 (by simpa using h), fun h => hF.out.f4 (by simpa using h), fun h => hF.out.f5 (by simpa using h), fun _ => rfl, fun h => hF.out.f7 (by simpa using h), fun h => hF.out.f8 (by simpa using h), fun h => hF.out.f9 (by simpa using h), hF.out.gb, fun h => hF.out.r0 (by simpa using h), fun h => hF.out.r1 (by simpa using h)⟩
              · intro d a W hI hd hdep
                obtain ⟨x50, x51, x52, x53, x54, x55, x56, x57, x58, x59, rfl, hF⟩ := hI
                have hd2 : d 2 = true := dep_of hdep 2 (by kernel_rfl)
                have hd6 : d 6 = true := dep_of hdep 6 (by kernel_rfl)
                obtain rfl := hF.out.f2 hd2
                obtain rfl := hF.out.f6 hd6
                clear hdep hd hd2 hd6
                intro K hK
                simp only [Act.put, List.setIfInBounds_toArray, List.set_cons_zero, List.set_cons_succ]
                go_simp
                refine hK.out _ _ ⟨x50, x51, (.slice (some ⟨c3, o3, none⟩) n3 k3), x53, x54, x55, (.int .i64 (y : Int)), (.pointer (some ⟨c3, o3 + y, none⟩)), x58, x59, by simp only [Act.put, List.setIfInBounds_toArray, List.set_cons_zero, List.set_cons_succ], ?_⟩
                exact ⟨fun h => hF.out.f0 (by simpa using h), fun h => hF.out.f1 (by simpa using h), fun h => hF.out.f2 (by simpa using h), fun h => hF.out.f3 (by simpa using h), fun h => hF.out.f4 (by simpa using h), fun h => hF.out.f5 (by simpa using h), fun h => hF.out.f6 (by simpa using h), fun _ => rfl, fun h => hF.out.f8 (by simpa using h), fun h => hF.out.f9 (by simpa using h), hF.out.gb, fun h => hF.out.r0 (by simpa using h), fun h => hF.out.r1 (by simpa using h)⟩
              · intro d a W hI hd hdep
                obtain ⟨x50, x51, x52, x53, x54, x55, x56, x57, x58, x59, rfl, hF⟩ := hI
                have hd7 : d 7 = true := dep_of hdep 7 (by kernel_rfl)
                obtain rfl := hF.out.f7 hd7
                have ya := HC3.out W hF.out.gb
                clear hdep hd hd7
                intro K hK
                simp only [Act.put, List.setIfInBounds_toArray, List.set_cons_zero, List.set_cons_succ]
                go_simp
                refine hK.out _ _ ⟨x50, x51, x52, x53, x54, x55, x56, (.pointer (some ⟨c3, o3 + y, none⟩)), (.slice uo ul uc), x59, by simp only [Act.put, List.setIfInBounds_toArray, List.set_cons_zero, List.set_cons_succ], ?_⟩
                exact ⟨fun h => hF.out.f0 (by simpa using h), fun h => hF.out.f1 (by simpa using h), fun h => hF.out.f2 (by simpa using h), fun h => hF.out.f3 (by simpa using h), fun h => hF.out.f4 (by simpa using h), fun h => hF.out.f5 (by simpa using h), fun h => hF.out.f6 (by simpa using h), fun h => hF.out.f7 (by simpa using h), fun _ => rfl, fun h => hF.out.f9 (by simpa using h), hF.out.gb, fun h => hF.out.r0 (by simpa using h), fun h => hF.out.r1 (by simpa using h)⟩
              · intro d a W hI hd hdep
                obtain ⟨x50, x51, x52, x53, x54, x55, x56, x57, x58, x59, rfl, hF⟩ := hI
                have hd0 : d 0 = true := dep_of hdep 0 (by kernel_rfl)
                have hd8 : d 8 = true := dep_of hdep 8 (by kernel_rfl)
                obtain rfl := hF.out.f0 hd0
                obtain rfl := hF.out.f8 hd8
                have hr0 := hF.out.r0 hd
                have hcl := HMA.out W hF.out.gb hr0
                clear hdep hd hd0 hd8
                intro K hK
                simp only [Act.put, List.setIfInBounds_toArray, List.set_cons_zero, List.set_cons_succ]
                go_simp
                refine hcl.mono ?_
                rintro _ W1 ⟨rfl, hr1, hg1⟩
                clear hcl
                go_simp
                refine hK.out _ _ ⟨(.func (Fn.func 35) #[] #[.pointer (some ⟨xb, 0, none⟩)]), x51, x52, x53, x54, x55, x56, x57, (.slice uo ul uc), (.tuple #[]), by simp only [Act.put, List.setIfInBounds_toArray, List.set_cons_zero, List.set_cons_succ], ?_⟩
                exact ⟨fun h => hF.out.f0 (by simpa using h), fun h => hF.out.f1 (by simpa using h), fun h => hF.out.f2 (by simpa using h), fun h => hF.out.f3 (by simpa using h), fun h => hF.out.f4 (by simpa using h), fun h => hF.out.f5 (by simpa using h), fun h => hF.out.f6 (by simpa using h), fun h => hF.out.f7 (by simpa using h), fun h => hF.out.f8 (by simpa using h), fun _ => rfl, hF.out.gb.trans hg1, fun h => by simp at h, fun _ => hr1⟩
            · intro d a W hI hall
              obtain ⟨x50, x51, x52, x53, x54, x55, x56, x57, x58, x59, rfl, hF⟩ := hI
              simp only [List.length_cons, List.length_nil] at hall
              obtain rfl := hF.out.f0 (hall 0 (by omega))
              obtain rfl := hF.out.f1 (hall 1 (by omega))
              obtain rfl := hF.out.f2 (hall 2 (by omega))
              obtain rfl := hF.out.f3 (hall 3 (by omega))
              obtain rfl := hF.out.f4 (hall 4 (by omega))
              obtain rfl := hF.out.f5 (hall 5 (by omega))
              obtain rfl := hF.out.f6 (hall 6 (by omega))
              obtain rfl := hF.out.f7 (hall 7 (by omega))
              obtain rfl := hF.out.f8 (hall 8 (by omega))
              obtain rfl := hF.out.f9 (hall 9 (by omega))
              have HNX : Hid (W.rowIs ab 4 n0 (fun x => .bool (F0 x || behindB p (lf.take (k + 1)) x)) ∧ w8.grownBy W (some ab)) := ⟨(hF.out.r1 (hall 9 (by omega))).congr fun x _ => by
                have e := behindB_snoc p lf k hkl2 x
                rw [e, HY.out, show ((y : Int)).toNat = y by omega, HL9.out, Bool.or_assoc], hF.out.gb⟩
              clear hF hall
              simp only [Act.put, List.setIfInBounds_toArray, List.set_cons_zero, List.set_cons_succ]
              go_wp2_with fail
              go_roundw
              case rel => exact ⟨k + 1, by omega, by go_num, HNX⟩
              case measure => simp [intOf]; omega
          · obtain rfl : k = fl := by omega
            have HMK : Hid (wr.rowIs ab 4 n0 (fun x => .bool (mem c x)) ∧ w8.grownBy wr (some ab)) := ⟨HA2.out.1.congr fun x hx => by
              rw [List.take_of_length_le (by rw [HFLN.out]; exact Nat.le_refl _)]
              rw [HFC.out x (by have := HN0.out; omega)], HA2.out.2⟩
            clear HA2
            have HRW : Hid (Rd w1 B B p (G p n) (G p n) n gs sc ro rc gt tc V wr) := HR8.out.kt (t := 4) (Kt.grown HMK.out.2 (fun q hq => by cases hq; exact row_ty H8.out.2.1)) (by decide) (by decide) (by decide) (by decide) (HR8.out.bl.grown HMK.out.2 HR8.out.ge.2 (fun q hq => by have := HRD.out.ge.2; have := HABL.out; simp at hq; omega))
            have HXC : Hid (wr.rowIs xb 25 1 (fun _ => .slice (some ⟨ab, 0, none⟩) n0 n0)) := H8.out.2.2.of_block (HMK.out.2.block _ H8.out.2.2.lt (fun e => by have := HXB.out; simp at e; omega))
            obtain ⟨zs, hz72, hzs, hzc⟩ := zero72
            obtain ⟨rbk, HRBK⟩ : ∃ z, Hid (wr.heap.size = z) := ⟨_, (rfl : _ = _)⟩
            obtain ⟨wa, HWA⟩ : ∃ z, Hid (wr.alloc (Obj.cells zs 72) = z) := ⟨_, (rfl : _ = _)⟩
            have HRB0 : Hid (Rb w1 B p n c rbk ab xb n0 0 (G p n) (G p n) gs sc ro rc gt tc V wa) := by
              rw [← HWA.out, ← HRBK.out]
              have hb9 := (Below.refl wr.heap.size wr).alloc (Nat.le_refl _) (Obj.cells zs 72)
              have h1 := World.rowIs_alloc wr zs 72 (fun _ => .int .i16 0) (fun i hi => hzc i (by rw [← hzs]; exact hi))
              rw [hzs] at h1
              exact ⟨HRW.out.next hb9, ⟨_, h1, fun j hj => by omega⟩, HMK.out.1.alloc _, HXC.out.alloc _, fun e => by have := (HRW.out.rs.lt _ e).2; omega, HRW.out.ge.2⟩
            clear hzs hzc HRW HXC HMK H8 HR8
            go_upto_region 18 with fail
            rw [HWA.out, HRBK.out]
            clear HWA hz72
            go_wp2_with fail
            go_loopw [13, 6] (fun z v wx => ∃ (b gs sc gt tc sn : Nat), z = .int .i64 (b : Int) ∧ v = .slice (some ⟨gs, 0, none⟩) sn sc ∧ b ≤ 256 ∧ Hid (sn = (grow (hv p) (G p n) c b).length ∧ sn ≤ 200 ∧ ∃ V, Rb w1 B p n c rbk ab xb n0 b (grow (hv p) (G p n) c b) (grow (hv p) (G p n) c b) gs sc ro rc gt tc V wx)) (fun z _ _ => 256 - (intOf z).toNat)
            case atStart => exact ⟨0, gs, sc, gt, tc, sn, rfl, rfl, by omega, HSN.out, by rw [HSN.out]; exact HGD.out.2, V, HRB0.out⟩
            case round =>
              clear HRB0 hni0 hni1 hlt HSN
              obtain ⟨b, gs, sc, gt, tc, sn, rfl, rfl, hb, HA3⟩ := hrel
              obtain ⟨hs3, hs4, V, hrb⟩ := HA3.out
              obtain ⟨S, HSS⟩ : ∃ z, Hid (grow (hv p) (G p n) c b = z) := ⟨_, (rfl : _ = _)⟩
              rw [HSS.out] at hs3 hrb
              have HSN2 : Hid (sn = S.length) := hs3
              have HSN3 : Hid (0 < S.length ∧ S.length ≤ 200 ∧ S.length = sn) := ⟨by rw [← HSS.out]; exact Nat.lt_of_lt_of_le (G_pos p n) (grow_pre _ _ _ _).length_le, by omega, hs3.symm⟩
              have HRB : Hid (Rb w1 B p n c rbk ab xb n0 b S S gs sc ro rc gt tc V wr) := hrb
              have HOKS : Hid (Ok S) := by rw [← HSS.out]; exact (G_ok p n).grow _ _ _
              have HBD : Hid (∀ s ∈ S.tail, Bd p s) := by rw [← HSS.out]; exact grow_bd HOK.out.2 (G_bd HOK.out.2 n) (G_pos p n) c b
              clear hs3 hs4 hrb HA3
              by_cases hb6 : b < 256
              · have hb0 : (0 : Int) ≤ (b : Int) := by omega
                have hb1 : (b : Int) < 256 := by omega
                have HB6 : Hid (b < 256) := hb6
                obtain ⟨t, HT⟩ : ∃ z, Hid (meet c (hv p b) = z) := ⟨_, (rfl : _ = _)⟩
                have HTB : Hid (Bd p t) := by rw [← HT.out]; exact bd_meet HOK.out.2 c b
                obtain ⟨wb, rfl⟩ : ∃ z, z = wr := ⟨_, rfl⟩
                go_wp2_with fail
                go_loopw [15, 14] (fun x lv wx => ∃ (j : Nat) (lo : Option Addr) (ln lc : Nat), j ≤ n0 ∧ x = .int .i64 (j : Int) ∧ lv = .slice lo ln lc ∧ Hid (Hl wb p c b j lo ln lc wx)) (fun x _ _ => n0 - (intOf x).toNat)
                case atStart => exact ⟨0, none, 0, 0, by omega, rfl, rfl, ⟨Below.refl _ _, ⟨rfl, Or.inl ⟨rfl, rfl⟩⟩, rfl⟩⟩
                case round =>
                  obtain ⟨j, lo, ln, lc, hj, rfl, rfl, HI⟩ := hrel
                  have hrb := HRB.out.next HI.out.bl
                  have yx := hrb.xc.cell (i := 0) (by omega)
                  by_cases hjl : j < n0
                  · have hj0 : (0 : Int) ≤ (j : Int) := by omega
                    have hj1 : (j : Int) < (n0 : Int) := by omega
                    have ya := hrb.al.cell (i := j) hjl
                    have hbl9 := hrb.rd.bl
                    cases hmj : mem c j with
                    | false =>
                      rw [hmj] at ya
                      have HNX : Hid (Hl wb p c b (j + 1) lo ln lc wr) := HI.out.stay (by rw [hmj]; rfl)
                      clear hrb hbl9 hmj
                      go_wp2_with fail
                      go_roundw
                      case rel => exact ⟨j + 1, lo, ln, lc, by omega, by go_num, rfl, HNX⟩
                      case measure => simp [intOf]; omega
                    | true =>
                      rw [hmj] at ya
                      have hl0 : j < p.cls.length := by rw [HN0.out]; exact hjl
                      obtain ⟨yp, -⟩ := HPC.out wr hbl9
                      obtain ⟨_, _, he, -, hq0⟩ := (HP1.out wr hbl9).cls
                      simp only [Value.slice.injEq] at he
                      obtain ⟨rfl, -, rfl⟩ := he
                      obtain ⟨bq, oq, rfl, hbq, hcq⟩ := hq0.resolve_left (fun e => by rw [e] at hl0; simp at hl0)
                      have hat : hasAt p b (j : Int) = mem p.cls[j] b := by
                        unfold hasAt; rw [show ((j : Int)).toNat = j by omega, List.getElem?_eq_getElem hl0]
                      have hcj := hcq j hl0
                      obtain ⟨q, HQ⟩ : ∃ q, Hid (p.cls[j] = q) := ⟨p.cls[j]'hl0, Eq.refl _⟩
                      rw [HQ.out] at hcj hat
                      have y0 : wr.cell? ⟨bq, oq + j * 4, none⟩ = some (.int .u64 (q.1.toNat : Int)) := hcj 0 (by omega)
                      have y1 : wr.cell? ⟨bq, oq + j * 4 + 1, none⟩ = some (.int .u64 (q.2.1.toNat : Int)) := hcj 1 (by omega)
                      have y2 : wr.cell? ⟨bq, oq + j * 4 + 2, none⟩ = some (.int .u64 (q.2.2.1.toNat : Int)) := hcj 2 (by omega)
                      have y3 : wr.cell? ⟨bq, oq + j * 4 + 3, none⟩ = some (.int .u64 (q.2.2.2.toNat : Int)) := hcj 3 (by omega)
                      have hha := rhas_any q (b : Int) b rfl hb6 wr
                      clear hcq hcj hq0 hrb hbl9 hbq
                      cases hmq : mem q b with
                      | false =>
                        rw [hmq] at hha hat
                        have HAT : Hid ((mem c j && hasAt p b (j : Int)) = false) := by show _ = _; rw [hat]; simp
                        clear hmq hat hmj
                        go_wp2_with fail
                        refine hha.mono ?_
                        rintro _ w3 ⟨rfl, hb3⟩
                        have HNX : Hid (Hl wb p c b (j + 1) lo ln lc w3) := (HI.out.next hb3.below).stay HAT.out
                        clear hha hb3 y0 y1 y2 y3 yp ya yx
                        go_wp2_with fail
                        go_roundw
                        case rel => exact ⟨j + 1, lo, ln, lc, by omega, by go_num, rfl, HNX⟩
                        case measure => simp [intOf]; omega
                      | true =>
                        rw [hmq] at hha hat
                        have HAT : Hid ((mem c j && hasAt p b (j : Int)) = true) := by show _ = _; rw [hat, hmj]; rfl
                        clear hmq hat hmj
                        go_wp2_with fail
                        refine hha.mono ?_
                        rintro _ w3 ⟨rfl, hb3⟩
                        have HI3 : Hid (Hl wb p c b j lo ln lc w3) := HI.out.next hb3.below
                        clear hha hb3 y0 y1 y2 y3 yp ya yx
                        have hb4 := (Below.refl w3.heap.size w3).alloc (Nat.le_refl _) (Obj.cells #[.int .i64 (j : Int)] 3)
                        have hi4 := HI3.out.next hb4
                        have hle : ln ≤ 200 := by rw [HI3.out.len]; have := sel_length j (fun y => mem c y && hasAt p b (y : Int)); omega
                        obtain ⟨g2, k2, w5, hrun, hown, hgrw, hor, -⟩ := run_append_lies (P := Try.prog) (w3.alloc (Obj.cells #[.int .i64 (j : Int)] 3)) 23 23 wb.heap.size 3 i3 _ 1 8 Try.underlying23 H3.out.1 H3.out.2.1 H3.out.2.2.1 H3.out.2.2.2 rfl (by omega) (.slice lo ln lc) ln ((sel j (fun y => mem c y && hasAt p b (y : Int))).map (Value.int .i64)) hi4.own ⟨w3.heap.size, 0, none⟩ 1 1 [.int .i64 (j : Int)] rfl (fun i u hu => by rw [Addr.add_lit, Nat.zero_add, cell_new w3 [.int .i64 (j : Int)] 3 i]; exact hu) (by intro u hu; simp at hu; subst hu; rfl) (by omega) (by unfold maxLen; omega) (by omega) hi4.bl.size _ rfl
                        have HRUN : Hid ((Builtin.append_ #[23, 23] 23 #[.slice lo ln lc, .slice (some ⟨w3.heap.size, 0, none⟩) 1 1]).run Try.prog (w3.alloc (Obj.cells #[.int .i64 (j : Int)] 3)) = .ok (.slice (some ⟨g2, 0, none⟩) (ln + 1) k2) w5) := hrun
                        have HNX : Hid (Hl wb p c b (j + 1) (some ⟨g2, 0, none⟩) (ln + 1) k2 w5) := by
                          have e2 : sel (j + 1) (fun y => mem c y && hasAt p b (y : Int)) = sel j (fun y => mem c y && hasAt p b (y : Int)) ++ [(j : Int)] := by rw [sel_step, if_pos HAT.out]
                          refine ⟨hi4.bl.grown hgrw hi4.bl.size (fun q hq => (hi4.own.lt q hq).1), ?_, ?_⟩
                          · rw [e2, List.map_append]; exact hown
                          · rw [e2, List.length_append, hi4.len]; rfl
                        clear hrun hown hgrw hor hi4 hb4 hle
                        go_wp2_with (refine wpList_append_run rfl _ _ 23 rfl _ _ rfl rfl HRUN.out ?_)
                        clear HRUN
                        go_roundw
                        case rel => exact ⟨j + 1, some ⟨g2, 0, none⟩, ln + 1, k2, by omega, by go_num, rfl, HNX⟩
                        case measure => simp [intOf]; omega
                  · clear hrb
                    obtain rfl : n0 = j := by omega
                    have HTO : Hid (Ints wr (.slice lo ln lc) (sel p.cls.length (mem t)) ∧ (∀ q, (Value.slice lo ln lc).ownBlock = some q → Ty wr q 3 ∧ q ≠ gt) ∧ ln = (sel p.cls.length (mem t)).length) := by
                      have e : sel n0 (fun y => mem c y && hasAt p b (y : Int)) = sel p.cls.length (mem t) := by rw [← HN0.out, ← HT.out]; exact to_list HOK.out.2 c b
                      have ho := HI.out.own
                      have hl := HI.out.len
                      rw [e] at ho hl
                      refine ⟨ints_of_own (base := wb.heap.size) (by rw [hl] at ho ⊢; exact ho) (by have := sel_length p.cls.length (mem t); have := HOK.out.2; omega), fun q hq => ⟨own_ty ho hq, ?_⟩, hl⟩
                      have h1 := (ho.lt q hq).1
                      have h2 := (HRB.out.rd.ta.lt gt rfl).2
                      omega
                    have HRB4 : Hid (Rb w1 B p n c rbk ab xb n0 b S S gs sc ro rc gt tc V wr) := HRB.out.next HI.out.bl
                    obtain ⟨v9, yb, yf⟩ := HRB4.out.cell HB6.out
                    obtain ⟨w6, HW6⟩ : ∃ z, Hid (wr.setCell ⟨rbk, b, none⟩ (.int .i16 (-1)) = z) := ⟨_, (rfl : _ = _)⟩
                    have HRB6x : Hid (Rb w1 B p n c rbk ab xb n0 b S S gs sc ro rc gt tc V w6 ∧ (-1 = rA p n b → Rb w1 B p n c rbk ab xb n0 (b + 1) S S gs sc ro rc gt tc V w6)) := by rw [← HW6.out]; exact HRB4.out.set (-1)
                    have HTO6 : Hid (Ints w6 (.slice lo ln lc) (sel p.cls.length (mem t)) ∧ ∀ q, (Value.slice lo ln lc).ownBlock = some q → Ty w6 q 3 ∧ q ≠ gt) := by
                      rw [← HW6.out]
                      obtain ⟨f9, hf9, -⟩ := HRB4.out.rr
                      have k1 : Kt 72 wr (wr.setCell ⟨rbk, b, none⟩ (.int .i16 (-1))) := Kt.set (row_ty hf9)
                      have e : ∀ q, Ty wr q 3 → (wr.setCell ⟨rbk, b, none⟩ (.int .i16 (-1))).heap[q]? = wr.heap[q]? := fun q hq => k1.blk q hq.lt (fun e => by have := e.one hq; revert this; decide)
                      exact ⟨HTO.out.1.keep k1.size (fun q hq => e q (HTO.out.2.1 q hq).1), fun q hq => ⟨(HTO.out.2.1 q hq).1.of (e q (HTO.out.2.1 q hq).1), (HTO.out.2.1 q hq).2⟩⟩
                    have HLN : Hid (ln = (sel p.cls.length (mem t)).length) := HTO.out.2.2
                    clear HI HTO
                    go_upto_region 28 with fail
                    rw [HW6.out]
                    clear yb yf HRB4 HRB HW6
                    by_cases hln : ln = 0
                    · have bz : ((ln : Int) == 0) = true := by simpa using hln
                      have he : t = empty := (sel_none HTB.out).1 (List.length_eq_zero_iff.1 (by have := HLN.out; omega))
                      have h7 : grow (hv p) (G p n) c (b + 1) = S := by
                        show add (grow (hv p) (G p n) c b) (meet c (hv p b)) = _
                        rw [HSS.out, HT.out, he]; unfold add; rw [if_pos rfl]
                      have hz : -1 = rA p n b := by
                        rw [rA_is p n HB6.out, HCN.out, HT.out, h7, he]; unfold num; rw [if_pos rfl]
                      have HNY : Hid (sn = (grow (hv p) (G p n) c (b + 1)).length ∧ sn ≤ 200 ∧ ∃ V, Rb w1 B p n c rbk ab xb n0 (b + 1) (grow (hv p) (G p n) c (b + 1)) (grow (hv p) (G p n) c (b + 1)) gs sc ro rc gt tc V w6) := by
                        rw [h7]
                        exact ⟨HSN2.out, by have := HSN3.out; omega, _, HRB6x.out.2 hz⟩
                      clear he h7 hz hln HRB6x HTO6
                      go_wp2_with fail
                      go_roundw
                      case rel => exact ⟨b + 1, gs, sc, gt, tc, sn, by go_num, rfl, by omega, HNY⟩
                      case measure => simp [intOf]; omega
                    · have bz : ((ln : Int) == 0) = false := by simpa using hln
                      have HT0 : Hid (t ≠ empty) := fun e => hln (by rw [HLN.out, e, sel_nil]; rfl)
                      have HRB6 : Hid (Rb w1 B p n c rbk ab xb n0 b S S gs sc ro rc gt tc V w6) := HRB6x.out.1
                      clear HRB6x HLN hln
                      go_wp2_with fail
                      have hs200 : sn ≤ 200 := by have := HSN3.out; omega
                      go_loopw [16] (fun z wx => ∃ a : Nat, 1 ≤ a ∧ a ≤ sn ∧ z = .int .i64 (a : Int) ∧ Hid ((∀ j, 1 ≤ j → j < a → S.getD j empty ≠ t) ∧ Below w6.heap.size w6 wx)) (fun z _ => sn - (intOf z).toNat)
                      case atStart => exact ⟨1, by omega, by have := HSN3.out; omega, rfl, fun j h1 h2 => by omega, Below.refl _ _⟩
                      case round =>
                        obtain ⟨a, ha1, ha2, rfl, HA5⟩ := hrel
                        by_cases hal : a < sn
                        · have ha0 : (0 : Int) ≤ (a : Int) := by omega
                          have ha3 : (a : Int) < (sn : Int) := by omega
                          have d0 : decide ((a : Int) < (sn : Int)) = true := by simp; omega
                          have e0 : decide (a < sn) = true := by simp; omega
                          have hrb := HRB6.out.next HA5.out.2
                          have hel := (hrb.rd.el a (by have := HSN2.out; omega)).1
                          have yat := hrb.rd.at_ (i := a) (by have := HSN2.out; omega)
                          have heq := equal_any (V a) (.slice lo ln lc) _ _ wr hel (HTO6.out.1.below HA5.out.2)
                          obtain ⟨uo, uc, hva, -, -⟩ := hel
                          obtain ⟨ul, HUL⟩ : ∃ z, Hid ((sel p.cls.length (mem (S.getD a empty))).length = z) := ⟨_, (rfl : _ = _)⟩
                          rw [HUL.out] at hva
                          rw [hva] at yat heq
                          have hbd : Bd p (S.getD a empty) := HBD.out _ (tail_getD ha1 (by have := HSN2.out; omega))
                          clear hrb hva
                          by_cases hse : sel p.cls.length (mem (S.getD a empty)) = sel p.cls.length (mem t)
                          · rw [decide_eq_true hse] at heq
                            have hset := sel_set hbd HTB.out hse
                            clear hse hbd
                            go_wp2_with fail
                            refine heq.mono ?_
                            rintro _ w7 ⟨rfl, hb7⟩
                            clear heq yat
                            have bq : ((a : Int) == (sn : Int)) = false := by simp; omega
                            have d1 : decide ((200 : Int) < (sn : Int)) = false := by have := HSN3.out; simp; omega
                            have e1 : decide (200 < sn) = false := by have := HSN3.out; simp; omega
                            have HFN : Hid (add S t = S ∧ num S t = (a : Int)) := num_found HT0.out ha1 (by have := HSN2.out; omega) hset HOKS.out
                            obtain ⟨wz, rfl⟩ : ∃ z, z = w7 := ⟨_, rfl⟩
                            have HRBZ : Hid (Rb w1 B p n c rbk ab xb n0 b S S gs sc ro rc gt tc V wz) := (HRB6.out.next HA5.out.2).next hb7
                            have HZL : Hid (a ≤ 200) := (by have := HSN3.out; omega : a ≤ 200)
                            have HZ2 : Hid (S.length ≤ 200) := (by have := HSN3.out; omega : S.length ≤ 200)
                            have h7 : grow (hv p) (G p n) c (b + 1) = S := by
                              show add (grow (hv p) (G p n) c b) (meet c (hv p b)) = _
                              rw [HSS.out, HT.out]; exact HFN.out.1
                            have HZA : Hid ((a : Int) = rA p n b) := by
                              show _ = _
                              rw [rA_is p n HB6.out, HCN.out, HT.out, h7, HFN.out.2]
                            have hwr : IntKind.i16.wrap (a : Int) = (a : Int) := by
                              have := HZL.out
                              simp [IntKind.wrap, IntKind.bits, IntKind.signed]; omega
                            obtain ⟨v9, yb, yf⟩ := HRBZ.out.cell HB6.out
                            have HNX : Hid ((S).length ≤ 200 ∧ Rb w1 B p n c rbk ab xb n0 (b + 1) S S gs sc ro rc gt tc V (wz.setCell ⟨rbk, b, none⟩ (.int .i16 (a : Int)))) := ⟨HZ2.out, (HRBZ.out.set (a : Int)).2 HZA.out⟩
                            have HNY : Hid (sn = (grow (hv p) (G p n) c (b + 1)).length ∧ sn ≤ 200 ∧ ∃ V, Rb w1 B p n c rbk ab xb n0 (b + 1) (grow (hv p) (G p n) c (b + 1)) (grow (hv p) (G p n) c (b + 1)) gs sc ro rc gt tc V (wz.setCell ⟨rbk, b, none⟩ (.int .i16 (a : Int)))) := by
                              rw [h7]
                              exact ⟨HSN2.out, by have := HSN3.out; omega, _, HNX.out.2⟩
                            clear HNX HRBZ hb7 hset HA5 h7
                            go_wp2_with fail
                            go_roundw
                            case rel => exact ⟨b + 1, gs, sc, gt, tc, sn, by go_num, rfl, by omega, HNY⟩
                            case measure => simp [intOf]; omega
                          · rw [decide_eq_false hse] at heq
                            have HA6 : Hid (∀ j, 1 ≤ j → j < a + 1 → S.getD j empty ≠ t) := fun j h1 h2 e => by
                              by_cases ej : j = a
                              · subst ej; rw [e] at hse; exact hse rfl
                              · exact HA5.out.1 j h1 (by omega) e
                            clear hse hbd
                            go_wp2_with fail
                            refine heq.mono ?_
                            rintro _ w7 ⟨rfl, hb7⟩
                            have HA7 : Hid ((∀ j, 1 ≤ j → j < a + 1 → S.getD j empty ≠ t) ∧ Below w6.heap.size w6 w7) := ⟨HA6.out, HA5.out.2.trans (hb7.mono HA5.out.2.size)⟩
                            clear heq yat hb7 HA6 HA5
                            go_wp2_with fail
                            go_roundw
                            case rel => exact ⟨a + 1, by omega, by omega, by go_num, HA7⟩
                            case measure => simp [intOf]; omega
                        · obtain rfl : sn = a := by omega
                          have bq : ((sn : Int) == (sn : Int)) = true := by simp
                          have d0 : decide ((sn : Int) < (sn : Int)) = false := by simp
                          have e0 : decide (sn < sn) = false := by simp
                          have HNW : Hid (add S t = S ++ [t] ∧ num (S ++ [t]) t = (S.length : Int)) := num_new HT0.out (by have := HSN3.out; omega) (fun j h1 h2 => HA5.out.1 j h1 (by have := HSN2.out; omega))
                          have HRBa : Hid (Rb w1 B p n c rbk ab xb n0 b S S gs sc ro rc gt tc V wr) := HRB6.out.next HA5.out.2
                          have hto := HTO6.out.1.below HA5.out.2
                          have hty : ∀ q, (Value.slice lo ln lc).ownBlock = some q → Ty wr q 3 ∧ q ≠ gt := fun q hq => ⟨(HTO6.out.2 q hq).1.of (HA5.out.2.block _ (HTO6.out.2 q hq).1.lt), (HTO6.out.2 q hq).2⟩
                          have hb4 := (Below.refl wr.heap.size wr).alloc (Nat.le_refl _) (Obj.cells #[.slice lo ln lc] 23)
                          have hr4 := HRBa.out.next hb4
                          obtain ⟨g2, c2, w7, hrun, hown, hgrw, hor, -⟩ := run_append_lies (P := Try.prog) (wr.alloc (Obj.cells #[.slice lo ln lc] 23)) 24 24 B 23 i23 _ 1 24 Try.underlying24 H23.out.1 H23.out.2.1 H23.out.2.2.1 H23.out.2.2.2 rfl (by omega) (.slice (some ⟨gs, 0, none⟩) S.length sc) S.length ((List.range S.length).map V) hr4.rd.so ⟨wr.heap.size, 0, none⟩ 1 1 [.slice lo ln lc] rfl (fun i u hu => by rw [Addr.add_lit, Nat.zero_add, cell_new wr [.slice lo ln lc] 23 i]; exact hu) (by intro u hu; simp at hu; subst hu; rfl) (by omega) (by have := HSN3.out; unfold maxLen; omega) (by have := HSN3.out; omega) hr4.rd.ge.2 _ rfl
                          have hadd := hr4.rd.addS hgrw hown (t := t) (hto.below hb4) (fun q hq => ⟨(hty q hq).1.of (hb4.block _ (hty q hq).1.lt), (hty q hq).2⟩)
                          have hrb7 := hr4.kt hadd.2 (by decide) (by decide) (by decide) hadd.1
                          obtain ⟨sm, HSM⟩ : ∃ z, Hid (sn + 1 = z) := ⟨_, (rfl : _ = _)⟩
                          rw [← HSN2.out, HSM.out] at hrun
                          have HRUN : Hid _ := hrun
                          obtain ⟨Vn, HVN⟩ : ∃ z, Hid ((fun i => if i = S.length then .slice lo ln lc else V i) = z) := ⟨_, (rfl : _ = _)⟩
                          rw [HVN.out] at hrb7
                          have HVL : Hid (Vn S.length = .slice lo ln lc) := by show _ = _; rw [← HVN.out]; simp
                          obtain ⟨V, rfl⟩ : ∃ z, z = Vn := ⟨_, rfl⟩
                          clear hrun hown hgrw hor hadd hr4 hb4 hto hty
                          go_upto_region 34 with (refine wpList_append_run rfl _ _ 24 rfl _ _ rfl rfl HRUN.out ?_)
                          clear HRUN HVN
                          obtain ⟨gs, rfl⟩ : ∃ z, z = g2 := ⟨_, rfl⟩
                          obtain ⟨sc, rfl⟩ : ∃ z, z = c2 := ⟨_, rfl⟩
                          have HRB7 : Hid (Rb w1 B p n c rbk ab xb n0 b (S ++ [t]) S gs sc ro rc gt tc V w7) := hrb7
                          clear hrb7 HA5 HRB6 HRBa bq
                          obtain ⟨tz, HTZ⟩ : ∃ z, Hid (tgF p t = z) := ⟨_, (rfl : _ = _)⟩
                          have HSL : Hid (0 < S.length ∧ S.length ≤ 200) := ⟨by have := HSN3.out; omega, by have := HSN3.out; omega⟩
                          have HTG : Hid (∀ W, Rb w1 B p n c rbk ab xb n0 b (S ++ [t]) S gs sc ro rc gt tc V W → Calls Try.prog 34 #[.slice lo ln lc, .bool false, .pointer (some ⟨pb, 0, none⟩)] W fun e w' => e = .returned (.int .i64 tz) ∧ Below W.heap.size W w') := fun W h => by
                            have h1 := (h.rd.el S.length (by simp)).1
                            rw [getD_last, HVL.out] at h1
                            have := HLF.out W t lo ln lc h.rd.bl h1
                            rwa [HTZ.out] at this
                          refine wp_region_free mixed (fun a0 d a W => ∃ (gb : Nat) (gr : Nat) (cr : Nat) (x115 x116 x117 x118 x119 x120 x121 x122 : Value), a = ((((((((a0.put (some 115) x115).put (some 116) x116).put (some 117) x117).put (some 118) x118).put (some 119) x119).put (some 120) x120).put (some 121) x121).put (some 122) x122) ∧ Hid (RD34 w1 B p n c rbk ab xb n0 b S t gs sc ro rc gt tc V pb lo ln lc tz gb gr cr d x115 x116 x117 x118 x119 x120 x121 x122 W)) (by kernel_rfl) ⟨0, 0, 0, u115, u116, u117, u118, u119, u120, u121, u122, by simp only [Act.put, List.setIfInBounds_toArray, List.set_cons_zero, List.set_cons_succ], ?_⟩ ?_ ?_
                          · exact ⟨fun h => no_way h, fun h => no_way h, fun h => no_way h, fun h => no_way h, fun h => no_way h, fun h => no_way h, fun h => no_way h, fun h => no_way h, fun _ => trivial, fun h => no_way h, fun h => no_way h, fun h => no_way h, fun h => no_way h, fun _ => HRB7.out.drew, fun h => no_way h, fun h => no_way h, fun h => no_way h⟩
                          · simp only [StepAll, and_true]
                            refine ⟨?_, ?_, ?_, ?_, ?_, ?_, ?_, ?_, ?_⟩
                            · intro d a W hI hd hdep
                              obtain ⟨gb, gr, cr, x115, x116, x117, x118, x119, x120, x121, x122, rfl, hF⟩ := hI
                              clear hdep hd
                              intro K hK
                              simp only [Act.put, List.setIfInBounds_toArray, List.set_cons_zero, List.set_cons_succ]
                              go_simp
                              refine hK.out _ _ ⟨gb, gr, cr, (.pointer (some ⟨B, 1, none⟩)), x116, x117, x118, x119, x120, x121, x122, by simp only [Act.put, List.setIfInBounds_toArray, List.set_cons_zero, List.set_cons_succ], ?_⟩
                              exact ⟨fun _ => rfl, fun h => hF.out.f1 (by simpa using h), fun h => hF.out.f2 (by simpa using h), fun h => hF.out.f3 (by simpa using h), fun h => hF.out.f4 (by simpa using h), fun h => hF.out.f5 (by simpa using h), fun h => hF.out.f6 (by simpa using h), fun h => hF.out.f7 (by simpa using h), fun h => hF.out.f8 (by simpa using h), fun h => by have := hF.out.o5_4 (by simpa using h); simpa using this, fun h => by have := hF.out.o6_1 (by simpa using h); simpa using this, fun h => by have := hF.out.o6_5 (by simpa using h); simpa using this, fun h => by have := hF.out.q8_6 (by simpa using h); simpa using this, fun h => hF.out.m0 (by simpa using h), fun h h2 => hF.out.bs (by simpa using h) (by simpa using h2), fun h h2 => hF.out.th (by simpa using h) (by simpa using h2), fun h => hF.out.fin (by simpa using h)⟩
                            · intro d a W hI hd hdep
                              obtain ⟨gb, gr, cr, x115, x116, x117, x118, x119, x120, x121, x122, rfl, hF⟩ := hI
                              have hd0 : d 0 = true := dep_of hdep 0 (by kernel_rfl)
                              obtain rfl := hF.out.f0 hd0
                              have HN6 : Hid (d 6 = false) := no_later hF.out.o6_1 hd
                              have ya := (hF.out.m0 HN6.out).rd.bx.cell (i := 1) (by omega)
                              simp only [lv] at ya
                              clear hdep hd hd0
                              intro K hK
                              simp only [Act.put, List.setIfInBounds_toArray, List.set_cons_zero, List.set_cons_succ]
                              go_simp
                              refine hK.out _ _ ⟨gb, gr, cr, (.pointer (some ⟨B, 1, none⟩)), (.slice (some ⟨gt, 0, none⟩) S.length tc), x117, x118, x119, x120, x121, x122, by simp only [Act.put, List.setIfInBounds_toArray, List.set_cons_zero, List.set_cons_succ], ?_⟩
                              exact ⟨fun h => hF.out.f0 (by simpa using h), fun _ => rfl, fun h => hF.out.f2 (by simpa using h), fun h => hF.out.f3 (by simpa using h), fun h => hF.out.f4 (by simpa using h), fun h => hF.out.f5 (by simpa using h), fun h => hF.out.f6 (by simpa using h), fun h => hF.out.f7 (by simpa using h), fun h => hF.out.f8 (by simpa using h), fun h => by have := hF.out.o5_4 (by simpa using h); simpa using this, fun _ => by simp, fun h => by have := hF.out.o6_5 (by simpa using h); simpa using this, fun h => by have := hF.out.q8_6 (by simpa using h); simpa using this, fun h => hF.out.m0 (by simpa using h), fun h h2 => hF.out.bs (by simpa using h) (by simpa using h2), fun h h2 => hF.out.th (by simpa using h) (by simpa using h2), fun h => hF.out.fin (by simpa using h)⟩
                            · intro d a W hI hd hdep
                              obtain ⟨gb, gr, cr, x115, x116, x117, x118, x119, x120, x121, x122, rfl, hF⟩ := hI
                              clear hdep hd
                              intro K hK
                              simp only [Act.put, List.setIfInBounds_toArray, List.set_cons_zero, List.set_cons_succ]
                              go_simp
                              refine hK.out _ _ ⟨gb, gr, cr, x115, x116, (.func (Fn.func 34) #[] #[.pointer (some ⟨pb, 0, none⟩)]), x118, x119, x120, x121, x122, by simp only [Act.put, List.setIfInBounds_toArray, List.set_cons_zero, List.set_cons_succ], ?_⟩
                              exact ⟨fun h => hF.out.f0 (by simpa using h), fun h => hF.out.f1 (by simpa using h), fun _ => rfl, fun h => hF.out.f3 (by simpa using h), fun h => hF.out.f4 (by simpa using h), fun h => hF.out.f5 (by simpa using h), fun h => hF.out.f6 (by simpa using h), fun h => hF.out.f7 (by simpa using h), fun h => hF.out.f8 (by simpa using h), fun h => by have := hF.out.o5_4 (by simpa using h); simpa using this, fun h => by have := hF.out.o6_1 (by simpa using h); simpa using this, fun h => by have := hF.out.o6_5 (by simpa using h); simpa using this, fun h => by have := hF.out.q8_6 (by simpa using h); simpa using this, fun h => hF.out.m0 (by simpa using h), fun h h2 => hF.out.bs (by simpa using h) (by simpa using h2), fun h h2 => hF.out.th (by simpa using h) (by simpa using h2), fun h => hF.out.fin (by simpa using h)⟩
                            · intro d a W hI hd hdep
                              obtain ⟨gb, gr, cr, x115, x116, x117, x118, x119, x120, x121, x122, rfl, hF⟩ := hI
                              clear hdep hd
                              intro K hK
                              simp only [Act.put, List.setIfInBounds_toArray, List.set_cons_zero, List.set_cons_succ]
                              go_simp
                              refine hK.out _ _ ⟨gb, gr, cr, x115, x116, x117, (.slice lo ln lc), x119, x120, x121, x122, by simp only [Act.put, List.setIfInBounds_toArray, List.set_cons_zero, List.set_cons_succ], ?_⟩
                              exact ⟨fun h => hF.out.f0 (by simpa using h), fun h => hF.out.f1 (by simpa using h), fun h => hF.out.f2 (by simpa using h), fun _ => rfl, fun h => hF.out.f4 (by simpa using h), fun h => hF.out.f5 (by simpa using h), fun h => hF.out.f6 (by simpa using h), fun h => hF.out.f7 (by simpa using h), fun h => hF.out.f8 (by simpa using h), fun h => by have := hF.out.o5_4 (by simpa using h); simpa using this, fun h => by have := hF.out.o6_1 (by simpa using h); simpa using this, fun h => by have := hF.out.o6_5 (by simpa using h); simpa using this, fun h => by have := hF.out.q8_6 (by simpa using h); simpa using this, fun h => hF.out.m0 (by simpa using h), fun h h2 => hF.out.bs (by simpa using h) (by simpa using h2), fun h h2 => hF.out.th (by simpa using h) (by simpa using h2), fun h => hF.out.fin (by simpa using h)⟩
                            · intro d a W hI hd hdep
                              obtain ⟨gb, gr, cr, x115, x116, x117, x118, x119, x120, x121, x122, rfl, hF⟩ := hI
                              have hd2 : d 2 = true := dep_of hdep 2 (by kernel_rfl)
                              have hd3 : d 3 = true := dep_of hdep 3 (by kernel_rfl)
                              obtain rfl := hF.out.f2 hd2
                              obtain rfl := hF.out.f3 hd3
                              have HN5 : Hid (d 5 = false) := no_later hF.out.o5_4 hd
                              have HN6 : Hid (d 6 = false) := no_later hF.out.o6_5 HN5.out
                              have HN8 : Hid (d 8 = false) := no_later hF.out.q8_6 HN6.out
                              have hm0 := hF.out.m0 HN6.out
                              have hcl := HTG.out W hm0
                              clear hdep hd hd2 hd3
                              intro K hK
                              simp only [Act.put, List.setIfInBounds_toArray, List.set_cons_zero, List.set_cons_succ]
                              go_simp
                              refine hcl.mono ?_
                              rintro _ W1 ⟨rfl, hb1⟩
                              clear hcl
                              go_simp
                              refine hK.out _ _ ⟨gb, gr, cr, x115, x116, (.func (Fn.func 34) #[] #[.pointer (some ⟨pb, 0, none⟩)]), (.slice lo ln lc), (.int .i64 tz), x120, x121, x122, by simp only [Act.put, List.setIfInBounds_toArray, List.set_cons_zero, List.set_cons_succ], ?_⟩
                              exact ⟨fun h => hF.out.f0 (by simpa using h), fun h => hF.out.f1 (by simpa using h), fun h => hF.out.f2 (by simpa using h), fun h => hF.out.f3 (by simpa using h), fun _ => rfl, fun h => hF.out.f5 (by simpa using h), fun h => hF.out.f6 (by simpa using h), fun h => hF.out.f7 (by simpa using h), fun h => hF.out.f8 (by simpa using h), fun _ => by simp, fun h => by have := hF.out.o6_1 (by simpa using h); simpa using this, fun h => by have := hF.out.o6_5 (by simpa using h); simpa using this, fun h => by have := hF.out.q8_6 (by simpa using h); simpa using this, fun _ => hm0.next hb1, fun h => by have := HN5.out; simp [this] at h, fun h => by have := HN6.out; simp [this] at h, fun h => by have := HN8.out; simp [this] at h⟩
                            · intro d a W hI hd hdep
                              obtain ⟨gb, gr, cr, x115, x116, x117, x118, x119, x120, x121, x122, rfl, hF⟩ := hI
                              have hd4 : d 4 = true := dep_of hdep 4 (by kernel_rfl)
                              obtain rfl := hF.out.f4 hd4
                              have e5_4 := hd4
                              have HN6 : Hid (d 6 = false) := no_later hF.out.o6_5 hd
                              have HN8 : Hid (d 8 = false) := no_later hF.out.q8_6 HN6.out
                              have hm0 := hF.out.m0 HN6.out
                              clear hdep hd hd4
                              intro K hK
                              simp only [Act.put, List.setIfInBounds_toArray, List.set_cons_zero, List.set_cons_succ]
                              go_simp
                              refine hK.out _ _ ⟨W.heap.size, gr, cr, x115, x116, x117, x118, (.int .i64 tz), (.slice (some ⟨W.heap.size, 0, none⟩) 1 1), x121, x122, by simp only [Act.put, List.setIfInBounds_toArray, List.set_cons_zero, List.set_cons_succ], ?_⟩
                              have B1 := (Below.refl W.heap.size W).alloc (Nat.le_refl _) (Obj.cells #[.int .i64 tz] 3)
                              exact ⟨fun h => hF.out.f0 (by simpa using h), fun h => hF.out.f1 (by simpa using h), fun h => hF.out.f2 (by simpa using h), fun h => hF.out.f3 (by simpa using h), fun h => hF.out.f4 (by simpa using h), fun _ => rfl, fun h => hF.out.f6 (by simpa using h), fun h => hF.out.f7 (by simpa using h), fun h => hF.out.f8 (by simpa using h), fun _ => by simpa using e5_4, fun h => by have := hF.out.o6_1 (by simpa using h); simpa using this, fun _ => by simp, fun h => by have := hF.out.q8_6 (by simpa using h); simpa using this, fun _ => hm0.next B1, fun _ _ j u hj => by rw [cell_new W ([.int .i64 tz] : List Value) 3 j]; exact hj, fun h => by have := HN6.out; simp [this] at h, fun h => by have := HN8.out; simp [this] at h⟩
                            · intro d a W hI hd hdep
                              obtain ⟨gb, gr, cr, x115, x116, x117, x118, x119, x120, x121, x122, rfl, hF⟩ := hI
                              have hd1 : d 1 = true := dep_of hdep 1 (by kernel_rfl)
                              have hd5 : d 5 = true := dep_of hdep 5 (by kernel_rfl)
                              obtain rfl := hF.out.f1 hd1
                              obtain rfl := hF.out.f5 hd5
                              have e6_1 := hd1
                              have e6_5 := hd5
                              have HN8 : Hid (d 8 = false) := no_later hF.out.q8_6 hd
                              have e5 := hF.out.o5_4 hd5
                              have hm0 := hF.out.m0 hd
                              have hbk := hF.out.bs hd5 hd
                              have hm := run_append_lies (P := Try.prog) W 23 23 B 3 i3 _ 1 8 Try.underlying23 H3.out.1 H3.out.2.1 H3.out.2.2.1 H3.out.2.2.2 rfl (by omega) (.slice (some ⟨gt, 0, none⟩) S.length tc) S.length (tl2 p S S.length) hm0.rd.ta ⟨gb, 0, none⟩ 1 1 [.int .i64 tz] rfl (fun j u hj => by rw [Addr.add_lit, Nat.zero_add]; exact hbk j u hj) (by intro u hu; simp at hu; subst hu; rfl) (by omega) (by have := HSL.out; unfold maxLen; omega) (by have := HSL.out; omega) hm0.rd.ge.2 W.heap.size rfl
                              have hmm := hm.choose_spec.choose_spec.choose_spec
                              generalize hm.choose_spec.choose_spec.choose = W1x at hmm
                              generalize hm.choose_spec.choose = cr2 at hmm
                              generalize hm.choose = gr2 at hmm
                              have hrun := hmm.1
                              have hgr := hm0.rd.addT (g' := gr2) (c' := cr2) HSL.out.1 hmm.2.2.1 (by rw [HTZ.out]; exact hmm.2.1) hmm.2.2.2.1
                              have HM : Hid (W1x.rowIs B 30 2 (lv ro rc n gt tc S.length) ∧ Rb w1 B p n c rbk ab xb n0 b (S ++ [t]) (S ++ [t]) gs sc ro rc gr2 cr2 V (W1x.setCell ⟨B, 1, none⟩ (.slice (some ⟨gr2, 0, none⟩) (S.length + 1) cr2)) ∧ Below B w1 W1x) := ⟨hgr.1, by
                                obtain ⟨f9, hf9, hf8⟩ := hm0.rr
                                have k2 : Kt 30 W1x (W1x.setCell ⟨B, 1, none⟩ (.slice (some ⟨gr2, 0, none⟩) (S.length + 1) cr2)) := Kt.set (row_ty hgr.1)
                                have k1 := hgr.2.2.1
                                exact ⟨hgr.2.1, ⟨f9, k2.row (by decide) (k1.row (by decide) hf9), hf8⟩, k2.row (by decide) (k1.row (by decide) hm0.al), k2.row (by decide) (k1.row (by decide) hm0.xc), hm0.nr⟩, hgr.2.2.2⟩
                              clear hmm hm hbk hm0 hgr
                              clear hdep hd hd1 hd5
                              intro K hK
                              refine step_call_append (sv := (.slice (some ⟨gt, 0, none⟩) S.length tc)) (xv := .slice (some ⟨gb, 0, none⟩) 1 1) (v := (.slice (some ⟨gr2, 0, none⟩) (S.length + 1) cr2)) (W1 := W1x) (by rfl) _ _ 23 (by rfl) (by simp only [Act.put, List.setIfInBounds_toArray, List.set_cons_zero, List.set_cons_succ]; rfl) (by simp only [Act.put, List.setIfInBounds_toArray, List.set_cons_zero, List.set_cons_succ]; rfl) (by exact hrun) ?_
                              simp only [Act.put, List.setIfInBounds_toArray, List.set_cons_zero, List.set_cons_succ]
                              refine hK.out _ _ ⟨gb, gr2, cr2, x115, (.slice (some ⟨gt, 0, none⟩) S.length tc), x117, x118, x119, (.slice (some ⟨gb, 0, none⟩) 1 1), (.slice (some ⟨gr2, 0, none⟩) (S.length + 1) cr2), x122, by simp only [Act.put, List.setIfInBounds_toArray, List.set_cons_zero, List.set_cons_succ], ?_⟩
                              exact ⟨fun h => hF.out.f0 (by simpa using h), fun h => hF.out.f1 (by simpa using h), fun h => hF.out.f2 (by simpa using h), fun h => hF.out.f3 (by simpa using h), fun h => hF.out.f4 (by simpa using h), fun h => hF.out.f5 (by simpa using h), fun _ => rfl, fun h => hF.out.f7 (by simpa using h), fun h => hF.out.f8 (by simpa using h), fun h => by have := hF.out.o5_4 (by simpa using h); simpa using this, fun _ => by simpa using e6_1, fun _ => by simpa using e6_5, fun _ => by simp, fun h => by simp at h, fun _ h => by simp at h, fun _ _ => ⟨HM.out.1, HM.out.2.1⟩, fun h => by have := HN8.out; simp [this] at h⟩
                            · intro d a W hI hd hdep
                              obtain ⟨gb, gr, cr, x115, x116, x117, x118, x119, x120, x121, x122, rfl, hF⟩ := hI
                              clear hdep hd
                              intro K hK
                              simp only [Act.put, List.setIfInBounds_toArray, List.set_cons_zero, List.set_cons_succ]
                              go_simp
                              refine hK.out _ _ ⟨gb, gr, cr, x115, x116, x117, x118, x119, x120, x121, (.pointer (some ⟨B, 1, none⟩)), by simp only [Act.put, List.setIfInBounds_toArray, List.set_cons_zero, List.set_cons_succ], ?_⟩
                              exact ⟨fun h => hF.out.f0 (by simpa using h), fun h => hF.out.f1 (by simpa using h), fun h => hF.out.f2 (by simpa using h), fun h => hF.out.f3 (by simpa using h), fun h => hF.out.f4 (by simpa using h), fun h => hF.out.f5 (by simpa using h), fun h => hF.out.f6 (by simpa using h), fun _ => rfl, fun h => hF.out.f8 (by simpa using h), fun h => by have := hF.out.o5_4 (by simpa using h); simpa using this, fun h => by have := hF.out.o6_1 (by simpa using h); simpa using this, fun h => by have := hF.out.o6_5 (by simpa using h); simpa using this, fun h => by have := hF.out.q8_6 (by simpa using h); simpa using this, fun h => hF.out.m0 (by simpa using h), fun h h2 => hF.out.bs (by simpa using h) (by simpa using h2), fun h h2 => hF.out.th (by simpa using h) (by simpa using h2), fun h => hF.out.fin (by simpa using h)⟩
                            · intro d a W hI hd hdep
                              obtain ⟨gb, gr, cr, x115, x116, x117, x118, x119, x120, x121, x122, rfl, hF⟩ := hI
                              have hd7 : d 7 = true := dep_of hdep 7 (by kernel_rfl)
                              have hd6 : d 6 = true := dep_of hdep 6 (by kernel_rfl)
                              obtain rfl := hF.out.f7 hd7
                              obtain rfl := hF.out.f6 hd6
                              have e8_6 := hd6
                              have hth := hF.out.th hd6 hd
                              have ya := hth.1.cell (i := 1) (by omega)
                              simp only [lv] at ya
                              have yb := hth.1.frozen 1
                              have HTH : Hid _ := hth.2
                              clear hth
                              clear hdep hd hd7 hd6
                              intro K hK
                              simp only [Act.put, List.setIfInBounds_toArray, List.set_cons_zero, List.set_cons_succ]
                              go_simp
                              refine hK.out _ _ ⟨gb, gr, cr, x115, x116, x117, x118, x119, x120, (.slice (some ⟨gr, 0, none⟩) (S.length + 1) cr), (.pointer (some ⟨B, 1, none⟩)), by simp only [Act.put, List.setIfInBounds_toArray, List.set_cons_zero, List.set_cons_succ], ?_⟩
                              exact ⟨fun h => hF.out.f0 (by simpa using h), fun h => hF.out.f1 (by simpa using h), fun h => hF.out.f2 (by simpa using h), fun h => hF.out.f3 (by simpa using h), fun h => hF.out.f4 (by simpa using h), fun h => hF.out.f5 (by simpa using h), fun h => hF.out.f6 (by simpa using h), fun h => hF.out.f7 (by simpa using h), fun _ => trivial, fun h => by have := hF.out.o5_4 (by simpa using h); simpa using this, fun h => by have := hF.out.o6_1 (by simpa using h); simpa using this, fun h => by have := hF.out.o6_5 (by simpa using h); simpa using this, fun _ => by simpa using e8_6, fun h => by have := e8_6; simp [this] at h, fun _ h => by have := e8_6; simp [this] at h, fun _ h => by simp at h, fun _ => HTH.out⟩
                          · intro d a W hI hall
                            obtain ⟨gb, gr, cr, x115, x116, x117, x118, x119, x120, x121, x122, rfl, hF⟩ := hI
                            simp only [List.length_cons, List.length_nil] at hall
                            obtain rfl := hF.out.f0 (hall 0 (by omega))
                            obtain rfl := hF.out.f1 (hall 1 (by omega))
                            obtain rfl := hF.out.f2 (hall 2 (by omega))
                            obtain rfl := hF.out.f3 (hall 3 (by omega))
                            obtain rfl := hF.out.f4 (hall 4 (by omega))
                            obtain rfl := hF.out.f5 (hall 5 (by omega))
                            obtain rfl := hF.out.f6 (hall 6 (by omega))
                            obtain rfl := hF.out.f7 (hall 7 (by omega))
                            have HRB8 : Hid (Rb w1 B p n c rbk ab xb n0 b (S ++ [t]) (S ++ [t]) gs sc ro rc gr cr V W) := hF.out.fin (hall 8 (by omega))
                            clear hF hall HRB7 HTG
                            obtain ⟨wz, rfl⟩ : ∃ z, z = W := ⟨_, rfl⟩
                            simp only [Act.put, List.setIfInBounds_toArray, List.set_cons_zero, List.set_cons_succ]
                            by_cases h200 : 200 < sm
                            · have d1 : decide ((200 : Int) < (sm : Int)) = true := by simp; omega
                              have e1 : decide (200 < sm) = true := by simp; omega
                              have HEND : Hid (Dm.End p (n + 1) ∧ 200 < (G p (n + 1)).length) := by
                                have h9 : 200 < (G p (n + 1)).length := by
                                  have hm := grow_mono (hv p) (G p n) c (b + 1) (255 - b)
                                  rw [show b + 1 + (255 - b) = 256 by have := HB6.out; omega] at hm
                                  have h8 := hm.length_le
                                  have h7 : grow (hv p) (G p n) c (b + 1) = S ++ [t] := by
                                    show add (grow (hv p) (G p n) c b) (meet c (hv p b)) = _
                                    rw [HSS.out, HT.out]; exact HNW.out.1
                                  rw [h7] at h8
                                  have h6 : (S ++ [t]).length = sm := by rw [← HSM.out, HSN2.out]; simp
                                  have h5 : (grow (hv p) (G p n) c 256).length = (G p (n + 1)).length := by rw [← HCN.out]; rfl
                                  omega
                                exact ⟨HGD.out.over hnl h9, h9⟩
                              have hbl := HRB8.out.rd.bl
                              have HBF : Hid (Below B w1 wz) := hbl
                              have hrs := HRS.out wz hbl
                              have z0 := hrs.cell (i := 0) (by omega)
                              have z1 := hrs.cell (i := 1) (by omega)
                              have z2 := hrs.frozen 0
                              have z3 := hrs.frozen 1
                              clear hbl h200
                              go_wp2_with fail
                              have hrow : ((wz.setCell ⟨rs, 0, none⟩ (.slice none 0 0)).setCell ⟨rs, 1, none⟩ (.slice none 0 0)).rowIs rs 30 2 (fun _ => .slice none 0 0) := ((hrs.set 0 _).set 1 _).congr fun i hi => by
                                have : i = 0 ∨ i = 1 := by omega
                                rcases this with rfl | rfl <;> simp
                              have hc0 := hrow.cell (i := 0) (by omega)
                              have hc1 := hrow.cell (i := 1) (by omega)
                              refine bodyPost_ret (v := .tuple #[.agg #[.slice none 0 0, .slice none 0 0], .int .i64 8]) (by simp [results, Try.results12, go_sem, hc0, hc1]) rfl ⟨n + 1, HEND.out.1, Or.inl ⟨HEND.out.2, rfl⟩, ?_⟩
                              exact ((HBW.out wz HBF.out).setCell HS.out.2.2.1 _).setCell HS.out.2.2.1 _
                            · have d1 : decide ((200 : Int) < (sm : Int)) = false := by simp; omega
                              have e1 : decide (200 < sm) = false := by simp; omega
                              have HRBZ := HRB8
                              obtain ⟨gtz, HGTZ⟩ : ∃ z, z = gr := ⟨_, rfl⟩
                              obtain ⟨tcz, HTCZ⟩ : ∃ z, z = cr := ⟨_, rfl⟩
                              rw [← HGTZ, ← HTCZ] at HRBZ
                              have HZL : Hid (sn ≤ 200) := (by have := HSM.out; omega : sn ≤ 200)
                              have HZ2 : Hid ((S ++ [t]).length ≤ 200) := (by have := HSM.out; have := HSN2.out; simp; omega : (S ++ [t]).length ≤ 200)
                              have HZA : Hid ((sn : Int) = rA p n b) := by
                                show _ = _
                                rw [rA_is p n HB6.out, HCN.out, HT.out, show grow (hv p) (G p n) c (b + 1) = S ++ [t] by
                                  show add (grow (hv p) (G p n) c b) (meet c (hv p b)) = _
                                  rw [HSS.out, HT.out]; exact HNW.out.1, HNW.out.2, HSN2.out]
                              have hwr : IntKind.i16.wrap (sn : Int) = (sn : Int) := by
                                have := HZL.out
                                simp [IntKind.wrap, IntKind.bits, IntKind.signed]; omega
                              obtain ⟨v9, yb, yf⟩ := HRBZ.out.cell HB6.out
                              have HNX : Hid (((S ++ [t])).length ≤ 200 ∧ Rb w1 B p n c rbk ab xb n0 (b + 1) (S ++ [t]) (S ++ [t]) gs sc ro rc gtz tcz V (wz.setCell ⟨rbk, b, none⟩ (.int .i16 (sn : Int)))) := ⟨HZ2.out, (HRBZ.out.set (sn : Int)).2 HZA.out⟩
                              have HNY : Hid (sm = (grow (hv p) (G p n) c (b + 1)).length ∧ sm ≤ 200 ∧ ∃ V, Rb w1 B p n c rbk ab xb n0 (b + 1) (grow (hv p) (G p n) c (b + 1)) (grow (hv p) (G p n) c (b + 1)) gs sc ro rc gtz tcz V (wz.setCell ⟨rbk, b, none⟩ (.int .i16 (sn : Int)))) := by
                                have h7 : grow (hv p) (G p n) c (b + 1) = S ++ [t] := by
                                  show add (grow (hv p) (G p n) c b) (meet c (hv p b)) = _
                                  rw [HSS.out, HT.out]; exact HNW.out.1
                                rw [h7]
                                exact ⟨by have := HSM.out; have := HSN2.out; simp; omega, by omega, _, HNX.out.2⟩
                              clear HNX HRB8 HRBZ h200
                              go_wp2_with fail
                              go_roundw
                              case rel => exact ⟨b + 1, gs, sc, gtz, tcz, sm, by go_num, rfl, by omega, HNY⟩
                              case measure => simp [intOf]; omega
              · obtain rfl : b = 256 := by omega
                have hG : grow (hv p) (G p n) c 256 = G p (n + 1) := by rw [← HCN.out]; rfl
                have HSG : Hid (S = G p (n + 1)) := by show _ = _; rw [← HSS.out, hG]
                clear hG
                obtain ⟨l, HLL0⟩ : ∃ l, Hid (rl (rA p n) = l) := ⟨_, (rfl : _ = _)⟩
                have HLL : Hid (l.length = 256 ∧ ∀ u ∈ l, u.oneCell' = true) := by rw [← HLL0.out]; exact ⟨rl_length _, rl_mem _⟩
                have HR : Hid (wr.rangeAt rbk 0 l) := fun j v hv => by
                  rw [← HLL0.out] at hv
                  have hj : j < 256 := by have := (List.getElem?_eq_some_iff.1 hv).1; rwa [rl_length] at this
                  rw [rl_at _ j hj] at hv
                  obtain ⟨f9, hf9, hf8⟩ := HRB.out.rr
                  rw [Nat.zero_add, hf9.cell hj, hf8 j hj, ← hv]
                have hb4 := (Below.refl wr.heap.size wr).alloc (Nat.le_refl _) (Obj.cells l.toArray 72)
                have hr4 := HRB.out.rd.next hb4
                obtain ⟨g2, c2, w7, hrun, hown, hgrw, hor, -⟩ := run_append_lies (P := Try.prog) (wr.alloc (Obj.cells l.toArray 72)) 28 28 B 72 i72 _ 256 512 Try.underlying28 H72.out.1 H72.out.2.1 H72.out.2.2.1 H72.out.2.2.2 HSZ2.out (by omega) (.slice ro n rc) n (rcs p n) hr4.rs ⟨wr.heap.size, 0, none⟩ 1 1 l (by rw [HLL.out.1]) (fun i u hu => by rw [Addr.add_lit, Nat.zero_add, cell_new wr l 72 i]; exact hu) HLL.out.2 (by omega) (by unfold maxLen; omega) (by omega) hr4.ge.2 _ rfl
                have hadd := hr4.addR (g' := g2) (c' := c2) hgrw (by rw [rcs_succ, HLL0.out]; exact hown)
                have HRUN : Hid _ := hrun
                have yr := HRB.out.rd.bx.cell (i := 0) (by omega)
                simp only [lv, if_true] at yr
                have ys := hadd.1.cell (i := 0) (by omega)
                have yf := hadd.1.frozen 0
                have HNX : Hid (sn = (G p (n + 1)).length ∧ Gd p (n + 1) ∧ ∃ V, Rd w1 B B p (G p (n + 1)) (G p (n + 1)) (n + 1) gs sc (some ⟨g2, 0, none⟩) c2 gt tc V (w7.setCell ⟨B, 0, none⟩ (.slice (some ⟨g2, 0, none⟩) (n + 1) c2))) := by
                  rw [← HSG.out]
                  exact ⟨HSN2.out, HGD.out.next hnl (by rw [← HSG.out]; have := HSN3.out; omega), _, hadd.2⟩
                clear hrun hown hgrw hor hadd hr4 hb4 HRB
                go_wp2_with (first | refine wpList_load_mid rfl 72 _ rfl rbk 0 rfl l _ HR.out Try.underlying72 rfl (by rw [HLL.out.1]; exact size35) ?_ | refine wpList_buildRow rfl _ rfl l HLL.out.1 rfl ?_ | refine wpList_append_run rfl _ _ 28 rfl _ _ rfl rfl HRUN.out ?_)
                clear HRUN
                go_roundw
                case rel => exact ⟨n + 1, gs, sc, c2, gt, tc, sn, some ⟨g2, 0, none⟩, by go_num, rfl, HNX⟩
                case measure => simp [intOf]; omega
      · have bz : ((n : Int) == 0) = false := by simpa using hz
        obtain ⟨F0, HF0⟩ : ∃ F0 : Nat → Bool, Hid (F0 = fun _ => false) := ⟨_, rfl⟩
        have HFC : Hid (∀ x, x < p.cls.length → (F0 x || behindB p lf x) = mem c x) := fun x hx => by
          have hn9 := HOK.out.2
          rw [HF0.out, ← HCN.out]
          unfold nx
          rw [if_neg hz, Bool.false_or, ← HLF0.out]
          have hb : Bd p ((G p n).getD n empty) := G_bd hn9 n _ (tail_getD (by omega) hnl)
          refine (bh_behind HOK.out.1 hn9 (fun z hz2 => ?_) (fun y hy => sel_same hb y hy) (by omega)).symm
          obtain ⟨q, h1, -, rfl⟩ := (sel_mem _ _ _).1 hz2
          omega
        have HM0 : Hid (w8.rowIs ab 4 n0 (fun x => .bool (F0 x)) ∧ w8.grownBy w8 (some ab)) := ⟨H8.out.2.1.congr fun x _ => by rw [HF0.out], ⟨rfl, rfl, rfl, Nat.le_refl _, fun _ _ _ => rfl⟩⟩
        clear hz
        go_wp2_with fail
        go_loopw [11] (fun z wx => ∃ k : Nat, k ≤ fl ∧ z = .int .i64 (k : Int) ∧ Hid (wx.rowIs ab 4 n0 (fun x => .bool (F0 x || behindB p (lf.take k) x)) ∧ w8.grownBy wx (some ab))) (fun z _ => fl - (intOf z).toNat)
        case atStart => exact ⟨0, by omega, rfl, HM0.out.1.congr fun x _ => by simp [behindB], HM0.out.2⟩
        case round =>
          clear HM0
          obtain ⟨k, hk, rfl, HA2⟩ := hrel
          by_cases hkl : k < fl
          · have hk0 : (0 : Int) ≤ (k : Int) := by omega
            have hk1 : (k : Int) < (fl : Int) := by omega
            have hkl2 : k < lf.length := by rw [HFLN.out]; exact hkl
            have hI := HIF.out
            obtain ⟨_, _, he, -, hI2⟩ := hI
            simp only [Value.slice.injEq] at he
            obtain ⟨rfl, -, rfl⟩ := he
            obtain ⟨cf, of, rfl, hcf, hcellf⟩ := hI2.resolve_left (fun e => by rw [e] at hkl2; simp at hkl2)
            have hcab : cf ≠ ab := by have := HABL.out; omega
            have hxab : xb ≠ ab := by have := HXB.out; omega
            have hw8 : ab ≤ w8.heap.size := by
              have := H8.out.1.size
              have := HABL.out
              omega
            have hyk : (lf[k]'hkl2) ∈ sel p.cls.length (mem ((G p n).getD n empty)) := by rw [HLF0.out]; exact List.getElem_mem hkl2
            obtain ⟨y, hy1, -, hy3⟩ := (sel_mem _ _ _).1 hyk
            have HY : Hid (lf[k]'hkl2 = (y : Int)) := hy3
            have hyf : y < p.follow.length := by rw [HFL.out.1]; exact hy1
            have hFw := (HP1.out w8 HR8.out.bl).follow
            obtain ⟨_, _, he, -, hF2⟩ := hFw
            simp only [Value.slice.injEq] at he
            obtain ⟨rfl, -, rfl⟩ := he
            obtain ⟨c3, o3, rfl, hc3, hcell3⟩ := hF2.resolve_left (fun e => by rw [e] at hyf; simp at hyf)
            obtain ⟨u, hu1, hu2⟩ := hcell3 y hyf
            have HU : Hid (Ints w8 u (p.follow[y]'hyf)) := hu2
            obtain ⟨uo, uc, rfl, -, -⟩ := hu2
            obtain ⟨l9, HL90⟩ : ∃ z, Hid (p.follow[y]'hyf = z) := ⟨p.follow[y]'hyf, Eq.refl _⟩
            have HL9 : Hid (p.follow.getD y [] = l9) := by show _ = _; rw [List.getD_eq_getElem?_getD, List.getElem?_eq_getElem hyf, ← HL90.out]; rfl
            rw [HL90.out] at HU hu1
            have hpbl : pb < w8.heap.size := by have := HS.out.1; have := HR8.out.ge.2; omega
            have hpab : pb ≠ ab := by have := HS.out.1; have := HABL.out; have := HRD.out.ge.2; omega
            have far : ∀ {q o : Nat} {v : Value} {W : World}, q ≠ ab → q < w8.heap.size → w8.cell? ⟨q, o, none⟩ = some v → w8.grownBy W (some ab) → W.cell? ⟨q, o, none⟩ = some v := fun hq hl hv hg => (hg.cell_far _ hl (by simpa using hq)).trans hv
            have hc3ab : c3 ≠ ab := by
              rintro rfl
              have e0 := H8.out.2.1
              obtain ⟨cc, hcc, hsz, -⟩ := H8.out.2.1
              have e1 : w8.cell? ⟨c3, o3 + y, none⟩ = cc[o3 + y]? := by simp [World.cell?, hcc]
              rw [e1] at hu1
              have hl9 := (Array.getElem?_eq_some_iff.1 hu1).1
              have e2 := e0.cell (i := o3 + y) (by omega)
              rw [e1, hu1] at e2; cases e2
            have HC1 : Hid (∀ W, w8.grownBy W (some ab) → W.cell? ⟨pb, 3, none⟩ = some (.slice (some ⟨c3, o3, none⟩) n3 k3)) := fun W hW => far hpab hpbl (HPC.out w8 HR8.out.bl).2.2.2.1 hW
            have HC2 : Hid (∀ W, w8.grownBy W (some ab) → W.cell? ⟨cf, of + k, none⟩ = some (.int .i64 (y : Int))) := fun W hW => far hcab (by have := HABL.out; omega) ((H8.out.1.cell (p := ⟨cf, of + k, none⟩) (by have := HABL.out; show cf < ab; omega)).trans (by rw [← HY.out]; exact hcellf k hkl2)) hW
            have HC3 : Hid (∀ W, w8.grownBy W (some ab) → W.cell? ⟨c3, o3 + y, none⟩ = some (.slice uo l9.length uc)) := fun W hW => far hc3ab hc3 hu1 hW
            have HMA : Hid (∀ W, w8.grownBy W (some ab) → W.rowIs ab 4 n0 (fun i => .bool (F0 i || behindB p (lf.take k) i)) → Calls Try.prog 35 #[.slice uo l9.length uc, .pointer (some ⟨xb, 0, none⟩)] W fun e w' => e = .returned (.tuple #[]) ∧ w'.rowIs ab 4 n0 (fun i => .bool ((F0 i || behindB p (lf.take k) i) || l9.contains (i : Int))) ∧ W.grownBy w' (some ab)) := fun W hW hr => by
              refine mark_any uo uc l9 xb ab n0 _ W (HU.out.far H8.out.2.1 hW) (fun x hx => ?_) (far hxab H8.out.2.2.lt (H8.out.2.2.cell (i := 0) (by omega)) hW) hr
              have h1 := HFL.out.2
              rw [List.all_eq_true] at h1
              have h2 := ((risesFrom_iff _ _ _).1 (h1 _ (List.getElem_mem hyf))).1 x (by rw [HL90.out]; exact hx)
              have := HN0.out
              omega
            have hy0 : (0 : Int) ≤ (y : Int) := by omega
            have hy9 : (y : Int) < (n3 : Int) := by have := HN3.out; omega
            obtain ⟨ul, HUL⟩ : ∃ z, Hid (l9.length = z) := ⟨_, (rfl : _ = _)⟩
            rw [HUL.out] at HC3 HMA
            clear hcellf hyk hy1 hy3 hcell3 hu1 far hc3ab hpab hpbl hxab hcab hw8 hc3 hcf hI2 hF2
            go_upto_region 16 with fail
            refine wp_region_free mixed (fun a0 d a W => ∃ (x50 x51 x52 x53 x54 x55 x56 x57 x58 x59 : Value), a = ((((((((((a0.put (some 50) x50).put (some 51) x51).put (some 52) x52).put (some 53) x53).put (some 54) x54).put (some 55) x55).put (some 56) x56).put (some 57) x57).put (some 58) x58).put (some 59) x59) ∧ Hid (RD16 w8 ab xb pb n0 n3 c3 o3 k3 cf of fl fc k y uo ul uc (fun x => F0 x || behindB p (lf.take k) x) l9 d x50 x51 x52 x53 x54 x55 x56 x57 x58 x59 W)) (by kernel_rfl) ⟨u50, u51, u52, u53, u54, u55, u56, u57, u58, u59, by simp only [Act.put, List.setIfInBounds_toArray, List.set_cons_zero, List.set_cons_succ], ?_⟩ ?_ ?_
            · exact ⟨fun h => no_way h, fun h => no_way h, fun h => no_way h, fun h => no_way h, fun h => no_way h, fun h => no_way h, fun h => no_way h, fun h => no_way h, fun h => no_way h, fun h => no_way h, HA2.out.2.trans ⟨rfl, rfl, rfl, Nat.le_refl _, fun _ _ _ => rfl⟩, fun _ => HA2.out.1.drew, fun h => no_way h⟩
            · simp only [StepAll, and_true]
              refine ⟨?_, ?_, ?_, ?_, ?_, ?_, ?_, ?_, ?_, ?_⟩
              · intro d a W hI hd hdep
                obtain ⟨x50, x51, x52, x53, x54, x55, x56, x57, x58, x59, rfl, hF⟩ := hI
                clear hdep hd
                intro K hK
                simp only [Act.put, List.setIfInBounds_toArray, List.set_cons_zero, List.set_cons_succ]
                go_simp
                refine hK.out _ _ ⟨(.func (Fn.func 35) #[] #[.pointer (some ⟨xb, 0, none⟩)]), x51, x52, x53, x54, x55, x56, x57, x58, x59, by simp only [Act.put, List.setIfInBounds_toArray, List.set_cons_zero, List.set_cons_succ], ?_⟩
                exact ⟨fun _ => rfl, fun h => hF.out.f1 (by simpa using h), fun h => hF.out.f2 (by simpa using h), fun h => hF.out.f3 (by simpa using h), fun h => hF.out.f4 (by simpa using h), fun h => hF.out.f5 (by simpa using h), fun h => hF.out.f6 (by simpa using h), fun h => hF.out.f7 (by simpa using h), fun h => hF.out.f8 (by simpa using h), fun h => hF.out.f9 (by simpa using h), hF.out.gb, fun h => hF.out.r0 (by simpa using h), fun h => hF.out.r1 (by simpa using h)⟩
              · intro d a W hI hd hdep
                obtain ⟨x50, x51, x52, x53, x54, x55, x56, x57, x58, x59, rfl, hF⟩ := hI
                clear hdep hd
                intro K hK
                simp only [Act.put, List.setIfInBounds_toArray, List.set_cons_zero, List.set_cons_succ]
                go_simp
                refine hK.out _ _ ⟨x50, (.pointer (some ⟨pb, 3, none⟩)), x52, x53, x54, x55, x56, x57, x58, x59, by simp only [Act.put, List.setIfInBounds_toArray, List.set_cons_zero, List.set_cons_succ], ?_⟩
                exact ⟨fun h => hF.out.f0 (by simpa using h), fun _ => rfl, fun h => hF.out.f2 (by simpa using h), fun h => hF.out.f3 (by simpa using h), fun h => hF.out.f4 (by simpa using h), fun h => hF.out.f5 (by simpa using h), fun h => hF.out.f6 (by simpa using h), fun h => hF.out.f7 (by simpa using h), fun h => hF.out.f8 (by simpa using h), fun h => hF.out.f9 (by simpa using h), hF.out.gb, fun h => hF.out.r0 (by simpa using h), fun h => hF.out.r1 (by simpa using h)⟩
              · intro d a W hI hd hdep
                obtain ⟨x50, x51, x52, x53, x54, x55, x56, x57, x58, x59, rfl, hF⟩ := hI
                have hd1 : d 1 = true := dep_of hdep 1 (by kernel_rfl)
                obtain rfl := hF.out.f1 hd1
                have ya := HC1.out W hF.out.gb
                clear hdep hd hd1
                intro K hK
                simp only [Act.put, List.setIfInBounds_toArray, List.set_cons_zero, List.set_cons_succ]
                go_simp
                refine hK.out _ _ ⟨x50, (.pointer (some ⟨pb, 3, none⟩)), (.slice (some ⟨c3, o3, none⟩) n3 k3), x53, x54, x55, x56, x57, x58, x59, by simp only [Act.put, List.setIfInBounds_toArray, List.set_cons_zero, List.set_cons_succ], ?_⟩
                exact ⟨fun h => hF.out.f0 (by simpa using h), fun h => hF.out.f1 (by simpa using h), fun _ => rfl, fun h => hF.out.f3 (by simpa using h), fun h => hF.out.f4 (by simpa using h), fun h => hF.out.f5 (by simpa using h), fun h => hF.out.f6 (by simpa using h), fun h => hF.out.f7 (by simpa using h), fun h => hF.out.f8 (by simpa using h), fun h => hF.out.f9 (by simpa using h), hF.out.gb, fun h => hF.out.r0 (by simpa using h), fun h => hF.out.r1 (by simpa using h)⟩
              · intro d a W hI hd hdep
                obtain ⟨x50, x51, x52, x53, x54, x55, x56, x57, x58, x59, rfl, hF⟩ := hI
                clear hdep hd
                intro K hK
                simp only [Act.put, List.setIfInBounds_toArray, List.set_cons_zero, List.set_cons_succ]
                go_simp
                refine hK.out _ _ ⟨x50, x51, x52, (.slice (some ⟨cf, of, none⟩) fl fc), x54, x55, x56, x57, x58, x59, by simp only [Act.put, List.setIfInBounds_toArray, List.set_cons_zero, List.set_cons_succ], ?_⟩
                exact ⟨fun h => hF.out.f0 (by simpa using h), fun h => hF.out.f1 (by simpa using h), fun h => hF.out.f2 (by simpa using h), fun _ => rfl, fun h => hF.out.f4 (by simpa using h), fun h => hF.out.f5 (by simpa using h), fun h => hF.out.f6 (by simpa using h), fun h => hF.out.f7 (by simpa using h), fun h => hF.out.f8 (by simpa using h), fun h => hF.out.f9 (by simpa using h), hF.out.gb, fun h => hF.out.r0 (by simpa using h), fun h => hF.out.r1 (by simpa using h)⟩
              · intro d a W hI hd hdep
                obtain ⟨x50, x51, x52, x53, x54, x55, x56, x57, x58, x59, rfl, hF⟩ := hI
                clear hdep hd
                intro K hK
                simp only [Act.put, List.setIfInBounds_toArray, List.set_cons_zero, List.set_cons_succ]
                go_simp
                refine hK.out _ _ ⟨x50, x51, x52, x53, (.int .i64 (k : Int)), x55, x56, x57, x58, x59, by simp only [Act.put, List.setIfInBounds_toArray, List.set_cons_zero, List.set_cons_succ], ?_⟩
                exact ⟨fun h => hF.out.f0 (by simpa using h), fun h => hF.out.f1 (by simpa using h), fun h => hF.out.f2 (by simpa using h), fun h => hF.out.f3 (by simpa using h), fun _ => rfl, fun h => hF.out.f5 (by simpa using h), fun h => hF.out.f6 (by simpa using h), fun h => hF.out.f7 (by simpa using h), fun h => hF.out.f8 (by simpa using h), fun h => hF.out.f9 (by simpa using h), hF.out.gb, fun h => hF.out.r0 (by simpa using h), fun h => hF.out.r1 (by simpa using h)⟩
              · intro d a W hI hd hdep
                obtain ⟨x50, x51, x52, x53, x54, x55, x56, x57, x58, x59, rfl, hF⟩ := hI
                have hd3 : d 3 = true := dep_of hdep 3 (by kernel_rfl)
                have hd4 : d 4 = true := dep_of hdep 4 (by kernel_rfl)
                obtain rfl := hF.out.f3 hd3
                obtain rfl := hF.out.f4 hd4
                clear hdep hd hd3 hd4
                intro K hK
                simp only [Act.put, List.setIfInBounds_toArray, List.set_cons_zero, List.set_cons_succ]
                go_simp
                refine hK.out _ _ ⟨x50, x51, x52, (.slice (some ⟨cf, of, none⟩) fl fc), (.int .i64 (k : Int)), (.pointer (some ⟨cf, of + k, none⟩)), x56, x57, x58, x59, by simp only [Act.put, List.setIfInBounds_toArray, List.set_cons_zero, List.set_cons_succ], ?_⟩
                exact ⟨fun h => hF.out.f0 (by simpa using h), fun h => hF.out.f1 (by simpa using h), fun h => hF.out.f2 (by simpa using h), fun h => hF.out.f3 (by simpa using h), fun h => hF.out.f4 (by simpa using h), fun _ => rfl, fun h => hF.out.f6 (by simpa using h), fun h => hF.out.f7 (by simpa using h), fun h => hF.out.f8 (by simpa using h), fun h => hF.out.f9 (by simpa using h), hF.out.gb, fun h => hF.out.r0 (by simpa using h), fun h => hF.out.r1 (by simpa using h)⟩
              · intro d a W hI hd hdep
                obtain ⟨x50, x51, x52, x53, x54, x55, x56, x57, x58, x59, rfl, hF⟩ := hI
                have hd5 : d 5 = true := dep_of hdep 5 (by kernel_rfl)
                obtain rfl := hF.out.f5 hd5
                have ya := HC2.out W hF.out.gb
                clear hdep hd hd5
                intro K hK
                simp only [Act.put, List.setIfInBounds_toArray, List.set_cons_zero, List.set_cons_succ]
                go_simp
                refine hK.out _ _ ⟨x50, x51, x52, x53, x54, (.pointer (some ⟨cf, of + k, none⟩)), (.int .i64 (y : Int)), x57, x58, x59, by simp only [Act.put, List.setIfInBounds_toArray, List.set_cons_zero, List.set_cons_succ], ?_⟩
                exact ⟨fun h => hF.out.f0 (by simpa using h), fun h => hF.out.f1 (by simpa using h), fun h => hF.out.f2 (by simpa using h), fun h => hF.out.f3 (by simpa using h), fun h => hF.out.f4 (by simpa using h), fun h => hF.out.f5 (by simpa using h), fun _ => rfl, fun h => hF.out.f7 (by simpa using h), fun h => hF.out.f8 (by simpa using h), fun h => hF.out.f9 (by simpa using h), hF.out.gb, fun h => hF.out.r0 (by simpa using h), fun h => hF.out.r1 (by simpa using h)⟩
              · intro d a W hI hd hdep
                obtain ⟨x50, x51, x52, x53, x54, x55, x56, x57, x58, x59, rfl, hF⟩ := hI
                have hd2 : d 2 = true := dep_of hdep 2 (by kernel_rfl)
                have hd6 : d 6 = true := dep_of hdep 6 (by kernel_rfl)
                obtain rfl := hF.out.f2 hd2
                obtain rfl := hF.out.f6 hd6
                clear hdep hd hd2 hd6
                intro K hK
                simp only [Act.put, List.setIfInBounds_toArray, List.set_cons_zero, List.set_cons_succ]
                go_simp
                refine hK.out _ _ ⟨x50, x51, (.slice (some ⟨c3, o3, none⟩) n3 k3), x53, x54, x55, (.int .i64 (y : Int)), (.pointer (some ⟨c3, o3 + y, none⟩)), x58, x59, by simp only [Act.put, List.setIfInBounds_toArray, List.set_cons_zero, List.set_cons_succ], ?_⟩
                exact ⟨fun h => hF.out.f0 (by simpa using h), fun h => hF.out.f1 (by simpa using h), fun h => hF.out.f2 (by simpa using h), fun h => hF.out.f3 (by simpa using h), fun h => hF.out.f4 (by simpa using h), fun h => hF.out.f5 (by simpa using h), fun h => hF.out.f6 (by simpa using h), fun _ => rfl, fun h => hF.out.f8 (by simpa using h), fun h => hF.out.f9 (by simpa using h), hF.out.gb, fun h => hF.out.r0 (by simpa using h), fun h => hF.out.r1 (by simpa using h)⟩
              · intro d a W hI hd hdep
                obtain ⟨x50, x51, x52, x53, x54, x55, x56, x57, x58, x59, rfl, hF⟩ := hI
                have hd7 : d 7 = true := dep_of hdep 7 (by kernel_rfl)
                obtain rfl := hF.out.f7 hd7
                have ya := HC3.out W hF.out.gb
                clear hdep hd hd7
                intro K hK
                simp only [Act.put, List.setIfInBounds_toArray, List.set_cons_zero, List.set_cons_succ]
                go_simp
                refine hK.out _ _ ⟨x50, x51, x52, x53, x54, x55, x56, (.pointer (some ⟨c3, o3 + y, none⟩)), (.slice uo ul uc), x59, by simp only [Act.put, List.setIfInBounds_toArray, List.set_cons_zero, List.set_cons_succ], ?_⟩
                exact ⟨fun h => hF.out.f0 (by simpa using h), fun h => hF.out.f1 (by simpa using h), fun h => hF.out.f2 (by simpa using h), fun h => hF.out.f3 (by simpa using h), fun h => hF.out.f4 (by simpa using h), fun h => hF.out.f5 (by simpa using h), fun h => hF.out.f6 (by simpa using h), fun h => hF.out.f7 (by simpa using h), fun _ => rfl, fun h => hF.out.f9 (by simpa using h), hF.out.gb, fun h => hF.out.r0 (by simpa using h), fun h => hF.out.r1 (by simpa using h)⟩
              · intro d a W hI hd hdep
                obtain ⟨x50, x51, x52, x53, x54, x55, x56, x57, x58, x59, rfl, hF⟩ := hI
                have hd0 : d 0 = true := dep_of hdep 0 (by kernel_rfl)
                have hd8 : d 8 = true := dep_of hdep 8 (by kernel_rfl)
                obtain rfl := hF.out.f0 hd0
                obtain rfl := hF.out.f8 hd8
                have hr0 := hF.out.r0 hd
                have hcl := HMA.out W hF.out.gb hr0
                clear hdep hd hd0 hd8
                intro K hK
                simp only [Act.put, List.setIfInBounds_toArray, List.set_cons_zero, List.set_cons_succ]
                go_simp
                refine hcl.mono ?_
                rintro _ W1 ⟨rfl, hr1, hg1⟩
                clear hcl
                go_simp
                refine hK.out _ _ ⟨(.func (Fn.func 35) #[] #[.pointer (some ⟨xb, 0, none⟩)]), x51, x52, x53, x54, x55, x56, x57, (.slice uo ul uc), (.tuple #[]), by simp only [Act.put, List.setIfInBounds_toArray, List.set_cons_zero, List.set_cons_succ], ?_⟩
                exact ⟨fun h => hF.out.f0 (by simpa using h), fun h => hF.out.f1 (by simpa using h), fun h => hF.out.f2 (by simpa using h), fun h => hF.out.f3 (by simpa using h), fun h => hF.out.f4 (by simpa using h), fun h => hF.out.f5 (by simpa using h), fun h => hF.out.f6 (by simpa using h), fun h => hF.out.f7 (by simpa using h), fun h => hF.out.f8 (by simpa using h), fun _ => rfl, hF.out.gb.trans hg1, fun h => by simp at h, fun _ => hr1⟩
            · intro d a W hI hall
              obtain ⟨x50, x51, x52, x53, x54, x55, x56, x57, x58, x59, rfl, hF⟩ := hI
              simp only [List.length_cons, List.length_nil] at hall
              obtain rfl := hF.out.f0 (hall 0 (by omega))
              obtain rfl := hF.out.f1 (hall 1 (by omega))
              obtain rfl := hF.out.f2 (hall 2 (by omega))
              obtain rfl := hF.out.f3 (hall 3 (by omega))
              obtain rfl := hF.out.f4 (hall 4 (by omega))
              obtain rfl := hF.out.f5 (hall 5 (by omega))
              obtain rfl := hF.out.f6 (hall 6 (by omega))
              obtain rfl := hF.out.f7 (hall 7 (by omega))
              obtain rfl := hF.out.f8 (hall 8 (by omega))
              obtain rfl := hF.out.f9 (hall 9 (by omega))
              have HNX : Hid (W.rowIs ab 4 n0 (fun x => .bool (F0 x || behindB p (lf.take (k + 1)) x)) ∧ w8.grownBy W (some ab)) := ⟨(hF.out.r1 (hall 9 (by omega))).congr fun x _ => by
                have e := behindB_snoc p lf k hkl2 x
                rw [e, HY.out, show ((y : Int)).toNat = y by omega, HL9.out, Bool.or_assoc], hF.out.gb⟩
              clear hF hall
              simp only [Act.put, List.setIfInBounds_toArray, List.set_cons_zero, List.set_cons_succ]
              go_wp2_with fail
              go_roundw
              case rel => exact ⟨k + 1, by omega, by go_num, HNX⟩
              case measure => simp [intOf]; omega
          · obtain rfl : k = fl := by omega
            have HMK : Hid (wr.rowIs ab 4 n0 (fun x => .bool (mem c x)) ∧ w8.grownBy wr (some ab)) := ⟨HA2.out.1.congr fun x hx => by
              rw [List.take_of_length_le (by rw [HFLN.out]; exact Nat.le_refl _)]
              rw [HFC.out x (by have := HN0.out; omega)], HA2.out.2⟩
            clear HA2
            have HRW : Hid (Rd w1 B B p (G p n) (G p n) n gs sc ro rc gt tc V wr) := HR8.out.kt (t := 4) (Kt.grown HMK.out.2 (fun q hq => by cases hq; exact row_ty H8.out.2.1)) (by decide) (by decide) (by decide) (by decide) (HR8.out.bl.grown HMK.out.2 HR8.out.ge.2 (fun q hq => by have := HRD.out.ge.2; have := HABL.out; simp at hq; omega))
            have HXC : Hid (wr.rowIs xb 25 1 (fun _ => .slice (some ⟨ab, 0, none⟩) n0 n0)) := H8.out.2.2.of_block (HMK.out.2.block _ H8.out.2.2.lt (fun e => by have := HXB.out; simp at e; omega))
            obtain ⟨zs, hz72, hzs, hzc⟩ := zero72
            obtain ⟨rbk, HRBK⟩ : ∃ z, Hid (wr.heap.size = z) := ⟨_, (rfl : _ = _)⟩
            obtain ⟨wa, HWA⟩ : ∃ z, Hid (wr.alloc (Obj.cells zs 72) = z) := ⟨_, (rfl : _ = _)⟩
            have HRB0 : Hid (Rb w1 B p n c rbk ab xb n0 0 (G p n) (G p n) gs sc ro rc gt tc V wa) := by
              rw [← HWA.out, ← HRBK.out]
              have hb9 := (Below.refl wr.heap.size wr).alloc (Nat.le_refl _) (Obj.cells zs 72)
              have h1 := World.rowIs_alloc wr zs 72 (fun _ => .int .i16 0) (fun i hi => hzc i (by rw [← hzs]; exact hi))
              rw [hzs] at h1
              exact ⟨HRW.out.next hb9, ⟨_, h1, fun j hj => by omega⟩, HMK.out.1.alloc _, HXC.out.alloc _, fun e => by have := (HRW.out.rs.lt _ e).2; omega, HRW.out.ge.2⟩
            clear hzs hzc HRW HXC HMK H8 HR8
            go_upto_region 18 with fail
            rw [HWA.out, HRBK.out]
            clear HWA hz72
            go_wp2_with fail
            go_loopw [13, 6] (fun z v wx => ∃ (b gs sc gt tc sn : Nat), z = .int .i64 (b : Int) ∧ v = .slice (some ⟨gs, 0, none⟩) sn sc ∧ b ≤ 256 ∧ Hid (sn = (grow (hv p) (G p n) c b).length ∧ sn ≤ 200 ∧ ∃ V, Rb w1 B p n c rbk ab xb n0 b (grow (hv p) (G p n) c b) (grow (hv p) (G p n) c b) gs sc ro rc gt tc V wx)) (fun z _ _ => 256 - (intOf z).toNat)
            case atStart => exact ⟨0, gs, sc, gt, tc, sn, rfl, rfl, by omega, HSN.out, by rw [HSN.out]; exact HGD.out.2, V, HRB0.out⟩
            case round =>
              clear HRB0 hni0 hni1 hlt HSN
              obtain ⟨b, gs, sc, gt, tc, sn, rfl, rfl, hb, HA3⟩ := hrel
              obtain ⟨hs3, hs4, V, hrb⟩ := HA3.out
              obtain ⟨S, HSS⟩ : ∃ z, Hid (grow (hv p) (G p n) c b = z) := ⟨_, (rfl : _ = _)⟩
              rw [HSS.out] at hs3 hrb
              have HSN2 : Hid (sn = S.length) := hs3
              have HSN3 : Hid (0 < S.length ∧ S.length ≤ 200 ∧ S.length = sn) := ⟨by rw [← HSS.out]; exact Nat.lt_of_lt_of_le (G_pos p n) (grow_pre _ _ _ _).length_le, by omega, hs3.symm⟩
              have HRB : Hid (Rb w1 B p n c rbk ab xb n0 b S S gs sc ro rc gt tc V wr) := hrb
              have HOKS : Hid (Ok S) := by rw [← HSS.out]; exact (G_ok p n).grow _ _ _
              have HBD : Hid (∀ s ∈ S.tail, Bd p s) := by rw [← HSS.out]; exact grow_bd HOK.out.2 (G_bd HOK.out.2 n) (G_pos p n) c b
              clear hs3 hs4 hrb HA3
              by_cases hb6 : b < 256
              · have hb0 : (0 : Int) ≤ (b : Int) := by omega
                have hb1 : (b : Int) < 256 := by omega
                have HB6 : Hid (b < 256) := hb6
                obtain ⟨t, HT⟩ : ∃ z, Hid (meet c (hv p b) = z) := ⟨_, (rfl : _ = _)⟩
                have HTB : Hid (Bd p t) := by rw [← HT.out]; exact bd_meet HOK.out.2 c b
                obtain ⟨wb, rfl⟩ : ∃ z, z = wr := ⟨_, rfl⟩
                go_wp2_with fail
                go_loopw [15, 14] (fun x lv wx => ∃ (j : Nat) (lo : Option Addr) (ln lc : Nat), j ≤ n0 ∧ x = .int .i64 (j : Int) ∧ lv = .slice lo ln lc ∧ Hid (Hl wb p c b j lo ln lc wx)) (fun x _ _ => n0 - (intOf x).toNat)
                case atStart => exact ⟨0, none, 0, 0, by omega, rfl, rfl, ⟨Below.refl _ _, ⟨rfl, Or.inl ⟨rfl, rfl⟩⟩, rfl⟩⟩
                case round =>
                  obtain ⟨j, lo, ln, lc, hj, rfl, rfl, HI⟩ := hrel
                  have hrb := HRB.out.next HI.out.bl
                  have yx := hrb.xc.cell (i := 0) (by omega)
                  by_cases hjl : j < n0
                  · have hj0 : (0 : Int) ≤ (j : Int) := by omega
                    have hj1 : (j : Int) < (n0 : Int) := by omega
                    have ya := hrb.al.cell (i := j) hjl
                    have hbl9 := hrb.rd.bl
                    cases hmj : mem c j with
                    | false =>
                      rw [hmj] at ya
                      have HNX : Hid (Hl wb p c b (j + 1) lo ln lc wr) := HI.out.stay (by rw [hmj]; rfl)
                      clear hrb hbl9 hmj
                      go_wp2_with fail
                      go_roundw
                      case rel => exact ⟨j + 1, lo, ln, lc, by omega, by go_num, rfl, HNX⟩
                      case measure => simp [intOf]; omega
                    | true =>
                      rw [hmj] at ya
                      have hl0 : j < p.cls.length := by rw [HN0.out]; exact hjl
                      obtain ⟨yp, -⟩ := HPC.out wr hbl9
                      obtain ⟨_, _, he, -, hq0⟩ := (HP1.out wr hbl9).cls
                      simp only [Value.slice.injEq] at he
                      obtain ⟨rfl, -, rfl⟩ := he
                      obtain ⟨bq, oq, rfl, hbq, hcq⟩ := hq0.resolve_left (fun e => by rw [e] at hl0; simp at hl0)
                      have hat : hasAt p b (j : Int) = mem p.cls[j] b := by
                        unfold hasAt; rw [show ((j : Int)).toNat = j by omega, List.getElem?_eq_getElem hl0]
                      have hcj := hcq j hl0
                      obtain ⟨q, HQ⟩ : ∃ q, Hid (p.cls[j] = q) := ⟨p.cls[j]'hl0, Eq.refl _⟩
                      rw [HQ.out] at hcj hat
                      have y0 : wr.cell? ⟨bq, oq + j * 4, none⟩ = some (.int .u64 (q.1.toNat : Int)) := hcj 0 (by omega)
                      have y1 : wr.cell? ⟨bq, oq + j * 4 + 1, none⟩ = some (.int .u64 (q.2.1.toNat : Int)) := hcj 1 (by omega)
                      have y2 : wr.cell? ⟨bq, oq + j * 4 + 2, none⟩ = some (.int .u64 (q.2.2.1.toNat : Int)) := hcj 2 (by omega)
                      have y3 : wr.cell? ⟨bq, oq + j * 4 + 3, none⟩ = some (.int .u64 (q.2.2.2.toNat : Int)) := hcj 3 (by omega)
                      have hha := rhas_any q (b : Int) b rfl hb6 wr
                      clear hcq hcj hq0 hrb hbl9 hbq
                      cases hmq : mem q b with
                      | false =>
                        rw [hmq] at hha hat
                        have HAT : Hid ((mem c j && hasAt p b (j : Int)) = false) := by show _ = _; rw [hat]; simp
                        clear hmq hat hmj
                        go_wp2_with fail
                        refine hha.mono ?_
                        rintro _ w3 ⟨rfl, hb3⟩
                        have HNX : Hid (Hl wb p c b (j + 1) lo ln lc w3) := (HI.out.next hb3.below).stay HAT.out
                        clear hha hb3 y0 y1 y2 y3 yp ya yx
                        go_wp2_with fail
                        go_roundw
                        case rel => exact ⟨j + 1, lo, ln, lc, by omega, by go_num, rfl, HNX⟩
                        case measure => simp [intOf]; omega
                      | true =>
                        rw [hmq] at hha hat
                        have HAT : Hid ((mem c j && hasAt p b (j : Int)) = true) := by show _ = _; rw [hat, hmj]; rfl
                        clear hmq hat hmj
                        go_wp2_with fail
                        refine hha.mono ?_
                        rintro _ w3 ⟨rfl, hb3⟩
                        have HI3 : Hid (Hl wb p c b j lo ln lc w3) := HI.out.next hb3.below
                        clear hha hb3 y0 y1 y2 y3 yp ya yx
                        have hb4 := (Below.refl w3.heap.size w3).alloc (Nat.le_refl _) (Obj.cells #[.int .i64 (j : Int)] 3)
                        have hi4 := HI3.out.next hb4
                        have hle : ln ≤ 200 := by rw [HI3.out.len]; have := sel_length j (fun y => mem c y && hasAt p b (y : Int)); omega
                        obtain ⟨g2, k2, w5, hrun, hown, hgrw, hor, -⟩ := run_append_lies (P := Try.prog) (w3.alloc (Obj.cells #[.int .i64 (j : Int)] 3)) 23 23 wb.heap.size 3 i3 _ 1 8 Try.underlying23 H3.out.1 H3.out.2.1 H3.out.2.2.1 H3.out.2.2.2 rfl (by omega) (.slice lo ln lc) ln ((sel j (fun y => mem c y && hasAt p b (y : Int))).map (Value.int .i64)) hi4.own ⟨w3.heap.size, 0, none⟩ 1 1 [.int .i64 (j : Int)] rfl (fun i u hu => by rw [Addr.add_lit, Nat.zero_add, cell_new w3 [.int .i64 (j : Int)] 3 i]; exact hu) (by intro u hu; simp at hu; subst hu; rfl) (by omega) (by unfold maxLen; omega) (by omega) hi4.bl.size _ rfl
                        have HRUN : Hid ((Builtin.append_ #[23, 23] 23 #[.slice lo ln lc, .slice (some ⟨w3.heap.size, 0, none⟩) 1 1]).run Try.prog (w3.alloc (Obj.cells #[.int .i64 (j : Int)] 3)) = .ok (.slice (some ⟨g2, 0, none⟩) (ln + 1) k2) w5) := hrun
                        have HNX : Hid (Hl wb p c b (j + 1) (some ⟨g2, 0, none⟩) (ln + 1) k2 w5) := by
                          have e2 : sel (j + 1) (fun y => mem c y && hasAt p b (y : Int)) = sel j (fun y => mem c y && hasAt p b (y : Int)) ++ [(j : Int)] := by rw [sel_step, if_pos HAT.out]
                          refine ⟨hi4.bl.grown hgrw hi4.bl.size (fun q hq => (hi4.own.lt q hq).1), ?_, ?_⟩
                          · rw [e2, List.map_append]; exact hown
                          · rw [e2, List.length_append, hi4.len]; rfl
                        clear hrun hown hgrw hor hi4 hb4 hle
                        go_wp2_with (refine wpList_append_run rfl _ _ 23 rfl _ _ rfl rfl HRUN.out ?_)
                        clear HRUN
                        go_roundw
                        case rel => exact ⟨j + 1, some ⟨g2, 0, none⟩, ln + 1, k2, by omega, by go_num, rfl, HNX⟩
                        case measure => simp [intOf]; omega
                  · clear hrb
                    obtain rfl : n0 = j := by omega
                    have HTO : Hid (Ints wr (.slice lo ln lc) (sel p.cls.length (mem t)) ∧ (∀ q, (Value.slice lo ln lc).ownBlock = some q → Ty wr q 3 ∧ q ≠ gt) ∧ ln = (sel p.cls.length (mem t)).length) := by
                      have e : sel n0 (fun y => mem c y && hasAt p b (y : Int)) = sel p.cls.length (mem t) := by rw [← HN0.out, ← HT.out]; exact to_list HOK.out.2 c b
                      have ho := HI.out.own
                      have hl := HI.out.len
                      rw [e] at ho hl
                      refine ⟨ints_of_own (base := wb.heap.size) (by rw [hl] at ho ⊢; exact ho) (by have := sel_length p.cls.length (mem t); have := HOK.out.2; omega), fun q hq => ⟨own_ty ho hq, ?_⟩, hl⟩
                      have h1 := (ho.lt q hq).1
                      have h2 := (HRB.out.rd.ta.lt gt rfl).2
                      omega
                    have HRB4 : Hid (Rb w1 B p n c rbk ab xb n0 b S S gs sc ro rc gt tc V wr) := HRB.out.next HI.out.bl
                    obtain ⟨v9, yb, yf⟩ := HRB4.out.cell HB6.out
                    obtain ⟨w6, HW6⟩ : ∃ z, Hid (wr.setCell ⟨rbk, b, none⟩ (.int .i16 (-1)) = z) := ⟨_, (rfl : _ = _)⟩
                    have HRB6x : Hid (Rb w1 B p n c rbk ab xb n0 b S S gs sc ro rc gt tc V w6 ∧ (-1 = rA p n b → Rb w1 B p n c rbk ab xb n0 (b + 1) S S gs sc ro rc gt tc V w6)) := by rw [← HW6.out]; exact HRB4.out.set (-1)
                    have HTO6 : Hid (Ints w6 (.slice lo ln lc) (sel p.cls.length (mem t)) ∧ ∀ q, (Value.slice lo ln lc).ownBlock = some q → Ty w6 q 3 ∧ q ≠ gt) := by
                      rw [← HW6.out]
                      obtain ⟨f9, hf9, -⟩ := HRB4.out.rr
                      have k1 : Kt 72 wr (wr.setCell ⟨rbk, b, none⟩ (.int .i16 (-1))) := Kt.set (row_ty hf9)
                      have e : ∀ q, Ty wr q 3 → (wr.setCell ⟨rbk, b, none⟩ (.int .i16 (-1))).heap[q]? = wr.heap[q]? := fun q hq => k1.blk q hq.lt (fun e => by have := e.one hq; revert this; decide)
                      exact ⟨HTO.out.1.keep k1.size (fun q hq => e q (HTO.out.2.1 q hq).1), fun q hq => ⟨(HTO.out.2.1 q hq).1.of (e q (HTO.out.2.1 q hq).1), (HTO.out.2.1 q hq).2⟩⟩
                    have HLN : Hid (ln = (sel p.cls.length (mem t)).length) := HTO.out.2.2
                    clear HI HTO
                    go_upto_region 28 with fail
                    rw [HW6.out]
                    clear yb yf HRB4 HRB HW6
                    by_cases hln : ln = 0
                    · have bz : ((ln : Int) == 0) = true := by simpa using hln
                      have he : t = empty := (sel_none HTB.out).1 (List.length_eq_zero_iff.1 (by have := HLN.out; omega))
                      have h7 : grow (hv p) (G p n) c (b + 1) = S := by
                        show add (grow (hv p) (G p n) c b) (meet c (hv p b)) = _
                        rw [HSS.out, HT.out, he]; unfold add; rw [if_pos rfl]
                      have hz : -1 = rA p n b := by
                        rw [rA_is p n HB6.out, HCN.out, HT.out, h7, he]; unfold num; rw [if_pos rfl]
                      have HNY : Hid (sn = (grow (hv p) (G p n) c (b + 1)).length ∧ sn ≤ 200 ∧ ∃ V, Rb w1 B p n c rbk ab xb n0 (b + 1) (grow (hv p) (G p n) c (b + 1)) (grow (hv p) (G p n) c (b + 1)) gs sc ro rc gt tc V w6) := by
                        rw [h7]
                        exact ⟨HSN2.out, by have := HSN3.out; omega, _, HRB6x.out.2 hz⟩
                      clear he h7 hz hln HRB6x HTO6
                      go_wp2_with fail
                      go_roundw
                      case rel => exact ⟨b + 1, gs, sc, gt, tc, sn, by go_num, rfl, by omega, HNY⟩
                      case measure => simp [intOf]; omega
                    · have bz : ((ln : Int) == 0) = false := by simpa using hln
                      have HT0 : Hid (t ≠ empty) := fun e => hln (by rw [HLN.out, e, sel_nil]; rfl)
                      have HRB6 : Hid (Rb w1 B p n c rbk ab xb n0 b S S gs sc ro rc gt tc V w6) := HRB6x.out.1
                      clear HRB6x HLN hln
                      go_wp2_with fail
                      have hs200 : sn ≤ 200 := by have := HSN3.out; omega
                      go_loopw [16] (fun z wx => ∃ a : Nat, 1 ≤ a ∧ a ≤ sn ∧ z = .int .i64 (a : Int) ∧ Hid ((∀ j, 1 ≤ j → j < a → S.getD j empty ≠ t) ∧ Below w6.heap.size w6 wx)) (fun z _ => sn - (intOf z).toNat)
                      case atStart => exact ⟨1, by omega, by have := HSN3.out; omega, rfl, fun j h1 h2 => by omega, Below.refl _ _⟩
                      case round =>
                        obtain ⟨a, ha1, ha2, rfl, HA5⟩ := hrel
                        by_cases hal : a < sn
                        · have ha0 : (0 : Int) ≤ (a : Int) := by omega
                          have ha3 : (a : Int) < (sn : Int) := by omega
                          have d0 : decide ((a : Int) < (sn : Int)) = true := by simp; omega
                          have e0 : decide (a < sn) = true := by simp; omega
                          have hrb := HRB6.out.next HA5.out.2
                          have hel := (hrb.rd.el a (by have := HSN2.out; omega)).1
                          have yat := hrb.rd.at_ (i := a) (by have := HSN2.out; omega)
                          have heq := equal_any (V a) (.slice lo ln lc) _ _ wr hel (HTO6.out.1.below HA5.out.2)
                          obtain ⟨uo, uc, hva, -, -⟩ := hel
                          obtain ⟨ul, HUL⟩ : ∃ z, Hid ((sel p.cls.length (mem (S.getD a empty))).length = z) := ⟨_, (rfl : _ = _)⟩
                          rw [HUL.out] at hva
                          rw [hva] at yat heq
                          have hbd : Bd p (S.getD a empty) := HBD.out _ (tail_getD ha1 (by have := HSN2.out; omega))
                          clear hrb hva
                          by_cases hse : sel p.cls.length (mem (S.getD a empty)) = sel p.cls.length (mem t)
                          · rw [decide_eq_true hse] at heq
                            have hset := sel_set hbd HTB.out hse
                            clear hse hbd
                            go_wp2_with fail
                            refine heq.mono ?_
                            rintro _ w7 ⟨rfl, hb7⟩
                            clear heq yat
                            have bq : ((a : Int) == (sn : Int)) = false := by simp; omega
                            have d1 : decide ((200 : Int) < (sn : Int)) = false := by have := HSN3.out; simp; omega
                            have e1 : decide (200 < sn) = false := by have := HSN3.out; simp; omega
                            have HFN : Hid (add S t = S ∧ num S t = (a : Int)) := num_found HT0.out ha1 (by have := HSN2.out; omega) hset HOKS.out
                            obtain ⟨wz, rfl⟩ : ∃ z, z = w7 := ⟨_, rfl⟩
                            have HRBZ : Hid (Rb w1 B p n c rbk ab xb n0 b S S gs sc ro rc gt tc V wz) := (HRB6.out.next HA5.out.2).next hb7
                            have HZL : Hid (a ≤ 200) := (by have := HSN3.out; omega : a ≤ 200)
                            have HZ2 : Hid (S.length ≤ 200) := (by have := HSN3.out; omega : S.length ≤ 200)
                            have h7 : grow (hv p) (G p n) c (b + 1) = S := by
                              show add (grow (hv p) (G p n) c b) (meet c (hv p b)) = _
                              rw [HSS.out, HT.out]; exact HFN.out.1
                            have HZA : Hid ((a : Int) = rA p n b) := by
                              show _ = _
                              rw [rA_is p n HB6.out, HCN.out, HT.out, h7, HFN.out.2]
                            have hwr : IntKind.i16.wrap (a : Int) = (a : Int) := by
                              have := HZL.out
                              simp [IntKind.wrap, IntKind.bits, IntKind.signed]; omega
                            obtain ⟨v9, yb, yf⟩ := HRBZ.out.cell HB6.out
                            have HNX : Hid ((S).length ≤ 200 ∧ Rb w1 B p n c rbk ab xb n0 (b + 1) S S gs sc ro rc gt tc V (wz.setCell ⟨rbk, b, none⟩ (.int .i16 (a : Int)))) := ⟨HZ2.out, (HRBZ.out.set (a : Int)).2 HZA.out⟩
                            have HNY : Hid (sn = (grow (hv p) (G p n) c (b + 1)).length ∧ sn ≤ 200 ∧ ∃ V, Rb w1 B p n c rbk ab xb n0 (b + 1) (grow (hv p) (G p n) c (b + 1)) (grow (hv p) (G p n) c (b + 1)) gs sc ro rc gt tc V (wz.setCell ⟨rbk, b, none⟩ (.int .i16 (a : Int)))) := by
                              rw [h7]
                              exact ⟨HSN2.out, by have := HSN3.out; omega, _, HNX.out.2⟩
                            clear HNX HRBZ hb7 hset HA5 h7
                            go_wp2_with fail
                            go_roundw
                            case rel => exact ⟨b + 1, gs, sc, gt, tc, sn, by go_num, rfl, by omega, HNY⟩
                            case measure => simp [intOf]; omega
                          · rw [decide_eq_false hse] at heq
                            have HA6 : Hid (∀ j, 1 ≤ j → j < a + 1 → S.getD j empty ≠ t) := fun j h1 h2 e => by
                              by_cases ej : j = a
                              · subst ej; rw [e] at hse; exact hse rfl
                              · exact HA5.out.1 j h1 (by omega) e
                            clear hse hbd
                            go_wp2_with fail
                            refine heq.mono ?_
                            rintro _ w7 ⟨rfl, hb7⟩
                            have HA7 : Hid ((∀ j, 1 ≤ j → j < a + 1 → S.getD j empty ≠ t) ∧ Below w6.heap.size w6 w7) := ⟨HA6.out, HA5.out.2.trans (hb7.mono HA5.out.2.size)⟩
                            clear heq yat hb7 HA6 HA5
                            go_wp2_with fail
                            go_roundw
                            case rel => exact ⟨a + 1, by omega, by omega, by go_num, HA7⟩
                            case measure => simp [intOf]; omega
                        · obtain rfl : sn = a := by omega
                          have bq : ((sn : Int) == (sn : Int)) = true := by simp
                          have d0 : decide ((sn : Int) < (sn : Int)) = false := by simp
                          have e0 : decide (sn < sn) = false := by simp
                          have HNW : Hid (add S t = S ++ [t] ∧ num (S ++ [t]) t = (S.length : Int)) := num_new HT0.out (by have := HSN3.out; omega) (fun j h1 h2 => HA5.out.1 j h1 (by have := HSN2.out; omega))
                          have HRBa : Hid (Rb w1 B p n c rbk ab xb n0 b S S gs sc ro rc gt tc V wr) := HRB6.out.next HA5.out.2
                          have hto := HTO6.out.1.below HA5.out.2
                          have hty : ∀ q, (Value.slice lo ln lc).ownBlock = some q → Ty wr q 3 ∧ q ≠ gt := fun q hq => ⟨(HTO6.out.2 q hq).1.of (HA5.out.2.block _ (HTO6.out.2 q hq).1.lt), (HTO6.out.2 q hq).2⟩
                          have hb4 := (Below.refl wr.heap.size wr).alloc (Nat.le_refl _) (Obj.cells #[.slice lo ln lc] 23)
                          have hr4 := HRBa.out.next hb4
                          obtain ⟨g2, c2, w7, hrun, hown, hgrw, hor, -⟩ := run_append_lies (P := Try.prog) (wr.alloc (Obj.cells #[.slice lo ln lc] 23)) 24 24 B 23 i23 _ 1 24 Try.underlying24 H23.out.1 H23.out.2.1 H23.out.2.2.1 H23.out.2.2.2 rfl (by omega) (.slice (some ⟨gs, 0, none⟩) S.length sc) S.length ((List.range S.length).map V) hr4.rd.so ⟨wr.heap.size, 0, none⟩ 1 1 [.slice lo ln lc] rfl (fun i u hu => by rw [Addr.add_lit, Nat.zero_add, cell_new wr [.slice lo ln lc] 23 i]; exact hu) (by intro u hu; simp at hu; subst hu; rfl) (by omega) (by have := HSN3.out; unfold maxLen; omega) (by have := HSN3.out; omega) hr4.rd.ge.2 _ rfl
                          have hadd := hr4.rd.addS hgrw hown (t := t) (hto.below hb4) (fun q hq => ⟨(hty q hq).1.of (hb4.block _ (hty q hq).1.lt), (hty q hq).2⟩)
                          have hrb7 := hr4.kt hadd.2 (by decide) (by decide) (by decide) hadd.1
                          obtain ⟨sm, HSM⟩ : ∃ z, Hid (sn + 1 = z) := ⟨_, (rfl : _ = _)⟩
                          rw [← HSN2.out, HSM.out] at hrun
                          have HRUN : Hid _ := hrun
                          obtain ⟨Vn, HVN⟩ : ∃ z, Hid ((fun i => if i = S.length then .slice lo ln lc else V i) = z) := ⟨_, (rfl : _ = _)⟩
                          rw [HVN.out] at hrb7
                          have HVL : Hid (Vn S.length = .slice lo ln lc) := by show _ = _; rw [← HVN.out]; simp
                          obtain ⟨V, rfl⟩ : ∃ z, z = Vn := ⟨_, rfl⟩
                          clear hrun hown hgrw hor hadd hr4 hb4 hto hty
                          go_upto_region 34 with (refine wpList_append_run rfl _ _ 24 rfl _ _ rfl rfl HRUN.out ?_)
                          clear HRUN HVN
                          obtain ⟨gs, rfl⟩ : ∃ z, z = g2 := ⟨_, rfl⟩
                          obtain ⟨sc, rfl⟩ : ∃ z, z = c2 := ⟨_, rfl⟩
                          have HRB7 : Hid (Rb w1 B p n c rbk ab xb n0 b (S ++ [t]) S gs sc ro rc gt tc V w7) := hrb7
                          clear hrb7 HA5 HRB6 HRBa bq
                          obtain ⟨tz, HTZ⟩ : ∃ z, Hid (tgF p t = z) := ⟨_, (rfl : _ = _)⟩
                          have HSL : Hid (0 < S.length ∧ S.length ≤ 200) := ⟨by have := HSN3.out; omega, by have := HSN3.out; omega⟩
                          have HTG : Hid (∀ W, Rb w1 B p n c rbk ab xb n0 b (S ++ [t]) S gs sc ro rc gt tc V W → Calls Try.prog 34 #[.slice lo ln lc, .bool false, .pointer (some ⟨pb, 0, none⟩)] W fun e w' => e = .returned (.int .i64 tz) ∧ Below W.heap.size W w') := fun W h => by
                            have h1 := (h.rd.el S.length (by simp)).1
                            rw [getD_last, HVL.out] at h1
                            have := HLF.out W t lo ln lc h.rd.bl h1
                            rwa [HTZ.out] at this
                          refine wp_region_free mixed (fun a0 d a W => ∃ (gb : Nat) (gr : Nat) (cr : Nat) (x115 x116 x117 x118 x119 x120 x121 x122 : Value), a = ((((((((a0.put (some 115) x115).put (some 116) x116).put (some 117) x117).put (some 118) x118).put (some 119) x119).put (some 120) x120).put (some 121) x121).put (some 122) x122) ∧ Hid (RD34 w1 B p n c rbk ab xb n0 b S t gs sc ro rc gt tc V pb lo ln lc tz gb gr cr d x115 x116 x117 x118 x119 x120 x121 x122 W)) (by kernel_rfl) ⟨0, 0, 0, u115, u116, u117, u118, u119, u120, u121, u122, by simp only [Act.put, List.setIfInBounds_toArray, List.set_cons_zero, List.set_cons_succ], ?_⟩ ?_ ?_
                          · exact ⟨fun h => no_way h, fun h => no_way h, fun h => no_way h, fun h => no_way h, fun h => no_way h, fun h => no_way h, fun h => no_way h, fun h => no_way h, fun _ => trivial, fun h => no_way h, fun h => no_way h, fun h => no_way h, fun h => no_way h, fun _ => HRB7.out.drew, fun h => no_way h, fun h => no_way h, fun h => no_way h⟩
                          · simp only [StepAll, and_true]
                            refine ⟨?_, ?_, ?_, ?_, ?_, ?_, ?_, ?_, ?_⟩
                            · intro d a W hI hd hdep
                              obtain ⟨gb, gr, cr, x115, x116, x117, x118, x119, x120, x121, x122, rfl, hF⟩ := hI
                              clear hdep hd
                              intro K hK
                              simp only [Act.put, List.setIfInBounds_toArray, List.set_cons_zero, List.set_cons_succ]
                              go_simp
                              refine hK.out _ _ ⟨gb, gr, cr, (.pointer (some ⟨B, 1, none⟩)), x116, x117, x118, x119, x120, x121, x122, by simp only [Act.put, List.setIfInBounds_toArray, List.set_cons_zero, List.set_cons_succ], ?_⟩
                              exact ⟨fun _ => rfl, fun h => hF.out.f1 (by simpa using h), fun h => hF.out.f2 (by simpa using h), fun h => hF.out.f3 (by simpa using h), fun h => hF.out.f4 (by simpa using h), fun h => hF.out.f5 (by simpa using h), fun h => hF.out.f6 (by simpa using h), fun h => hF.out.f7 (by simpa using h), fun h => hF.out.f8 (by simpa using h), fun h => by have := hF.out.o5_4 (by simpa using h); simpa using this, fun h => by have := hF.out.o6_1 (by simpa using h); simpa using this, fun h => by have := hF.out.o6_5 (by simpa using h); simpa using this, fun h => by have := hF.out.q8_6 (by simpa using h); simpa using this, fun h => hF.out.m0 (by simpa using h), fun h h2 => hF.out.bs (by simpa using h) (by simpa using h2), fun h h2 => hF.out.th (by simpa using h) (by simpa using h2), fun h => hF.out.fin (by simpa using h)⟩
                            · intro d a W hI hd hdep
                              obtain ⟨gb, gr, cr, x115, x116, x117, x118, x119, x120, x121, x122, rfl, hF⟩ := hI
                              have hd0 : d 0 = true := dep_of hdep 0 (by kernel_rfl)
                              obtain rfl := hF.out.f0 hd0
                              have HN6 : Hid (d 6 = false) := no_later hF.out.o6_1 hd
                              have ya := (hF.out.m0 HN6.out).rd.bx.cell (i := 1) (by omega)
                              simp only [lv] at ya
                              clear hdep hd hd0
                              intro K hK
                              simp only [Act.put, List.setIfInBounds_toArray, List.set_cons_zero, List.set_cons_succ]
                              go_simp
                              refine hK.out _ _ ⟨gb, gr, cr, (.pointer (some ⟨B, 1, none⟩)), (.slice (some ⟨gt, 0, none⟩) S.length tc), x117, x118, x119, x120, x121, x122, by simp only [Act.put, List.setIfInBounds_toArray, List.set_cons_zero, List.set_cons_succ], ?_⟩
                              exact ⟨fun h => hF.out.f0 (by simpa using h), fun _ => rfl, fun h => hF.out.f2 (by simpa using h), fun h => hF.out.f3 (by simpa using h), fun h => hF.out.f4 (by simpa using h), fun h => hF.out.f5 (by simpa using h), fun h => hF.out.f6 (by simpa using h), fun h => hF.out.f7 (by simpa using h), fun h => hF.out.f8 (by simpa using h), fun h => by have := hF.out.o5_4 (by simpa using h); simpa using this, fun _ => by simp, fun h => by have := hF.out.o6_5 (by simpa using h); simpa using this, fun h => by have := hF.out.q8_6 (by simpa using h); simpa using this, fun h => hF.out.m0 (by simpa using h), fun h h2 => hF.out.bs (by simpa using h) (by simpa using h2), fun h h2 => hF.out.th (by simpa using h) (by simpa using h2), fun h => hF.out.fin (by simpa using h)⟩
                            · intro d a W hI hd hdep
                              obtain ⟨gb, gr, cr, x115, x116, x117, x118, x119, x120, x121, x122, rfl, hF⟩ := hI
                              clear hdep hd
                              intro K hK
                              simp only [Act.put, List.setIfInBounds_toArray, List.set_cons_zero, List.set_cons_succ]
                              go_simp
                              refine hK.out _ _ ⟨gb, gr, cr, x115, x116, (.func (Fn.func 34) #[] #[.pointer (some ⟨pb, 0, none⟩)]), x118, x119, x120, x121, x122, by simp only [Act.put, List.setIfInBounds_toArray, List.set_cons_zero, List.set_cons_succ], ?_⟩
                              exact ⟨fun h => hF.out.f0 (by simpa using h), fun h => hF.out.f1 (by simpa using h), fun _ => rfl, fun h => hF.out.f3 (by simpa using h), fun h => hF.out.f4 (by simpa using h), fun h => hF.out.f5 (by simpa using h), fun h => hF.out.f6 (by simpa using h), fun h => hF.out.f7 (by simpa using h), fun h => hF.out.f8 (by simpa using h), fun h => by have := hF.out.o5_4 (by simpa using h); simpa using this, fun h => by have := hF.out.o6_1 (by simpa using h); simpa using this, fun h => by have := hF.out.o6_5 (by simpa using h); simpa using this, fun h => by have := hF.out.q8_6 (by simpa using h); simpa using this, fun h => hF.out.m0 (by simpa using h), fun h h2 => hF.out.bs (by simpa using h) (by simpa using h2), fun h h2 => hF.out.th (by simpa using h) (by simpa using h2), fun h => hF.out.fin (by simpa using h)⟩
                            · intro d a W hI hd hdep
                              obtain ⟨gb, gr, cr, x115, x116, x117, x118, x119, x120, x121, x122, rfl, hF⟩ := hI
                              clear hdep hd
                              intro K hK
                              simp only [Act.put, List.setIfInBounds_toArray, List.set_cons_zero, List.set_cons_succ]
                              go_simp
                              refine hK.out _ _ ⟨gb, gr, cr, x115, x116, x117, (.slice lo ln lc), x119, x120, x121, x122, by simp only [Act.put, List.setIfInBounds_toArray, List.set_cons_zero, List.set_cons_succ], ?_⟩
                              exact ⟨fun h => hF.out.f0 (by simpa using h), fun h => hF.out.f1 (by simpa using h), fun h => hF.out.f2 (by simpa using h), fun _ => rfl, fun h => hF.out.f4 (by simpa using h), fun h => hF.out.f5 (by simpa using h), fun h => hF.out.f6 (by simpa using h), fun h => hF.out.f7 (by simpa using h), fun h => hF.out.f8 (by simpa using h), fun h => by have := hF.out.o5_4 (by simpa using h); simpa using this, fun h => by have := hF.out.o6_1 (by simpa using h); simpa using this, fun h => by have := hF.out.o6_5 (by simpa using h); simpa using this, fun h => by have := hF.out.q8_6 (by simpa using h); simpa using this, fun h => hF.out.m0 (by simpa using h), fun h h2 => hF.out.bs (by simpa using h) (by simpa using h2), fun h h2 => hF.out.th (by simpa using h) (by simpa using h2), fun h => hF.out.fin (by simpa using h)⟩
                            · intro d a W hI hd hdep
                              obtain ⟨gb, gr, cr, x115, x116, x117, x118, x119, x120, x121, x122, rfl, hF⟩ := hI
                              have hd2 : d 2 = true := dep_of hdep 2 (by kernel_rfl)
                              have hd3 : d 3 = true := dep_of hdep 3 (by kernel_rfl)
                              obtain rfl := hF.out.f2 hd2
                              obtain rfl := hF.out.f3 hd3
                              have HN5 : Hid (d 5 = false) := no_later hF.out.o5_4 hd
                              have HN6 : Hid (d 6 = false) := no_later hF.out.o6_5 HN5.out
                              have HN8 : Hid (d 8 = false) := no_later hF.out.q8_6 HN6.out
                              have hm0 := hF.out.m0 HN6.out
                              have hcl := HTG.out W hm0
                              clear hdep hd hd2 hd3
                              intro K hK
                              simp only [Act.put, List.setIfInBounds_toArray, List.set_cons_zero, List.set_cons_succ]
                              go_simp
                              refine hcl.mono ?_
                              rintro _ W1 ⟨rfl, hb1⟩
                              clear hcl
                              go_simp
                              refine hK.out _ _ ⟨gb, gr, cr, x115, x116, (.func (Fn.func 34) #[] #[.pointer (some ⟨pb, 0, none⟩)]), (.slice lo ln lc), (.int .i64 tz), x120, x121, x122, by simp only [Act.put, List.setIfInBounds_toArray, List.set_cons_zero, List.set_cons_succ], ?_⟩
                              exact ⟨fun h => hF.out.f0 (by simpa using h), fun h => hF.out.f1 (by simpa using h), fun h => hF.out.f2 (by simpa using h), fun h => hF.out.f3 (by simpa using h), fun _ => rfl, fun h => hF.out.f5 (by simpa using h), fun h => hF.out.f6 (by simpa using h), fun h => hF.out.f7 (by simpa using h), fun h => hF.out.f8 (by simpa using h), fun _ => by simp, fun h => by have := hF.out.o6_1 (by simpa using h); simpa using this, fun h => by have := hF.out.o6_5 (by simpa using h); simpa using this, fun h => by have := hF.out.q8_6 (by simpa using h); simpa using this, fun _ => hm0.next hb1, fun h => by have := HN5.out; simp [this] at h, fun h => by have := HN6.out; simp [this] at h, fun h => by have := HN8.out; simp [this] at h⟩
                            · intro d a W hI hd hdep
                              obtain ⟨gb, gr, cr, x115, x116, x117, x118, x119, x120, x121, x122, rfl, hF⟩ := hI
                              have hd4 : d 4 = true := dep_of hdep 4 (by kernel_rfl)
                              obtain rfl := hF.out.f4 hd4
                              have e5_4 := hd4
                              have HN6 : Hid (d 6 = false) := no_later hF.out.o6_5 hd
                              have HN8 : Hid (d 8 = false) := no_later hF.out.q8_6 HN6.out
                              have hm0 := hF.out.m0 HN6.out
                              clear hdep hd hd4
                              intro K hK
                              simp only [Act.put, List.setIfInBounds_toArray, List.set_cons_zero, List.set_cons_succ]
                              go_simp
                              refine hK.out _ _ ⟨W.heap.size, gr, cr, x115, x116, x117, x118, (.int .i64 tz), (.slice (some ⟨W.heap.size, 0, none⟩) 1 1), x121, x122, by simp only [Act.put, List.setIfInBounds_toArray, List.set_cons_zero, List.set_cons_succ], ?_⟩
                              have B1 := (Below.refl W.heap.size W).alloc (Nat.le_refl _) (Obj.cells #[.int .i64 tz] 3)
                              exact ⟨fun h => hF.out.f0 (by simpa using h), fun h => hF.out.f1 (by simpa using h), fun h => hF.out.f2 (by simpa using h), fun h => hF.out.f3 (by simpa using h), fun h => hF.out.f4 (by simpa using h), fun _ => rfl, fun h => hF.out.f6 (by simpa using h), fun h => hF.out.f7 (by simpa using h), fun h => hF.out.f8 (by simpa using h), fun _ => by simpa using e5_4, fun h => by have := hF.out.o6_1 (by simpa using h); simpa using this, fun _ => by simp, fun h => by have := hF.out.q8_6 (by simpa using h); simpa using this, fun _ => hm0.next B1, fun _ _ j u hj => by rw [cell_new W ([.int .i64 tz] : List Value) 3 j]; exact hj, fun h => by have := HN6.out; simp [this] at h, fun h => by have := HN8.out; simp [this] at h⟩
                            · intro d a W hI hd hdep
                              obtain ⟨gb, gr, cr, x115, x116, x117, x118, x119, x120, x121, x122, rfl, hF⟩ := hI
                              have hd1 : d 1 = true := dep_of hdep 1 (by kernel_rfl)
                              have hd5 : d 5 = true := dep_of hdep 5 (by kernel_rfl)
                              obtain rfl := hF.out.f1 hd1
                              obtain rfl := hF.out.f5 hd5
                              have e6_1 := hd1
                              have e6_5 := hd5
                              have HN8 : Hid (d 8 = false) := no_later hF.out.q8_6 hd
                              have e5 := hF.out.o5_4 hd5
                              have hm0 := hF.out.m0 hd
                              have hbk := hF.out.bs hd5 hd
                              have hm := run_append_lies (P := Try.prog) W 23 23 B 3 i3 _ 1 8 Try.underlying23 H3.out.1 H3.out.2.1 H3.out.2.2.1 H3.out.2.2.2 rfl (by omega) (.slice (some ⟨gt, 0, none⟩) S.length tc) S.length (tl2 p S S.length) hm0.rd.ta ⟨gb, 0, none⟩ 1 1 [.int .i64 tz] rfl (fun j u hj => by rw [Addr.add_lit, Nat.zero_add]; exact hbk j u hj) (by intro u hu; simp at hu; subst hu; rfl) (by omega) (by have := HSL.out; unfold maxLen; omega) (by have := HSL.out; omega) hm0.rd.ge.2 W.heap.size rfl
                              have hmm := hm.choose_spec.choose_spec.choose_spec
                              generalize hm.choose_spec.choose_spec.choose = W1x at hmm
                              generalize hm.choose_spec.choose = cr2 at hmm
                              generalize hm.choose = gr2 at hmm
                              have hrun := hmm.1
                              have hgr := hm0.rd.addT (g' := gr2) (c' := cr2) HSL.out.1 hmm.2.2.1 (by rw [HTZ.out]; exact hmm.2.1) hmm.2.2.2.1
                              have HM : Hid (W1x.rowIs B 30 2 (lv ro rc n gt tc S.length) ∧ Rb w1 B p n c rbk ab xb n0 b (S ++ [t]) (S ++ [t]) gs sc ro rc gr2 cr2 V (W1x.setCell ⟨B, 1, none⟩ (.slice (some ⟨gr2, 0, none⟩) (S.length + 1) cr2)) ∧ Below B w1 W1x) := ⟨hgr.1, by
                                obtain ⟨f9, hf9, hf8⟩ := hm0.rr
                                have k2 : Kt 30 W1x (W1x.setCell ⟨B, 1, none⟩ (.slice (some ⟨gr2, 0, none⟩) (S.length + 1) cr2)) := Kt.set (row_ty hgr.1)
                                have k1 := hgr.2.2.1
                                exact ⟨hgr.2.1, ⟨f9, k2.row (by decide) (k1.row (by decide) hf9), hf8⟩, k2.row (by decide) (k1.row (by decide) hm0.al), k2.row (by decide) (k1.row (by decide) hm0.xc), hm0.nr⟩, hgr.2.2.2⟩
                              clear hmm hm hbk hm0 hgr
                              clear hdep hd hd1 hd5
                              intro K hK
                              refine step_call_append (sv := (.slice (some ⟨gt, 0, none⟩) S.length tc)) (xv := .slice (some ⟨gb, 0, none⟩) 1 1) (v := (.slice (some ⟨gr2, 0, none⟩) (S.length + 1) cr2)) (W1 := W1x) (by rfl) _ _ 23 (by rfl) (by simp only [Act.put, List.setIfInBounds_toArray, List.set_cons_zero, List.set_cons_succ]; rfl) (by simp only [Act.put, List.setIfInBounds_toArray, List.set_cons_zero, List.set_cons_succ]; rfl) (by exact hrun) ?_
                              simp only [Act.put, List.setIfInBounds_toArray, List.set_cons_zero, List.set_cons_succ]
                              refine hK.out _ _ ⟨gb, gr2, cr2, x115, (.slice (some ⟨gt, 0, none⟩) S.length tc), x117, x118, x119, (.slice (some ⟨gb, 0, none⟩) 1 1), (.slice (some ⟨gr2, 0, none⟩) (S.length + 1) cr2), x122, by simp only [Act.put, List.setIfInBounds_toArray, List.set_cons_zero, List.set_cons_succ], ?_⟩
                              exact ⟨fun h => hF.out.f0 (by simpa using h), fun h => hF.out.f1 (by simpa using h), fun h => hF.out.f2 (by simpa using h), fun h => hF.out.f3 (by simpa using h), fun h => hF.out.f4 (by simpa using h), fun h => hF.out.f5 (by simpa using h), fun _ => rfl, fun h => hF.out.f7 (by simpa using h), fun h => hF.out.f8 (by simpa using h), fun h => by have := hF.out.o5_4 (by simpa using h); simpa using this, fun _ => by simpa using e6_1, fun _ => by simpa using e6_5, fun _ => by simp, fun h => by simp at h, fun _ h => by simp at h, fun _ _ => ⟨HM.out.1, HM.out.2.1⟩, fun h => by have := HN8.out; simp [this] at h⟩
                            · intro d a W hI hd hdep
                              obtain ⟨gb, gr, cr, x115, x116, x117, x118, x119, x120, x121, x122, rfl, hF⟩ := hI
                              clear hdep hd
                              intro K hK
                              simp only [Act.put, List.setIfInBounds_toArray, List.set_cons_zero, List.set_cons_succ]
                              go_simp
                              refine hK.out _ _ ⟨gb, gr, cr, x115, x116, x117, x118, x119, x120, x121, (.pointer (some ⟨B, 1, none⟩)), by simp only [Act.put, List.setIfInBounds_toArray, List.set_cons_zero, List.set_cons_succ], ?_⟩
                              exact ⟨fun h => hF.out.f0 (by simpa using h), fun h => hF.out.f1 (by simpa using h), fun h => hF.out.f2 (by simpa using h), fun h => hF.out.f3 (by simpa using h), fun h => hF.out.f4 (by simpa using h), fun h => hF.out.f5 (by simpa using h), fun h => hF.out.f6 (by simpa using h), fun _ => rfl, fun h => hF.out.f8 (by simpa using h), fun h => by have := hF.out.o5_4 (by simpa using h); simpa using this, fun h => by have := hF.out.o6_1 (by simpa using h); simpa using this, fun h => by have := hF.out.o6_5 (by simpa using h); simpa using this, fun h => by have := hF.out.q8_6 (by simpa using h); simpa using this, fun h => hF.out.m0 (by simpa using h), fun h h2 => hF.out.bs (by simpa using h) (by simpa using h2), fun h h2 => hF.out.th (by simpa using h) (by simpa using h2), fun h => hF.out.fin (by simpa using h)⟩
                            · intro d a W hI hd hdep
                              obtain ⟨gb, gr, cr, x115, x116, x117, x118, x119, x120, x121, x122, rfl, hF⟩ := hI
                              have hd7 : d 7 = true := dep_of hdep 7 (by kernel_rfl)
                              have hd6 : d 6 = true := dep_of hdep 6 (by kernel_rfl)
                              obtain rfl := hF.out.f7 hd7
                              obtain rfl := hF.out.f6 hd6
                              have e8_6 := hd6
                              have hth := hF.out.th hd6 hd
                              have ya := hth.1.cell (i := 1) (by omega)
                              simp only [lv] at ya
                              have yb := hth.1.frozen 1
                              have HTH : Hid _ := hth.2
                              clear hth
                              clear hdep hd hd7 hd6
                              intro K hK
                              simp only [Act.put, List.setIfInBounds_toArray, List.set_cons_zero, List.set_cons_succ]
                              go_simp
                              refine hK.out _ _ ⟨gb, gr, cr, x115, x116, x117, x118, x119, x120, (.slice (some ⟨gr, 0, none⟩) (S.length + 1) cr), (.pointer (some ⟨B, 1, none⟩)), by simp only [Act.put, List.setIfInBounds_toArray, List.set_cons_zero, List.set_cons_succ], ?_⟩
                              exact ⟨fun h => hF.out.f0 (by simpa using h), fun h => hF.out.f1 (by simpa using h), fun h => hF.out.f2 (by simpa using h), fun h => hF.out.f3 (by simpa using h), fun h => hF.out.f4 (by simpa using h), fun h => hF.out.f5 (by simpa using h), fun h => hF.out.f6 (by simpa using h), fun h => hF.out.f7 (by simpa using h), fun _ => trivial, fun h => by have := hF.out.o5_4 (by simpa using h); simpa using this, fun h => by have := hF.out.o6_1 (by simpa using h); simpa using this, fun h => by have := hF.out.o6_5 (by simpa using h); simpa using this, fun _ => by simpa using e8_6, fun h => by have := e8_6; simp [this] at h, fun _ h => by have := e8_6; simp [this] at h, fun _ h => by simp at h, fun _ => HTH.out⟩
                          · intro d a W hI hall
                            obtain ⟨gb, gr, cr, x115, x116, x117, x118, x119, x120, x121, x122, rfl, hF⟩ := hI
                            simp only [List.length_cons, List.length_nil] at hall
                            obtain rfl := hF.out.f0 (hall 0 (by omega))
                            obtain rfl := hF.out.f1 (hall 1 (by omega))
                            obtain rfl := hF.out.f2 (hall 2 (by omega))
                            obtain rfl := hF.out.f3 (hall 3 (by omega))
                            obtain rfl := hF.out.f4 (hall 4 (by omega))
                            obtain rfl := hF.out.f5 (hall 5 (by omega))
                            obtain rfl := hF.out.f6 (hall 6 (by omega))
                            obtain rfl := hF.out.f7 (hall 7 (by omega))
                            have HRB8 : Hid (Rb w1 B p n c rbk ab xb n0 b (S ++ [t]) (S ++ [t]) gs sc ro rc gr cr V W) := hF.out.fin (hall 8 (by omega))
                            clear hF hall HRB7 HTG
                            obtain ⟨wz, rfl⟩ : ∃ z, z = W := ⟨_, rfl⟩
                            simp only [Act.put, List.setIfInBounds_toArray, List.set_cons_zero, List.set_cons_succ]
                            by_cases h200 : 200 < sm
                            · have d1 : decide ((200 : Int) < (sm : Int)) = true := by simp; omega
                              have e1 : decide (200 < sm) = true := by simp; omega
                              have HEND : Hid (Dm.End p (n + 1) ∧ 200 < (G p (n + 1)).length) := by
                                have h9 : 200 < (G p (n + 1)).length := by
                                  have hm := grow_mono (hv p) (G p n) c (b + 1) (255 - b)
                                  rw [show b + 1 + (255 - b) = 256 by have := HB6.out; omega] at hm
                                  have h8 := hm.length_le
                                  have h7 : grow (hv p) (G p n) c (b + 1) = S ++ [t] := by
                                    show add (grow (hv p) (G p n) c b) (meet c (hv p b)) = _
                                    rw [HSS.out, HT.out]; exact HNW.out.1
                                  rw [h7] at h8
                                  have h6 : (S ++ [t]).length = sm := by rw [← HSM.out, HSN2.out]; simp
                                  have h5 : (grow (hv p) (G p n) c 256).length = (G p (n + 1)).length := by rw [← HCN.out]; rfl
                                  omega
                                exact ⟨HGD.out.over hnl h9, h9⟩
                              have hbl := HRB8.out.rd.bl
                              have HBF : Hid (Below B w1 wz) := hbl
                              have hrs := HRS.out wz hbl
                              have z0 := hrs.cell (i := 0) (by omega)
                              have z1 := hrs.cell (i := 1) (by omega)
                              have z2 := hrs.frozen 0
                              have z3 := hrs.frozen 1
                              clear hbl h200
                              go_wp2_with fail
                              have hrow : ((wz.setCell ⟨rs, 0, none⟩ (.slice none 0 0)).setCell ⟨rs, 1, none⟩ (.slice none 0 0)).rowIs rs 30 2 (fun _ => .slice none 0 0) := ((hrs.set 0 _).set 1 _).congr fun i hi => by
                                have : i = 0 ∨ i = 1 := by omega
                                rcases this with rfl | rfl <;> simp
                              have hc0 := hrow.cell (i := 0) (by omega)
                              have hc1 := hrow.cell (i := 1) (by omega)
                              refine bodyPost_ret (v := .tuple #[.agg #[.slice none 0 0, .slice none 0 0], .int .i64 8]) (by simp [results, Try.results12, go_sem, hc0, hc1]) rfl ⟨n + 1, HEND.out.1, Or.inl ⟨HEND.out.2, rfl⟩, ?_⟩
                              exact ((HBW.out wz HBF.out).setCell HS.out.2.2.1 _).setCell HS.out.2.2.1 _
                            · have d1 : decide ((200 : Int) < (sm : Int)) = false := by simp; omega
                              have e1 : decide (200 < sm) = false := by simp; omega
                              have HRBZ := HRB8
                              obtain ⟨gtz, HGTZ⟩ : ∃ z, z = gr := ⟨_, rfl⟩
                              obtain ⟨tcz, HTCZ⟩ : ∃ z, z = cr := ⟨_, rfl⟩
                              rw [← HGTZ, ← HTCZ] at HRBZ
                              have HZL : Hid (sn ≤ 200) := (by have := HSM.out; omega : sn ≤ 200)
                              have HZ2 : Hid ((S ++ [t]).length ≤ 200) := (by have := HSM.out; have := HSN2.out; simp; omega : (S ++ [t]).length ≤ 200)
                              have HZA : Hid ((sn : Int) = rA p n b) := by
                                show _ = _
                                rw [rA_is p n HB6.out, HCN.out, HT.out, show grow (hv p) (G p n) c (b + 1) = S ++ [t] by
                                  show add (grow (hv p) (G p n) c b) (meet c (hv p b)) = _
                                  rw [HSS.out, HT.out]; exact HNW.out.1, HNW.out.2, HSN2.out]
                              have hwr : IntKind.i16.wrap (sn : Int) = (sn : Int) := by
                                have := HZL.out
                                simp [IntKind.wrap, IntKind.bits, IntKind.signed]; omega
                              obtain ⟨v9, yb, yf⟩ := HRBZ.out.cell HB6.out
                              have HNX : Hid (((S ++ [t])).length ≤ 200 ∧ Rb w1 B p n c rbk ab xb n0 (b + 1) (S ++ [t]) (S ++ [t]) gs sc ro rc gtz tcz V (wz.setCell ⟨rbk, b, none⟩ (.int .i16 (sn : Int)))) := ⟨HZ2.out, (HRBZ.out.set (sn : Int)).2 HZA.out⟩
                              have HNY : Hid (sm = (grow (hv p) (G p n) c (b + 1)).length ∧ sm ≤ 200 ∧ ∃ V, Rb w1 B p n c rbk ab xb n0 (b + 1) (grow (hv p) (G p n) c (b + 1)) (grow (hv p) (G p n) c (b + 1)) gs sc ro rc gtz tcz V (wz.setCell ⟨rbk, b, none⟩ (.int .i16 (sn : Int)))) := by
                                have h7 : grow (hv p) (G p n) c (b + 1) = S ++ [t] := by
                                  show add (grow (hv p) (G p n) c b) (meet c (hv p b)) = _
                                  rw [HSS.out, HT.out]; exact HNW.out.1
                                rw [h7]
                                exact ⟨by have := HSM.out; have := HSN2.out; simp; omega, by omega, _, HNX.out.2⟩
                              clear HNX HRB8 HRBZ h200
                              go_wp2_with fail
                              go_roundw
                              case rel => exact ⟨b + 1, gs, sc, gtz, tcz, sm, by go_num, rfl, by omega, HNY⟩
                              case measure => simp [intOf]; omega
              · obtain rfl : b = 256 := by omega
                have hG : grow (hv p) (G p n) c 256 = G p (n + 1) := by rw [← HCN.out]; rfl
                have HSG : Hid (S = G p (n + 1)) := by show _ = _; rw [← HSS.out, hG]
                clear hG
                obtain ⟨l, HLL0⟩ : ∃ l, Hid (rl (rA p n) = l) := ⟨_, (rfl : _ = _)⟩
                have HLL : Hid (l.length = 256 ∧ ∀ u ∈ l, u.oneCell' = true) := by rw [← HLL0.out]; exact ⟨rl_length _, rl_mem _⟩
                have HR : Hid (wr.rangeAt rbk 0 l) := fun j v hv => by
                  rw [← HLL0.out] at hv
                  have hj : j < 256 := by have := (List.getElem?_eq_some_iff.1 hv).1; rwa [rl_length] at this
                  rw [rl_at _ j hj] at hv
                  obtain ⟨f9, hf9, hf8⟩ := HRB.out.rr
                  rw [Nat.zero_add, hf9.cell hj, hf8 j hj, ← hv]
                have hb4 := (Below.refl wr.heap.size wr).alloc (Nat.le_refl _) (Obj.cells l.toArray 72)
                have hr4 := HRB.out.rd.next hb4
                obtain ⟨g2, c2, w7, hrun, hown, hgrw, hor, -⟩ := run_append_lies (P := Try.prog) (wr.alloc (Obj.cells l.toArray 72)) 28 28 B 72 i72 _ 256 512 Try.underlying28 H72.out.1 H72.out.2.1 H72.out.2.2.1 H72.out.2.2.2 HSZ2.out (by omega) (.slice ro n rc) n (rcs p n) hr4.rs ⟨wr.heap.size, 0, none⟩ 1 1 l (by rw [HLL.out.1]) (fun i u hu => by rw [Addr.add_lit, Nat.zero_add, cell_new wr l 72 i]; exact hu) HLL.out.2 (by omega) (by unfold maxLen; omega) (by omega) hr4.ge.2 _ rfl
                have hadd := hr4.addR (g' := g2) (c' := c2) hgrw (by rw [rcs_succ, HLL0.out]; exact hown)
                have HRUN : Hid _ := hrun
                have yr := HRB.out.rd.bx.cell (i := 0) (by omega)
                simp only [lv, if_true] at yr
                have ys := hadd.1.cell (i := 0) (by omega)
                have yf := hadd.1.frozen 0
                have HNX : Hid (sn = (G p (n + 1)).length ∧ Gd p (n + 1) ∧ ∃ V, Rd w1 B B p (G p (n + 1)) (G p (n + 1)) (n + 1) gs sc (some ⟨g2, 0, none⟩) c2 gt tc V (w7.setCell ⟨B, 0, none⟩ (.slice (some ⟨g2, 0, none⟩) (n + 1) c2))) := by
                  rw [← HSG.out]
                  exact ⟨HSN2.out, HGD.out.next hnl (by rw [← HSG.out]; have := HSN3.out; omega), _, hadd.2⟩
                clear hrun hown hgrw hor hadd hr4 hb4 HRB
                go_wp2_with (first | refine wpList_load_mid rfl 72 _ rfl rbk 0 rfl l _ HR.out Try.underlying72 rfl (by rw [HLL.out.1]; exact size35) ?_ | refine wpList_buildRow rfl _ rfl l HLL.out.1 rfl ?_ | refine wpList_append_run rfl _ _ 28 rfl _ _ rfl rfl HRUN.out ?_)
                clear HRUN
                go_roundw
                case rel => exact ⟨n + 1, gs, sc, c2, gt, tc, sn, some ⟨g2, 0, none⟩, by go_num, rfl, HNX⟩
                case measure => simp [intOf]; omega
    · have hnl : (G p n).length = n := by
        have h1 := HSN.out
        by_cases e : n = 0
        · subst e; simp [G] at h1; omega
        · have := (HGD.out.far (by omega)).le_len; omega
      have HEND : Hid (Dm.End p n) := ⟨HGD.out.far (by have := G_pos p n; omega), Or.inr hnl⟩
      have HFAR : Hid (Far p n) := HGD.out.far (by have := G_pos p n; omega)
      have HGK : Hid ((G p n).length = n) := hnl
      obtain ⟨rb, hro⟩ : ∃ rb, ro = some ⟨rb, 0, none⟩ := by
        obtain ⟨hl, ⟨h1, h2⟩ | ⟨g', cap', cur, hv, -⟩⟩ := HRD.out.rs
        · have := G_pos p n; omega
        · injection hv with h3; exact ⟨g', h3⟩
      subst hro
      have d1 : decide ((n : Int) < (sn : Int)) = false := by simp; omega
      have y0 := HRD.out.bx.cell (i := 0) (by omega)
      have y1 := HRD.out.bx.cell (i := 1) (by omega)
      simp only [lv] at y0 y1
      rw [hnl] at y1
      have hrs := HRS.out wr HRD.out.bl
      have z0 := hrs.cell (i := 0) (by omega)
      have z1 := hrs.cell (i := 1) (by omega)
      have z2 := hrs.frozen 0
      have z3 := hrs.frozen 1
      have e1 : decide (n < sn) = false := by simp; omega
      clear hnl
      go_wp2_with fail
      have hrow : ((wr.setCell ⟨rs, 0, none⟩ (.slice (some ⟨rb, 0, none⟩) n rc)).setCell ⟨rs, 1, none⟩ (.slice (some ⟨gt, 0, none⟩) n tc)).rowIs rs 30 2 (lv (some ⟨rb, 0, none⟩) rc n gt tc n) := ((hrs.set 0 _).set 1 _).congr fun i hi => by
        unfold lv
        have : i = 0 ∨ i = 1 := by omega
        rcases this with rfl | rfl <;> simp
      have hc0 := hrow.cell (i := 0) (by omega)
      have hc1 := hrow.cell (i := 1) (by omega)
      simp only [lv] at hc0 hc1
      have k1 : Kt 30 wr ((wr.setCell ⟨rs, 0, none⟩ (.slice (some ⟨rb, 0, none⟩) n rc)).setCell ⟨rs, 1, none⟩ (.slice (some ⟨gt, 0, none⟩) n tc)) := ⟨by simp [World.setCell], fun q _ hn => by rw [Below.heap_setCell _ _ _ _ (fun e => hn (by rw [e]; exact row_ty hrs)), Below.heap_setCell _ _ _ _ (fun e => hn (by rw [e]; exact row_ty hrs))]⟩
      refine bodyPost_ret (v := .tuple #[.agg #[.slice (some ⟨rb, 0, none⟩) n rc, .slice (some ⟨gt, 0, none⟩) n tc], .int .i64 0]) (by simp [results, Try.results12, go_sem, hc0, hc1]) rfl ⟨n, HEND.out, Or.inr ⟨HGK.out, hn200, rb, rc, gt, tc, rfl, ?_, ?_⟩, ?_⟩
      · have h9 := HRD.out.rw_ HFAR.out (by have := HGK.out; omega)
        obtain ⟨ao, cp, he, hm9, hw9, h9⟩ := h9
        refine ⟨ao, cp, he, hm9, hw9, h9.imp id ?_⟩
        rintro ⟨b9, o9, rfl, hb9, hc9⟩
        cases he
        have hsame := k1.blk rb hb9 (fun e => by have := e.one (own_ty HRD.out.rs rfl); revert this; decide)
        exact ⟨rb, 0, rfl, Nat.lt_of_lt_of_le hb9 k1.size, fun i hi j hj => (cell_as hsame _).trans (hc9 i hi j hj)⟩
      · have h9 := HRD.out.ts_ (by have := HGK.out; omega) HOK.out.1
        rw [HGK.out] at h9
        obtain ⟨ao, cp, he, hm9, hw9, h9⟩ := h9
        refine ⟨ao, cp, he, hm9, hw9, h9.imp id ?_⟩
        rintro ⟨b9, o9, rfl, hb9, hc9⟩
        cases he
        have hsame := k1.blk gt hb9 (fun e => by have := e.one (own_ty HRD.out.ta rfl); revert this; decide)
        exact ⟨gt, 0, rfl, Nat.lt_of_lt_of_le hb9 k1.size, fun i hi => (cell_as hsame _).trans (hc9 i hi)⟩
      · exact ((HBW.out wr HRD.out.bl).setCell HS.out.2.2.1 _).setCell HS.out.2.2.1 _
end Go.Proofs.Ytlmlkpdppkgenaa
