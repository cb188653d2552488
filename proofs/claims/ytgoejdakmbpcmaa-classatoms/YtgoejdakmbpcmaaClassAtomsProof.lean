/-
  The law ClassAtoms holds: for every list of classes the Go text returns true.
-/
import Derived.Test.YtgoejdakmbpcmaaRows
import Derived.WalkKit
import Derived.ProofKit
import Derived.OpenShut
import Derived.ShutString
import Derived.SizedLaws
import Derived.ChangeOld
import Derived.Below
import Derived.Carry
import Derived.WalkLawsBesides
import Derived.WalkSpells
import Derived.Test.YtgoejdakmbpcmaaOpens
import Derived.Deep.DeepCutAuto
import Derived.Test.YtgoejdakmbpcmaaClos26
namespace Go.Proofs.Ytgoejdakmbpcmaa.classAtoms
open Go.ChangeShapes Go.WideShapes Go.ChangeAt Go.RowKit
open Go.ChangeMaps (open_string shut_string)
open Cls
set_option linter.unusedVariables false

theorem own : ownKnob Try.prog.godebug = none := by kernel_rfl
theorem laidOut : laidOutB Try.prog = true := by kernel_rfl

/-- What region 9 keeps. -/
def SA (w : World) (bx : Nat) (x : Cl) (g q : Nat) (y : Cl) (W : World) : Prop := Below w.heap.size w W ∧ Bx W bx x ∧ (W.cell? ⟨g, q * 4, none⟩ = some (.int .u64 (y.1.toNat : Int)) ∧ W.cell? ⟨g, q * 4 + 1, none⟩ = some (.int .u64 (y.2.1.toNat : Int)) ∧ W.cell? ⟨g, q * 4 + 2, none⟩ = some (.int .u64 (y.2.2.1.toNat : Int)) ∧ W.cell? ⟨g, q * 4 + 3, none⟩ = some (.int .u64 (y.2.2.2.toNat : Int)))
theorem SA.next {w : World} {bx : Nat} {x : Cl} {g q : Nat} {y : Cl} (W W' : World) (h : SA w bx x g q y W) (hb : Below W.heap.size W W') : SA w bx x g q y W' :=
  ⟨h.1.trans (hb.mono h.1.size), h.2.1.next hb, cell_next h.2.2.1 hb, cell_next h.2.2.2.1 hb, cell_next h.2.2.2.2.1 hb, cell_next h.2.2.2.2.2 hb⟩
def SE (w : World) (b : Nat) (c : Cl) (W : World) : Prop := Below w.heap.size w W ∧ Bx W b c
theorem SE.next {w : World} {b : Nat} {c : Cl} (W W' : World) (h : SE w b c W) (hb : Below W.heap.size W W') : SE w b c W' := ⟨h.1.trans (hb.mono h.1.size), h.2.next hb⟩
theorem own_cap {w : World} {base g n cap e size : Nat} {xs : List Value} (h : w.ownsRow base e size (.slice (some ⟨g, 0, none⟩) n cap) n xs) : n ≤ cap := by
  obtain ⟨_, ⟨h1, _⟩ | ⟨g', cap', cur, hv, _, _, hn, _⟩⟩ := h
  · cases h1
  · simp only [Value.slice.injEq, Option.some.injEq, Addr.mk.injEq] at hv
    obtain ⟨_, _, rfl⟩ := hv
    exact hn
theorem bytes_first (c : Cl) (h : least c < 256) : ∃ (b0 : UInt8) (r : List UInt8), b0.toNat = least c ∧ ∀ W, Calls Try.prog 21 #[.agg #[.int .u64 (c.1.toNat : Int), .int .u64 (c.2.1.toNat : Int), .int .u64 (c.2.2.1.toNat : Int), .int .u64 (c.2.2.2.toNat : Int)]] W fun e w' => e = .returned (.string ⟨(b0 :: r).toArray⟩) ∧ Below W.heap.size W w' := by
  obtain ⟨r, hr⟩ := bytes_least h
  refine ⟨(least c).toUInt8, r, ?_, fun W => ?_⟩
  · show (UInt8.ofNat (least c)).toNat = least c
    rw [UInt8.toNat_ofNat']; omega
  · rw [← hr]; exact bytes_any c W

/-! ### The walk: the Go text returns true. -/
set_option maxHeartbeats 4000000 in
set_option maxRecDepth 20000 in
theorem walk (v0 : Value) (a0l : List Cls.Cl) (w : World) (w0s : Cs w v0 a0l) :
    Calls Try.prog 7 #[v0] w fun e w' => e = .returned (.bool true) ∧ Below w.heap.size w w' := by
  have hs := w0s
  obtain ⟨ao, cap, rfl, hm, hcl⟩ := hs
  have HS : Hid (Cs w (.slice ao a0l.length cap) a0l) := w0s
  clear w0s
  have HC : Hid (∀ k (hk : k < a0l.length), ∃ b o, ao = some ⟨b, o, none⟩ ∧ b < w.heap.size ∧ ∀ j, j < 4 → w.cell? ⟨b, o + k * 4 + j, none⟩ = some (.int .u64 ((wd a0l[k] j).toNat : Int))) := fun k hk => by
    rcases hcl with h | ⟨b, o, h1, h2, h3⟩
    · subst h; cases hk
    · exact ⟨b, o, h1, h2, fun j hj => h3 k hk j hj⟩
  clear hcl
  have hrl : (ref a0l).length ≤ 256 := refTo_length a0l 256
  have hgd := guard24
  go_enter Try.func7, Try.ntmps7
  go_wp2_with fail
  refine (parts_any a0l _ w HS.out).mono ?_
  rintro e w1 ⟨g, c1, rfl, hown1, hb1⟩
  have HP : Hid (∀ i (hi : i < (ref a0l).length) j, j < 4 → w1.cell? ⟨g, i * 4 + j, none⟩ = some (.int .u64 ((wd (ref a0l)[i] j).toNat : Int))) := fun i hi j hj => by
    obtain ⟨g2, cap2, e1, _, _, _, _, e6⟩ := own_cells hown1 (by omega)
    simp only [Value.slice.injEq, Option.some.injEq, Addr.mk.injEq] at e1
    obtain ⟨⟨rfl, _⟩, _, rfl⟩ := e1
    exact e6 i hi j hj
  have hgw : g < w1.heap.size := own_lt hown1
  have hcap : (ref a0l).length ≤ c1 := own_cap hown1
  have HB1 : Hid (Below w.heap.size w w1) := hb1
  clear hown1 hb1
  go_wp2_with fail
  go_loopw [5, 17] (fun vn vi wr => ∃ (i : Nat) (al : Cl), i ≤ (ref a0l).length ∧ vi = .int .i64 (i : Int) ∧ vn = .int .i64 (count al : Int) ∧ Hid (together ((ref a0l).take i) al ∧ Below w1.heap.size w1 wr ∧ wr.heap[w1.heap.size]? = some (bk al))) (fun _ vi _ => (ref a0l).length - (intOf vi).toNat)
  case atStart => exact ⟨0, empty, by omega, rfl, by rw [count_empty]; rfl, ⟨together_nil, (Below.refl _ _).alloc (Nat.le_refl _) _, block_new w1 _⟩⟩
  case round =>
    obtain ⟨i, al, hi, rfl, rfl, HR⟩ := hrel
    rename World => wo
    obtain ⟨⟨z0, z1, z2, z3⟩, _⟩ := block4 HR.out.2.2
    by_cases hlt : i < (ref a0l).length
    · obtain ⟨x, HX⟩ : ∃ x, Hid ((ref a0l)[i] = x) := ⟨_, (rfl : (ref a0l)[i] = (ref a0l)[i])⟩
      have HM : Hid (x ∈ ref a0l) := by show x ∈ ref a0l; rw [← HX.out]; exact List.getElem_mem hlt
      have cell : ∀ j, j < 4 → wo.cell? ⟨g, i * 4 + j, none⟩ = some (.int .u64 ((wd x j).toNat : Int)) := fun j hj => by rw [← HX.out]; exact (HR.out.2.1.cell hgw).trans (HP.out i hlt j hj)
      have q0 : wo.cell? ⟨g, i * 4, none⟩ = some (.int .u64 (x.1.toNat : Int)) := cell 0 (by omega)
      have q1 : wo.cell? ⟨g, i * 4 + 1, none⟩ = some (.int .u64 (x.2.1.toNat : Int)) := cell 1 (by omega)
      have q2 : wo.cell? ⟨g, i * 4 + 2, none⟩ = some (.int .u64 (x.2.2.1.toNat : Int)) := cell 2 (by omega)
      have q3 : wo.cell? ⟨g, i * 4 + 3, none⟩ = some (.int .u64 (x.2.2.2.toNat : Int)) := cell 3 (by omega)
      clear cell
      have ca := count_le al
      have cx := count_le x
      have HCT : Hid (count (join al x) = count al + count x) := count_add (by rw [← HX.out]; exact together_apart hlt HR.out.1)
      have hdb : decide ((i : Int) < ((ref a0l).length : Int)) = true := decide_eq_true (by omega)
      have hsz1 := HR.out.2.1.size
      have hA : w1.heap.size < wo.heap.size := blk_lt HR.out.2.2
      go_upto_region 8 with (go_at_call 20; refine (count_any x _).mono ?_; rintro e W7 ⟨rfl, hl7⟩)
      have hb7 := hl7.below
      have HX7 : Hid (Bx W7 wo.heap.size x) := (bx_new wo x).next hb7
      have HA7 : Hid (W7.heap[w1.heap.size]? = some (bk al)) := (hb7.block _ (by simp; omega)).trans ((Below.heap_alloc _ _ _ hA).trans HR.out.2.2)
      have HB7 : Hid (Below w1.heap.size w1 W7) := (HR.out.2.1.alloc (by omega) _).trans (hb7.mono (by simp; omega))
      have hz7 := hb7.size
      simp at hz7
      obtain ⟨x0, x1, x2, x3⟩ := HX7.out
      obtain ⟨⟨a0, a1, a2, a3⟩, _⟩ := block4 HA7.out
      clear hl7 hb7 q0 q1 q2 q3 z0 z1 z2 z3
      go_upto_region 9 with (go_at_call 14; refine (join_any al x _).mono ?_; rintro e W8 ⟨rfl, hb8⟩; have HX8 : Hid (Bx W8 wo.heap.size x) := HX7.out.next hb8; have HA8 : Hid (W8.heap[w1.heap.size]? = some (bk al)) := blk_next hb8 HA7.out; have HB8 : Hid (Below w1.heap.size w1 W8) := HB7.out.trans (hb8.mono (by omega)); have hz8 := hb8.size; have t0 := (block4 HA8.out).1.1; have t1 := (block4 HA8.out).1.2.1; have t2 := (block4 HA8.out).1.2.2.1; have t3 := (block4 HA8.out).1.2.2.2; have y0 := (block4 HA8.out).2.1; have y1 := (block4 HA8.out).2.2.1; have y2 := (block4 HA8.out).2.2.2.1; have y3 := (block4 HA8.out).2.2.2.2)
      have HA9 := st4 HA8.out (join al x)
      have HX9 : Bx _ wo.heap.size x := HX8.out.grown (grown_set4 W8 w1.heap.size 0 1 2 3 (.int .u64 ((join al x).1.toNat : Int)) (.int .u64 ((join al x).2.1.toNat : Int)) (.int .u64 ((join al x).2.2.1.toNat : Int)) (.int .u64 ((join al x).2.2.2.toNat : Int))) (by simp; omega)
      have HB9 := be4 HB8.out (Nat.le_refl w1.heap.size) (.int .u64 ((join al x).1.toNat : Int)) (.int .u64 ((join al x).2.1.toNat : Int)) (.int .u64 ((join al x).2.2.1.toNat : Int)) (.int .u64 ((join al x).2.2.2.toNat : Int))
      generalize ((((W8.setCell ⟨w1.heap.size, 0, none⟩ (.int .u64 ((join al x).1.toNat : Int))).setCell ⟨w1.heap.size, 1, none⟩ (.int .u64 ((join al x).2.1.toNat : Int))).setCell ⟨w1.heap.size, 2, none⟩ (.int .u64 ((join al x).2.2.1.toNat : Int))).setCell ⟨w1.heap.size, 3, none⟩ (.int .u64 ((join al x).2.2.2.toNat : Int))) = W9 at HA9 HX9 HB9 ⊢
      generalize hbx : wo.heap.size = bx at HX9 HX8 HX7 hz7 ⊢
      have HBX : Hid (wo.heap.size = bx) := hbx
      clear hbx
      have HF9 : Hid (W9.heap[w1.heap.size]? = some (bk (join al x)) ∧ Bx W9 bx x ∧ Below w1.heap.size w1 W9) := ⟨HA9, HX9, HB9⟩
      clear HA9 HX9 HB9 t0 t1 t2 t3 y0 y1 y2 y3 x0 x1 x2 x3 a0 a1 a2 a3 hb8 HX8 HA8 HB8 HX7 HA7 HB7 hz8 hz7
      have hlx : least x < 256 := (inv_ref a0l).least_lt HM.out
      obtain ⟨b0, r0, e0, H21⟩ := bytes_first x hlx
      have H21x : Hid (∀ W, Calls Try.prog 21 #[.agg #[.int .u64 (x.1.toNat : Int), .int .u64 (x.2.1.toNat : Int), .int .u64 (x.2.2.1.toNat : Int), .int .u64 (x.2.2.2.toNat : Int)]] W fun e w' => e = .returned (.string ⟨(b0 :: r0).toArray⟩) ∧ Below W.heap.size W w') := H21
      have HE0 : Hid (b0.toNat = least x) := e0
      clear H21 e0
      have hqx : ∀ W, (Op.equalIn 10000 24 (.agg #[.int .u64 (x.1.toNat : Int), .int .u64 (x.2.1.toNat : Int), .int .u64 (x.2.2.1.toNat : Int), .int .u64 (x.2.2.2.toNat : Int)]) (.agg #[.int .u64 0, .int .u64 0, .int .u64 0, .int .u64 0])).run Try.prog W = .ok false W := fun W => by rw [eqIn_zero]; simp [ne_of_part HM.out]
      go_cut [48] (fun z wx => z = .bool false ∧ Hid (Below W9.heap.size W9 wx))
      case first =>
        by_cases hi0 : i = 0
        · have hI : ¬ (0 < (i : Int)) := by omega
          have hgt : decide (0 < i) = false := decide_eq_false (by omega)
          obtain ⟨q, y, hqy⟩ : ∃ q y, Hid (SA W9 bx x g q y W9.drew) := ⟨i, x, ⟨(Below.refl _ _).drew, HF9.out.2.1, by
            have := fun j hj => (HF9.out.2.2.cell (p := ⟨g, i * 4 + j, none⟩) hgw).trans (HP.out i hlt j hj)
            rw [HX.out] at this
            exact ⟨this 0 (by omega), this 1 (by omega), this 2 (by omega), this 3 (by omega)⟩⟩⟩
          have S9 := hqy.out
          have H21y := H21x
          clear hqy hi0
          have pa0 : ∀ p : Kp (SA W9 bx x g q y), p.W.cell? ⟨bx, 0, none⟩ = some (.int .u64 (x.1.toNat : Int)) := fun p => p.h.2.1.1
          have pa1 : ∀ p : Kp (SA W9 bx x g q y), p.W.cell? ⟨bx, 1, none⟩ = some (.int .u64 (x.2.1.toNat : Int)) := fun p => p.h.2.1.2.1
          have pa2 : ∀ p : Kp (SA W9 bx x g q y), p.W.cell? ⟨bx, 2, none⟩ = some (.int .u64 (x.2.2.1.toNat : Int)) := fun p => p.h.2.1.2.2.1
          have pa3 : ∀ p : Kp (SA W9 bx x g q y), p.W.cell? ⟨bx, 3, none⟩ = some (.int .u64 (x.2.2.2.toNat : Int)) := fun p => p.h.2.1.2.2.2
          have pc0 : ∀ p : Kp (SA W9 bx x g q y), p.W.cell? ⟨g, q * 4, none⟩ = some (.int .u64 (y.1.toNat : Int)) := fun p => p.h.2.2.1
          have pc1 : ∀ p : Kp (SA W9 bx x g q y), p.W.cell? ⟨g, q * 4 + 1, none⟩ = some (.int .u64 (y.2.1.toNat : Int)) := fun p => p.h.2.2.2.1
          have pc2 : ∀ p : Kp (SA W9 bx x g q y), p.W.cell? ⟨g, q * 4 + 2, none⟩ = some (.int .u64 (y.2.2.1.toNat : Int)) := fun p => p.h.2.2.2.2.1
          have pc3 : ∀ p : Kp (SA W9 bx x g q y), p.W.cell? ⟨g, q * 4 + 3, none⟩ = some (.int .u64 (y.2.2.2.toNat : Int)) := fun p => p.h.2.2.2.2.2
          have hne : Nonempty (Kp (SA W9 bx x g q y)) := ⟨⟨_, S9⟩⟩
          refine wp_region_kept mixed (by kernel_rfl) S9 ?_
          clear S9
          repeat (go_big_quiet_step (first | (go_at_call 21; with_reducible exact Kp.calls _ SA.next (H21x.out _)) | (go_at_call 21; with_reducible exact Kp.calls _ SA.next (H21y.out _))))
          refine wpQuiet_nil ?_
          intro W10 hw10
          obtain ⟨⟨W10, HS10⟩, rfl⟩ := hw10
          have HB10 : Hid (Below W9.heap.size W9 W10) := HS10.1
          clear pa0 pa1 pa2 pa3 pc0 pc1 pc2 pc3 hne HS10
          go_wp2_with fail
          go_meet
          case rel => exact ⟨rfl, HB10⟩
        · have hI : 0 < (i : Int) := by omega
          have hgt : decide (0 < i) = true := decide_eq_true (by omega)
          obtain ⟨q, HQ⟩ : ∃ q, Hid (i = q + 1) := ⟨i - 1, (by omega : i = i - 1 + 1)⟩
          have hql : q < (ref a0l).length := by have := HQ.out; omega
          obtain ⟨y, HY⟩ : ∃ y, Hid ((ref a0l)[q] = y) := ⟨_, (rfl : (ref a0l)[q] = (ref a0l)[q])⟩
          have HYM : Hid (y ∈ ref a0l) := by show y ∈ ref a0l; rw [← HY.out]; exact List.getElem_mem hql
          have S9 : SA W9 bx x g q y W9.drew := ⟨(Below.refl _ _).drew, HF9.out.2.1, by
            have := fun j hj => (HF9.out.2.2.cell (p := ⟨g, q * 4 + j, none⟩) hgw).trans (HP.out q hql j hj)
            rw [HY.out] at this
            exact ⟨this 0 (by omega), this 1 (by omega), this 2 (by omega), this 3 (by omega)⟩⟩
          obtain ⟨b1, r1, e1, H21⟩ := bytes_first y ((inv_ref a0l).least_lt HYM.out)
          have H21y : Hid (∀ W, Calls Try.prog 21 #[.agg #[.int .u64 (y.1.toNat : Int), .int .u64 (y.2.1.toNat : Int), .int .u64 (y.2.2.1.toNat : Int), .int .u64 (y.2.2.2.toNat : Int)]] W fun e w' => e = .returned (.string ⟨(b1 :: r1).toArray⟩) ∧ Below W.heap.size W w') := H21
          clear H21
          have hcmpN : ¬ (b0.toNat ≤ b1.toNat) := by
            rw [HE0.out, e1]
            have := List.pairwise_iff_getElem.1 (ref_sorted a0l) q i hql hlt (by have := HQ.out; omega)
            rw [HY.out, HX.out] at this
            omega
          clear e1
          have hsubw : IntKind.i64.wrap ((i : Int) - 1) = (q : Int) := by
            have := HQ.out
            simp only [IntKind.wrap, IntKind.bits, IntKind.signed]; simp; omega
          have hq1 : (0 : Int) ≤ (q : Int) := by omega
          have hq2 : (q : Int) < ((ref a0l).length : Int) := by omega
          have pa0 : ∀ p : Kp (SA W9 bx x g q y), p.W.cell? ⟨bx, 0, none⟩ = some (.int .u64 (x.1.toNat : Int)) := fun p => p.h.2.1.1
          have pa1 : ∀ p : Kp (SA W9 bx x g q y), p.W.cell? ⟨bx, 1, none⟩ = some (.int .u64 (x.2.1.toNat : Int)) := fun p => p.h.2.1.2.1
          have pa2 : ∀ p : Kp (SA W9 bx x g q y), p.W.cell? ⟨bx, 2, none⟩ = some (.int .u64 (x.2.2.1.toNat : Int)) := fun p => p.h.2.1.2.2.1
          have pa3 : ∀ p : Kp (SA W9 bx x g q y), p.W.cell? ⟨bx, 3, none⟩ = some (.int .u64 (x.2.2.2.toNat : Int)) := fun p => p.h.2.1.2.2.2
          have pc0 : ∀ p : Kp (SA W9 bx x g q y), p.W.cell? ⟨g, q * 4, none⟩ = some (.int .u64 (y.1.toNat : Int)) := fun p => p.h.2.2.1
          have pc1 : ∀ p : Kp (SA W9 bx x g q y), p.W.cell? ⟨g, q * 4 + 1, none⟩ = some (.int .u64 (y.2.1.toNat : Int)) := fun p => p.h.2.2.2.1
          have pc2 : ∀ p : Kp (SA W9 bx x g q y), p.W.cell? ⟨g, q * 4 + 2, none⟩ = some (.int .u64 (y.2.2.1.toNat : Int)) := fun p => p.h.2.2.2.2.1
          have pc3 : ∀ p : Kp (SA W9 bx x g q y), p.W.cell? ⟨g, q * 4 + 3, none⟩ = some (.int .u64 (y.2.2.2.toNat : Int)) := fun p => p.h.2.2.2.2.2
          have hne : Nonempty (Kp (SA W9 bx x g q y)) := ⟨⟨_, S9⟩⟩
          refine wp_region_kept mixed (by kernel_rfl) S9 ?_
          clear S9
          repeat (go_big_quiet_step (first | (go_at_call 21; with_reducible exact Kp.calls _ SA.next (H21x.out _)) | (go_at_call 21; with_reducible exact Kp.calls _ SA.next (H21y.out _))))
          refine wpQuiet_nil ?_
          intro W10 hw10
          obtain ⟨⟨W10, HS10⟩, rfl⟩ := hw10
          have HB10 : Hid (Below W9.heap.size W9 W10) := HS10.1
          clear pa0 pa1 pa2 pa3 pc0 pc1 pc2 pc3 hne HS10
          go_wp2_with fail
          go_meet
          case rel => exact ⟨congrArg Value.bool (decide_eq_false hcmpN), HB10⟩
      case rest =>
        obtain ⟨rfl, H10⟩ := hcut
        rename World => W10
        have HBW : Hid (Below w.heap.size w W10) := HB1.out.trans ((HF9.out.2.2.trans (H10.out.mono HF9.out.2.2.size)).mono HB1.out.size)
        have HX10 : Hid (Bx W10 bx x) := HF9.out.2.1.next H10.out
        go_wp2_with fail
        go_loopw [51] (fun z wr => ∃ j : Nat, j ≤ a0l.length ∧ z = .int .i64 (j : Int) ∧ Hid (Below W10.heap.size W10 wr)) (fun z _ => a0l.length - (intOf z).toNat)
        case atStart => exact ⟨0, by omega, rfl, Below.refl _ _⟩
        case round =>
          obtain ⟨j, hj, rfl, HJ⟩ := hrel
          rename World => W11
          have HX11 : Hid (Bx W11 bx x) := HX10.out.next HJ.out
          by_cases hjl : j < a0l.length
          · obtain ⟨b, o, hao, hbw, hcw⟩ := HC.out j hjl
            obtain ⟨c, HCC⟩ : ∃ c, Hid (a0l[j] = c) := ⟨_, (rfl : a0l[j] = a0l[j])⟩
            rw [HCC.out] at hcw
            have HCM : Hid (c ∈ a0l) := by show c ∈ a0l; rw [← HCC.out]; exact List.getElem_mem hjl
            have hbel : Below w.heap.size w W11 := HBW.out.trans (HJ.out.mono HBW.out.size)
            have q0 : W11.cell? ⟨b, o + j * 4, none⟩ = some (.int .u64 (c.1.toNat : Int)) := (hbel.cell hbw).trans (hcw 0 (by omega))
            have q1 : W11.cell? ⟨b, o + j * 4 + 1, none⟩ = some (.int .u64 (c.2.1.toNat : Int)) := (hbel.cell hbw).trans (hcw 1 (by omega))
            have q2 : W11.cell? ⟨b, o + j * 4 + 2, none⟩ = some (.int .u64 (c.2.2.1.toNat : Int)) := (hbel.cell hbw).trans (hcw 2 (by omega))
            have q3 : W11.cell? ⟨b, o + j * 4 + 3, none⟩ = some (.int .u64 (c.2.2.2.toNat : Int)) := (hbel.cell hbw).trans (hcw 3 (by omega))
            clear hcw hbel
            subst hao
            obtain ⟨x0, x1, x2, x3⟩ := HX11.out
            have hbx11 : bx < W11.heap.size := World.block_lt_of_cell? W11 ⟨bx, 0, none⟩ x0
            by_cases hme : meet x c = x
            · have hq1 : ∀ W, (Op.equalIn 10000 24 (.agg #[.int .u64 ((meet x c).1.toNat : Int), .int .u64 ((meet x c).2.1.toNat : Int), .int .u64 ((meet x c).2.2.1.toNat : Int), .int .u64 ((meet x c).2.2.2.toNat : Int)]) (.agg #[.int .u64 (x.1.toNat : Int), .int .u64 (x.2.1.toNat : Int), .int .u64 (x.2.2.1.toNat : Int), .int .u64 (x.2.2.2.toNat : Int)])).run Try.prog W = .ok true W := fun W => by rw [eqIn24]; simp [hme]
              clear hme
              go_wp2_with (go_at_call 16; refine (meet_any x c _).mono ?_; rintro e W12 ⟨rfl, hb12⟩; have HX12 : Hid (Bx W12 bx x) := (HX11.out.alloc (bk c)).next hb12; have x0 := HX12.out.1; have x1 := HX12.out.2.1; have x2 := HX12.out.2.2.1; have x3 := HX12.out.2.2.2; have hx12 : bx < W12.heap.size := HX12.out.lt)
              go_roundw
              case rel => exact ⟨j + 1, by omega, by go_num, ((HJ.out.alloc HJ.out.size _).trans (hb12.mono (by have := HJ.out.size; simp; omega))).alloc (by have := HJ.out.size; have := hb12.size; simp at this; omega) _⟩
              case measure => simp [intOf]; omega
            · have hmz : meet x c = empty := (part_in HM.out HCM.out).resolve_left hme
              have hq1 : ∀ W, (Op.equalIn 10000 24 (.agg #[.int .u64 ((meet x c).1.toNat : Int), .int .u64 ((meet x c).2.1.toNat : Int), .int .u64 ((meet x c).2.2.1.toNat : Int), .int .u64 ((meet x c).2.2.2.toNat : Int)]) (.agg #[.int .u64 (x.1.toNat : Int), .int .u64 (x.2.1.toNat : Int), .int .u64 (x.2.2.1.toNat : Int), .int .u64 (x.2.2.2.toNat : Int)])).run Try.prog W = .ok false W := fun W => by rw [eqIn24]; simp [hme]
              have hq2 : ∀ W, (Op.equalIn 10000 24 (.agg #[.int .u64 ((meet x c).1.toNat : Int), .int .u64 ((meet x c).2.1.toNat : Int), .int .u64 ((meet x c).2.2.1.toNat : Int), .int .u64 ((meet x c).2.2.2.toNat : Int)]) (.agg #[.int .u64 0, .int .u64 0, .int .u64 0, .int .u64 0])).run Try.prog W = .ok true W := fun W => by rw [eqIn_zero]; simp [hmz]
              clear hme hmz
              go_wp2_with (go_at_call 16; refine (meet_any x c _).mono ?_; rintro e W12 ⟨rfl, hb12⟩; have HX12 : Hid (Bx W12 bx x) := (HX11.out.alloc (bk c)).next hb12; have x0 := HX12.out.1; have x1 := HX12.out.2.1; have x2 := HX12.out.2.2.1; have x3 := HX12.out.2.2.2; have hx12 : bx < W12.heap.size := HX12.out.lt)
              go_roundw
              case rel => exact ⟨j + 1, by omega, by go_num, ((HJ.out.alloc HJ.out.size _).trans (hb12.mono (by have := HJ.out.size; simp; omega))).alloc (by have := HJ.out.size; have := hb12.size; simp at this; omega) _⟩
              case measure => simp [intOf]; omega
          · have e : j = a0l.length := by omega
            subst e
            have hic : i ≤ c1 := by omega
            have hic2 : (i : Int) ≤ (c1 : Int) := by omega
            go_wp2_with fail
            go_loopw [71] (fun z wr => ∃ j : Nat, j ≤ i ∧ z = .int .i64 (j : Int) ∧ Hid (Below W11.heap.size W11 wr)) (fun z _ => i - (intOf z).toNat)
            case atStart => exact ⟨0, by omega, rfl, Below.refl _ _⟩
            case round =>
              obtain ⟨j, hj2, rfl, HJ2⟩ := hrel
              rename World => W13
              have HB13 : Hid (Below w1.heap.size w1 W13) := (HF9.out.2.2.trans (H10.out.mono HF9.out.2.2.size)).trans ((HJ.out.trans (HJ2.out.mono HJ.out.size)).mono (Nat.le_trans HF9.out.2.2.size H10.out.size))
              by_cases hjl : j < i
              · obtain ⟨y, HY⟩ : ∃ y, Hid ((ref a0l)[j] = y) := ⟨_, (rfl : (ref a0l)[j] = (ref a0l)[j])⟩
                have HYM : Hid (y ∈ ref a0l) := by show y ∈ ref a0l; rw [← HY.out]; exact List.getElem_mem (by omega)
                have cell : ∀ t, t < 4 → W13.cell? ⟨g, j * 4 + t, none⟩ = some (.int .u64 ((wd y t).toNat : Int)) := fun t ht => by rw [← HY.out]; exact (HB13.out.cell hgw).trans (HP.out j (by omega) t ht)
                have q0 : W13.cell? ⟨g, j * 4, none⟩ = some (.int .u64 (y.1.toNat : Int)) := cell 0 (by omega)
                have q1 : W13.cell? ⟨g, j * 4 + 1, none⟩ = some (.int .u64 (y.2.1.toNat : Int)) := cell 1 (by omega)
                have q2 : W13.cell? ⟨g, j * 4 + 2, none⟩ = some (.int .u64 (y.2.2.1.toNat : Int)) := cell 2 (by omega)
                have q3 : W13.cell? ⟨g, j * 4 + 3, none⟩ = some (.int .u64 (y.2.2.2.toNat : Int)) := cell 3 (by omega)
                clear cell
                have htold : a0l.any (tells x y) = true := told HM.out HYM.out (fun e => by
                  have := List.pairwise_iff_getElem.1 (ref_sorted a0l) j i (by omega) hlt hjl
                  rw [HY.out, HX.out, e] at this; omega)
                have hnl : a0l ≠ [] := fun e => by rw [e] at htold; cases htold
                have HCT2 : Hid (Calls Try.prog 25 #[.slice ao a0l.length cap, .func (.func 26) #[] #[.pointer (some ⟨bx, 0, none⟩), .pointer (some ⟨W13.heap.size, 0, none⟩)]] (W13.alloc (bk y)) fun e w' => e = .returned (.bool true) ∧ Below (W13.alloc (bk y)).heap.size (W13.alloc (bk y)) w') := by
                  have := contains_any a0l hnl _ (W13.alloc (bk y)) (HS.out.below ((HB1.out.trans (HB13.out.mono HB1.out.size)).alloc (by have := HB1.out.size; have := HB13.out.size; omega) _) (Nat.le_refl _)) x y bx W13.heap.size ((HX11.out.next HJ2.out).alloc _) (bx_new W13 y)
                  rwa [htold] at this
                clear htold hnl
                go_wp2_with (go_at_call 25; refine HCT2.out.mono ?_; rintro e W14 ⟨rfl, hb14⟩)
                go_roundw
                case rel => exact ⟨j + 1, by omega, by go_num, (HJ2.out.alloc HJ2.out.size _).trans (hb14.mono (by have := HJ2.out.size; simp; omega))⟩
                case measure => simp [intOf]; omega
              · have e : j = i := by omega
                subst e
                go_wp2_with fail
                go_roundw
                case rel =>
                  refine ⟨j + 1, join al x, by omega, by go_num, by rw [HCT.out]; go_num, ⟨?_, HB13.out, ?_⟩⟩
                  · rw [List.take_succ_eq_append_getElem hlt, HX.out]; exact together_snoc HR.out.1
                  · exact blk_next (H10.out.trans ((HJ.out.trans (HJ2.out.mono HJ.out.size)).mono H10.out.size)) HF9.out.1
                case measure => simp [intOf]; omega
    · have e : i = (ref a0l).length := by omega
      subst e
      have hal : al = neg empty := by have := HR.out.1; rw [List.take_length] at this; exact together_all this
      subst hal
      have hc256 : ((count (neg empty) : Int) == 256) = true := by rw [count_all]; rfl
      have hq : ∀ W, (Op.equalIn 10000 24 (.agg #[.int .u64 ((neg empty).1.toNat : Int), .int .u64 ((neg empty).2.1.toNat : Int), .int .u64 ((neg empty).2.2.1.toNat : Int), .int .u64 ((neg empty).2.2.2.toNat : Int)]) (.agg #[.int .u64 ((neg empty).1.toNat : Int), .int .u64 ((neg empty).2.1.toNat : Int), .int .u64 ((neg empty).2.2.1.toNat : Int), .int .u64 ((neg empty).2.2.2.toNat : Int)])).run Try.prog W = .ok true W := fun W => by rw [eqIn24]; simp
      have HRG : Hid (∀ W, Calls Try.prog 10 #[.int .i64 0, .int .i64 255] W fun e w' => e = .returned (.agg #[.int .u64 ((neg empty).1.toNat : Int), .int .u64 ((neg empty).2.1.toNat : Int), .int .u64 ((neg empty).2.2.1.toNat : Int), .int .u64 ((neg empty).2.2.2.toNat : Int)]) ∧ Below W.heap.size W w') := fun W => by
        have := range_any 0 255 (by omega) (by omega) (by omega) W
        rwa [range_all] at this
      have S25 : SE wo w1.heap.size (neg empty) wo.drew := ⟨(Below.refl _ _).drew, ⟨z0, z1, z2, z3⟩⟩
      have HBE : Hid (Below w.heap.size w wo) := HB1.out.trans (HR.out.2.1.mono HB1.out.size)
      go_upto_region 25 with fail
      have pe0 : ∀ p : Kp (SE wo w1.heap.size (neg empty)), p.W.cell? ⟨w1.heap.size, 0, none⟩ = some (.int .u64 ((neg empty).1.toNat : Int)) := fun p => p.h.2.1
      have pe1 : ∀ p : Kp (SE wo w1.heap.size (neg empty)), p.W.cell? ⟨w1.heap.size, 1, none⟩ = some (.int .u64 ((neg empty).2.1.toNat : Int)) := fun p => p.h.2.2.1
      have pe2 : ∀ p : Kp (SE wo w1.heap.size (neg empty)), p.W.cell? ⟨w1.heap.size, 2, none⟩ = some (.int .u64 ((neg empty).2.2.1.toNat : Int)) := fun p => p.h.2.2.2.1
      have pe3 : ∀ p : Kp (SE wo w1.heap.size (neg empty)), p.W.cell? ⟨w1.heap.size, 3, none⟩ = some (.int .u64 ((neg empty).2.2.2.toNat : Int)) := fun p => p.h.2.2.2.2
      have hne : Nonempty (Kp (SE wo w1.heap.size (neg empty))) := ⟨⟨_, S25⟩⟩
      refine wp_region_kept mixed (by kernel_rfl) S25 ?_
      clear S25
      repeat (go_big_quiet_step (first | (go_at_call 10; with_reducible exact Kp.calls _ SE.next (HRG.out _))))
      refine wpQuiet_nil ?_
      intro W10 hw10
      obtain ⟨⟨W10, HS10⟩, rfl⟩ := hw10
      have HB10 : Hid (Below wo.heap.size wo W10) := HS10.1
      clear pe0 pe1 pe2 pe3 hne HS10
      go_wp2_with fail
      go_ret
      exact ⟨rfl, HBE.out.trans (HB10.out.mono HBE.out.size)⟩

/-! ### What the walk gives, for every argument -/
set_option maxRecDepth 100000 in
theorem contract (H : Type) (enc : TypeId × Value → H) (W : World) (base : Nat) (args : Array Value) (ds gs : List (DataW H)) (before : List MemPlace)
    (hval : ∀ (j : Nat) t v, Try.f7.params[j]? = some t → args[j]? = some v → Value.okWide Try.prog W .any base t v)
    (hW : DataW.Whole enc Try.prog Try.f7.params.toList Rows.classAtomsSpec.vars false W args.toList ds gs before) (hsz : (DataW.weightsEach Try.prog (Try.f7.params.toList ++ Rows.classAtomsSpec.plain.varTypes Try.prog) (ds ++ gs)).all (· ≤ reachBytes) = true) :
    Calls Try.prog 7 args W fun e W' => ∃ v, e = .returned v ∧ Rows.classAtomsSpec.post enc Try.prog Try.f7 false true false false W args v W' := by
  have hW' := hW
  obtain ⟨p, q, hA0, hV, rfl, hfz, hnd⟩ := hW
  have hA : DataW.TrodAll enc Try.prog W 0 (fun _ => true) true Try.f7.params.toList args.toList ds p := hA0
  rw [Try.params7] at hA hval hsz
  obtain ⟨v0, vs0, d0, ds0, p0, q0, hargs, rfl, rfl, h0, r0⟩ := trodAll_cons hA
  obtain ⟨rfl, rfl, rfl⟩ := trodAll_nil r0
  obtain rfl : args = #[v0] := by cases args; simp_all
  obtain ⟨rfl, rfl⟩ := trodVars_none hV
  have k0 := h0
  have lt0 : ∀ x ∈ p0, x.block < W.heap.size := by obtain ⟨m, hm⟩ := k0; exact DataW.trod_lt m _ _ _ hm
  obtain ⟨a0l, w0s, w0z⟩ := open_cls (hval 0 36 v0 rfl rfl) h0
  clear hA0
  refine (walk _ a0l W w0s).mono fun e W' ⟨he, bel⟩ => ?_
  subst he
  exact ⟨_, rfl, _, _, _, [], _, [], hW', trodAll_mk1 (shut_bool Try.underlying4 _), (trodAll_cons_mk (Below.trod laidOut (by kernel_rfl) (of_decide_eq_true (by kernel_rfl)) k0 bel lt0) trodAll_mk0), rfl, bel.frame _, fun h => by cases h⟩

/-! ### The row's step -/
set_option maxRecDepth 100000 in
theorem lifted (os : Os) (started : os.Started) (H : Type) (enc : TypeId × Value → H) :
    ReturnsInHanded {} Try.checked os 7 .any (Rows.classAtomsSpec.pre6 enc Try.prog Try.f7 Rows.classAtomsRow.domain false) (Rows.classAtomsSpec.post enc Try.prog Try.f7 false true false false) := by
  refine returnsInHanded_of_change_sized (C := Try.checked) own started (by kernel_rfl) Try.func7
    (ChangeSpec.witness6 (enc := enc) (C := Try.checked) false ⟨#[], #[.slice none 0 0], []⟩ 8 (by kernel_rfl) (by kernel_rfl) (by kernel_rfl) (by kernel_rfl)) ?_
  intro W base args ds gs before hval hW hcnd hsz _
  exact contract H enc W base args ds gs before hval hW hsz

theorem over : Rows.classAtomsRow.holds Try.pinned (OpenSpec.ofChange Rows.classAtomsSpec) :=
  OpenClaim.holds_of_wide 7 Try.f7 rfl rfl rfl rfl rfl rfl rfl ⟨rfl, rfl, rfl, rfl, rfl⟩ rfl rfl rfl rfl rfl (by kernel_rfl) Try.func7 (by kernel_rfl)
    (of_decide_eq_true (by kernel_rfl)) (by unfold Func.isWrapper; first | (rw [if_pos (by decide +kernel)]; kernel_rfl) | (rw [if_neg (by decide +kernel)]; exact ⟨rfl, rfl⟩))
    (fun os started H enc _ => lifted os started H enc)

end Go.Proofs.Ytgoejdakmbpcmaa.classAtoms
namespace Go.Proofs.Ytgoejdakmbpcmaa
/-- The given statement. -/
theorem classAtoms_holds : Rows.ClassAtomsSaid := classAtoms.over
#print axioms classAtoms_holds
end Go.Proofs.Ytgoejdakmbpcmaa
