/-
  RexBack returns true whatever tree is handed in, and changes nothing that it was handed; no condition.
-/
import Derived.Test.YthloedfiomfnbaaRows
import Derived.WalkKit
import Derived.ProofKit
import Derived.OpenShut
import Derived.ShutString
import Derived.SizedLaws
import Derived.ChangeOld
import Derived.Below
import Derived.Carry
import Derived.WalkLawsBesides
import Derived.WalkSpells
import Derived.Test.YthloedfiomfnbaaOpens
import Derived.Test.YthloedfiomfnbaaRxKeep
namespace Go.Proofs.Ythloedfiomfnbaa.rexBack
open Go.ChangeShapes Go.WideShapes Go.ChangeAt Go.RowKit
open Go.ChangeMaps (open_string shut_string)
open Cls
open Rex
open Txt
set_option linter.unusedVariables false

theorem own : ownKnob Try.prog.godebug = none := by kernel_rfl
theorem laidOut : laidOutB Try.prog = true := by kernel_rfl

theorem str_of (L : List UInt8) : (S L).size = L.length := by simp [ByteArray.size]
structure RBk (w9 : World) (q0 : R6) (qs : R6) (qt : R6) (d : Nat → Bool) (x15 x16 x17 x18 x19 x20 x21 x22 x23 x24 x25 : Value) (W : World) : Prop where
  f0 : d 0 = true → x15 = (.int .i64 0)
  f1 : d 1 = true → x16 = (.bool false)
  f2 : d 2 = true → x17 = (.bool false)
  f3 : d 3 = true → x18 = (.agg #[.int .i64 q0.1, .int .u64 (q0.2.1.1.toNat : Int), .int .u64 (q0.2.1.2.1.toNat : Int), .int .u64 (q0.2.1.2.2.1.toNat : Int), .int .u64 (q0.2.1.2.2.2.toNat : Int), .slice q0.2.2.1 q0.2.2.2.1 q0.2.2.2.2])
  f4 : d 4 = true → x19 = (.agg #[.int .i64 3, .int .u64 ((range 97 97).1.toNat : Int), .int .u64 ((range 97 97).2.1.toNat : Int), .int .u64 ((range 97 97).2.2.1.toNat : Int), .int .u64 ((range 97 97).2.2.2.toNat : Int), .slice none 0 0])
  f5 : d 5 = true → x20 = (.agg #[.int .i64 3, .int .u64 ((range 98 98).1.toNat : Int), .int .u64 ((range 98 98).2.1.toNat : Int), .int .u64 ((range 98 98).2.2.1.toNat : Int), .int .u64 ((range 98 98).2.2.2.toNat : Int), .slice none 0 0])
  f6 : d 6 = true → x21 = (.agg #[.int .i64 qs.1, .int .u64 (qs.2.1.1.toNat : Int), .int .u64 (qs.2.1.2.1.toNat : Int), .int .u64 (qs.2.1.2.2.1.toNat : Int), .int .u64 (qs.2.1.2.2.2.toNat : Int), .slice qs.2.2.1 qs.2.2.2.1 qs.2.2.2.2])
  f7 : d 7 = true → x22 = (.agg #[.int .i64 qt.1, .int .u64 (qt.2.1.1.toNat : Int), .int .u64 (qt.2.1.2.1.toNat : Int), .int .u64 (qt.2.1.2.2.1.toNat : Int), .int .u64 (qt.2.1.2.2.2.toNat : Int), .slice qt.2.2.1 qt.2.2.2.1 qt.2.2.2.2])
  f8 : d 8 = true → x23 = (.bool true)
  f9 : d 9 = true → x24 = (.bool false)
  f10 : d 10 = true → x25 = (.bool false)
  kp : Below w9.heap.size w9 W
  s6 : d 6 = true → Rx W W.heap.size (v6 qs) (.mk 6 Cls.empty [(.mk 3 (range 98 98) [])])
  s7 : d 7 = true → Rx W W.heap.size (v6 qt) (.mk 5 Cls.empty [(.mk 3 (range 97 97) []), (.mk 6 Cls.empty [(.mk 3 (range 98 98) [])])])

/-! ### The walk: the Go text returns true. -/
set_option maxHeartbeats 8000000 in
set_option maxRecDepth 20000 in
theorem walk (v0 : Value) (a0t : Rex.T) (w : World) (w0s : Rx w w.heap.size v0 a0t) :
    Calls Try.prog 5 #[v0] w fun e w' => e = .returned (.bool true) ∧ Below w.heap.size w w' := by
  have HX9 : Hid (Rx w w.heap.size v0 a0t) := w0s
  clear w0s
  obtain ⟨k0, c0, ao0, p0, kids0, vals0, rfl, -⟩ := HX9.out.shape
  obtain ⟨q, HQ⟩ : ∃ q : R6, Hid (q = (k0, c0, ao0, kids0.length, p0)) := ⟨_, rfl⟩
  have hv : (Value.agg #[.int .i64 k0, .int .u64 (c0.1.toNat : Int), .int .u64 (c0.2.1.toNat : Int), .int .u64 (c0.2.2.1.toNat : Int), .int .u64 (c0.2.2.2.toNat : Int), .slice ao0 kids0.length p0]) = v6 q := by rw [HQ.out]
  rw [hv] at HX9 ⊢
  clear hv HQ
  revert HX9
  generalize a0t = t
  intro HX9
  have hba := bal w (Obj.cells #[.int .i64 q.1, .int .u64 (q.2.1.1.toNat : Int), .int .u64 (q.2.1.2.1.toNat : Int), .int .u64 (q.2.1.2.2.1.toNat : Int), .int .u64 (q.2.1.2.2.2.toNat : Int), .slice q.2.2.1 q.2.2.2.1 q.2.2.2.2] 27)
  have hrw := row_of6 w (.int .i64 q.1) (.int .u64 (q.2.1.1.toNat : Int)) (.int .u64 (q.2.1.2.1.toNat : Int)) (.int .u64 (q.2.1.2.2.1.toNat : Int)) (.int .u64 (q.2.1.2.2.2.toNat : Int)) (.slice q.2.2.1 q.2.2.2.1 q.2.2.2.2)
  obtain ⟨w1, HW1⟩ : ∃ w1, Hid (w.alloc (Obj.cells #[.int .i64 q.1, .int .u64 (q.2.1.1.toNat : Int), .int .u64 (q.2.1.2.1.toNat : Int), .int .u64 (q.2.1.2.2.1.toNat : Int), .int .u64 (q.2.1.2.2.2.toNat : Int), .slice q.2.2.1 q.2.2.2.1 q.2.2.2.2] 27) = w1) := ⟨_, (rfl : _ = _)⟩
  rw [HW1.out] at hba hrw
  have HB1 : Hid (Below w.heap.size w w1 ∧ w.heap.size < w1.heap.size) := ⟨hba, by rw [← HW1.out]; simp⟩
  have HBX1 : Hid (∀ W : World, Below w1.heap.size w1 W → Rx W W.heap.size (v6 q) t ∧ W.rowIs w.heap.size 27 6 (fun i => match i with | 0 => .int .i64 q.1 | 1 => .int .u64 (q.2.1.1.toNat : Int) | 2 => .int .u64 (q.2.1.2.1.toNat : Int) | 3 => .int .u64 (q.2.1.2.2.1.toNat : Int) | 4 => .int .u64 (q.2.1.2.2.2.toNat : Int) | _ => .slice q.2.2.1 q.2.2.2.1 q.2.2.2.2)) := fun W hW => ⟨(((HX9.out.next hba).wide hba.size).next hW).wide hW.size, hrw.of_block (hW.block _ hrw.lt)⟩
  obtain ⟨L, HL⟩ : ∃ L : List UInt8, Hid ((err t = 0 → ∀ x, Is t x → text x = L) ∧ (err t ≠ 0 → L = [])) := by
    by_cases h : err t = 0
    · obtain ⟨x, hi, -⟩ := err_right h
      exact ⟨text x, fun _ y hy => by rw [is_same2 hy hi], fun hh => absurd h hh⟩
    · exact ⟨[], fun hh => absurd hh h, fun _ => rfl⟩
  obtain ⟨er, HER⟩ : ∃ er, Hid (err t = er) := ⟨_, (rfl : err t = err t)⟩
  have HP : Hid (∀ (W : World), Rx W W.heap.size (v6 q) t → Calls Try.prog 9 #[.agg #[.int .i64 q.1, .int .u64 (q.2.1.1.toNat : Int), .int .u64 (q.2.1.2.1.toNat : Int), .int .u64 (q.2.1.2.2.1.toNat : Int), .int .u64 (q.2.1.2.2.2.toNat : Int), .slice q.2.2.1 q.2.2.2.1 q.2.2.2.2]] W fun e w' => e = .returned (.tuple #[.string (S L), .int .i64 (er : Int)]) ∧ Below W.heap.size W w') := fun W h => by
    have := print_any t (v6 q) W.heap.size W h (Nat.le_refl _) L HL.out.1 HL.out.2
    rw [HER.out] at this; exact this
  have hpo := Parse_ok ⟨#[97, 124, 98, 42]⟩ (by decide) (.mk 5 Cls.empty [(.mk 3 (range 97 97) []), (.mk 6 Cls.empty [(.mk 3 (range 98 98) [])])]) (by
    have hb := read_back ⟨#[97, 124, 98, 42]⟩ (.alt (.byte (range 97 97)) (.star (.byte (range 98 98)))) ⟨ne1, ne2⟩ (by decide) tx1.symm
    rw [hb]
    exact ⟨rfl, rfl, by decide⟩) er1 (by decide) w1
  clear hba hrw HX9
  go_enter Try.func5, Try.ntmps5
  go_wp2_with fail
  rw [HW1.out]
  refine hpo.mono ?_
  rintro _ w2 ⟨q0, rfl, hx2, hb2⟩
  have hba := bal w2 (Obj.cells #[.int .i64 q0.1, .int .u64 (q0.2.1.1.toNat : Int), .int .u64 (q0.2.1.2.1.toNat : Int), .int .u64 (q0.2.1.2.2.1.toNat : Int), .int .u64 (q0.2.1.2.2.2.toNat : Int), .slice q0.2.2.1 q0.2.2.2.1 q0.2.2.2.2] 27)
  have hrw := row_of6 w2 (.int .i64 q0.1) (.int .u64 (q0.2.1.1.toNat : Int)) (.int .u64 (q0.2.1.2.1.toNat : Int)) (.int .u64 (q0.2.1.2.2.1.toNat : Int)) (.int .u64 (q0.2.1.2.2.2.toNat : Int)) (.slice q0.2.2.1 q0.2.2.2.1 q0.2.2.2.2)
  obtain ⟨w3, HW3⟩ : ∃ w3, Hid (w2.alloc (Obj.cells #[.int .i64 q0.1, .int .u64 (q0.2.1.1.toNat : Int), .int .u64 (q0.2.1.2.1.toNat : Int), .int .u64 (q0.2.1.2.2.1.toNat : Int), .int .u64 (q0.2.1.2.2.2.toNat : Int), .slice q0.2.2.1 q0.2.2.2.1 q0.2.2.2.2] 27) = w3) := ⟨_, (rfl : _ = _)⟩
  rw [HW3.out] at hba hrw
  obtain ⟨r0, HR0⟩ : ∃ r0, Hid (w2.heap.size = r0) := ⟨_, (rfl : w2.heap.size = w2.heap.size)⟩
  rw [HR0.out] at hrw
  have hb13 : Below w1.heap.size w1 w3 := hb2.trans (hba.mono hb2.size)
  have HX0 : Hid (Rx w3 w3.heap.size (v6 q0) (.mk 5 Cls.empty [(.mk 3 (range 97 97) []), (.mk 6 Cls.empty [(.mk 3 (range 98 98) [])])])) := (hx2.next hba).wide hba.size
  have HROW : Hid (w3.rowIs r0 27 6 (fun i => match i with | 0 => .int .i64 q0.1 | 1 => .int .u64 (q0.2.1.1.toNat : Int) | 2 => .int .u64 (q0.2.1.2.1.toNat : Int) | 3 => .int .u64 (q0.2.1.2.2.1.toNat : Int) | 4 => .int .u64 (q0.2.1.2.2.2.toNat : Int) | _ => .slice q0.2.2.1 q0.2.2.2.1 q0.2.2.2.2)) := hrw
  have HB3 : Hid (Below w.heap.size w w3) := HB1.out.1.trans (hb13.mono HB1.out.1.size)
  have HBX : Hid (∀ W : World, Below w.heap.size w W → True) := fun _ _ => trivial
  clear HBX
  have HBX3 : Hid (∀ W : World, Below w3.heap.size w3 W → Rx W W.heap.size (v6 q) t ∧ W.rowIs w.heap.size 27 6 (fun i => match i with | 0 => .int .i64 q.1 | 1 => .int .u64 (q.2.1.1.toNat : Int) | 2 => .int .u64 (q.2.1.2.1.toNat : Int) | 3 => .int .u64 (q.2.1.2.2.1.toNat : Int) | 4 => .int .u64 (q.2.1.2.2.2.toNat : Int) | _ => .slice q.2.2.1 q.2.2.2.1 q.2.2.2.2)) := fun W hW => HBX1.out W (hb13.trans (hW.mono hb13.size))
  clear hpo hx2 hb2 hba hrw hb13 HBX1 HB1
  go_upto_region 2 with (fail)
  rw [HW3.out, HR0.out]
  clear HW1 HW3 HR0
  refine wp_region_free mixed (fun a0 d a W => ∃ (qs : R6) (qt : R6) (x15 x16 x17 x18 x19 x20 x21 x22 x23 x24 x25 : Value), a = (((((((((((a0.put (some 15) x15).put (some 16) x16).put (some 17) x17).put (some 18) x18).put (some 19) x19).put (some 20) x20).put (some 21) x21).put (some 22) x22).put (some 23) x23).put (some 24) x24).put (some 25) x25) ∧ Hid (RBk w3 q0 qs qt d x15 x16 x17 x18 x19 x20 x21 x22 x23 x24 x25 W)) (by kernel_rfl) ⟨(0, Cls.empty, none, 0, 0), (0, Cls.empty, none, 0, 0), undef, undef, undef, undef, undef, undef, undef, undef, undef, undef, undef, by simp only [Act.put, List.setIfInBounds_toArray, List.set_cons_zero, List.set_cons_succ], ?_⟩ ?_ ?_
  · exact ⟨fun h => no_way h, fun h => no_way h, fun h => no_way h, fun h => no_way h, fun h => no_way h, fun h => no_way h, fun h => no_way h, fun h => no_way h, fun h => no_way h, fun h => no_way h, fun h => no_way h, Below.drew (Below.refl _ _), fun h => no_way h, fun h => no_way h⟩
  · simp only [StepAll, and_true]
    refine ⟨?_, ?_, ?_, ?_, ?_, ?_, ?_, ?_, ?_, ?_, ?_⟩
    · intro d a W hI hd hdep
      obtain ⟨qs, qt, x15, x16, x17, x18, x19, x20, x21, x22, x23, x24, x25, rfl, hF⟩ := hI
      clear hdep hd
      intro K hK
      simp only [Act.put, List.setIfInBounds_toArray, List.set_cons_zero, List.set_cons_succ]
      go_simp
      refine hK.out _ _ ⟨qs, qt, (.int .i64 0), x16, x17, x18, x19, x20, x21, x22, x23, x24, x25, by simp only [Act.put, List.setIfInBounds_toArray, List.set_cons_zero, List.set_cons_succ], ?_⟩
      exact ⟨fun _ => rfl, fun h => hF.out.f1 (by simpa using h), fun h => hF.out.f2 (by simpa using h), fun h => hF.out.f3 (by simpa using h), fun h => hF.out.f4 (by simpa using h), fun h => hF.out.f5 (by simpa using h), fun h => hF.out.f6 (by simpa using h), fun h => hF.out.f7 (by simpa using h), fun h => hF.out.f8 (by simpa using h), fun h => hF.out.f9 (by simpa using h), fun h => hF.out.f10 (by simpa using h), hF.out.kp, fun h => hF.out.s6 (by simpa using h), fun h => hF.out.s7 (by simpa using h)⟩
    · intro d a W hI hd hdep
      obtain ⟨qs, qt, x15, x16, x17, x18, x19, x20, x21, x22, x23, x24, x25, rfl, hF⟩ := hI
      have hd0 : d 0 = true := dep_of hdep 0 (by kernel_rfl)
      obtain rfl := hF.out.f0 hd0
      clear hdep hd hd0
      intro K hK
      simp only [Act.put, List.setIfInBounds_toArray, List.set_cons_zero, List.set_cons_succ]
      go_simp
      refine hK.out _ _ ⟨qs, qt, (.int .i64 0), (.bool false), x17, x18, x19, x20, x21, x22, x23, x24, x25, by simp only [Act.put, List.setIfInBounds_toArray, List.set_cons_zero, List.set_cons_succ], ?_⟩
      exact ⟨fun h => hF.out.f0 (by simpa using h), fun _ => rfl, fun h => hF.out.f2 (by simpa using h), fun h => hF.out.f3 (by simpa using h), fun h => hF.out.f4 (by simpa using h), fun h => hF.out.f5 (by simpa using h), fun h => hF.out.f6 (by simpa using h), fun h => hF.out.f7 (by simpa using h), fun h => hF.out.f8 (by simpa using h), fun h => hF.out.f9 (by simpa using h), fun h => hF.out.f10 (by simpa using h), hF.out.kp, fun h => hF.out.s6 (by simpa using h), fun h => hF.out.s7 (by simpa using h)⟩
    · intro d a W hI hd hdep
      obtain ⟨qs, qt, x15, x16, x17, x18, x19, x20, x21, x22, x23, x24, x25, rfl, hF⟩ := hI
      have hd1 : d 1 = true := dep_of hdep 1 (by kernel_rfl)
      obtain rfl := hF.out.f1 hd1
      clear hdep hd hd1
      intro K hK
      simp only [Act.put, List.setIfInBounds_toArray, List.set_cons_zero, List.set_cons_succ]
      go_simp
      refine hK.out _ _ ⟨qs, qt, x15, (.bool false), (.bool false), x18, x19, x20, x21, x22, x23, x24, x25, by simp only [Act.put, List.setIfInBounds_toArray, List.set_cons_zero, List.set_cons_succ], ?_⟩
      exact ⟨fun h => hF.out.f0 (by simpa using h), fun h => hF.out.f1 (by simpa using h), fun _ => rfl, fun h => hF.out.f3 (by simpa using h), fun h => hF.out.f4 (by simpa using h), fun h => hF.out.f5 (by simpa using h), fun h => hF.out.f6 (by simpa using h), fun h => hF.out.f7 (by simpa using h), fun h => hF.out.f8 (by simpa using h), fun h => hF.out.f9 (by simpa using h), fun h => hF.out.f10 (by simpa using h), hF.out.kp, fun h => hF.out.s6 (by simpa using h), fun h => hF.out.s7 (by simpa using h)⟩
    · intro d a W hI hd hdep
      obtain ⟨qs, qt, x15, x16, x17, x18, x19, x20, x21, x22, x23, x24, x25, rfl, hF⟩ := hI
      have hd2 : d 2 = true := dep_of hdep 2 (by kernel_rfl)
      obtain rfl := hF.out.f2 hd2
      have hrw := HROW.out.of_block (hF.out.kp.block _ HROW.out.lt)
      have y0 := hrw.cell (i := 0) (by omega)
      have y1 := hrw.cell (i := 1) (by omega)
      have y2 := hrw.cell (i := 2) (by omega)
      have y3 := hrw.cell (i := 3) (by omega)
      have y4 := hrw.cell (i := 4) (by omega)
      have y5 := hrw.cell (i := 5) (by omega)
      simp only [] at y0 y1 y2 y3 y4 y5
      clear hrw
      clear hdep hd hd2
      intro K hK
      simp only [Act.put, List.setIfInBounds_toArray, List.set_cons_zero, List.set_cons_succ]
      go_simp
      refine hK.out _ _ ⟨qs, qt, x15, x16, (.bool false), (.agg #[.int .i64 q0.1, .int .u64 (q0.2.1.1.toNat : Int), .int .u64 (q0.2.1.2.1.toNat : Int), .int .u64 (q0.2.1.2.2.1.toNat : Int), .int .u64 (q0.2.1.2.2.2.toNat : Int), .slice q0.2.2.1 q0.2.2.2.1 q0.2.2.2.2]), x19, x20, x21, x22, x23, x24, x25, by simp only [Act.put, List.setIfInBounds_toArray, List.set_cons_zero, List.set_cons_succ], ?_⟩
      exact ⟨fun h => hF.out.f0 (by simpa using h), fun h => hF.out.f1 (by simpa using h), fun h => hF.out.f2 (by simpa using h), fun _ => rfl, fun h => hF.out.f4 (by simpa using h), fun h => hF.out.f5 (by simpa using h), fun h => hF.out.f6 (by simpa using h), fun h => hF.out.f7 (by simpa using h), fun h => hF.out.f8 (by simpa using h), fun h => hF.out.f9 (by simpa using h), fun h => hF.out.f10 (by simpa using h), hF.out.kp, fun h => hF.out.s6 (by simpa using h), fun h => hF.out.s7 (by simpa using h)⟩
    · intro d a W hI hd hdep
      obtain ⟨qs, qt, x15, x16, x17, x18, x19, x20, x21, x22, x23, x24, x25, rfl, hF⟩ := hI
      have hd2 : d 2 = true := dep_of hdep 2 (by kernel_rfl)
      obtain rfl := hF.out.f2 hd2
      have HKP : Hid (Below w3.heap.size w3 W) := hF.out.kp
      have hcl := letter_any 97 (by omega) (by omega) W
      clear hdep hd hd2
      intro K hK
      simp only [Act.put, List.setIfInBounds_toArray, List.set_cons_zero, List.set_cons_succ]
      go_simp
      refine hcl.mono ?_
      rintro _ W1 ⟨rfl, hb1⟩
      have HB1 : Hid (Below W.heap.size W W1) := hb1
      clear hb1 hcl
      go_simp
      refine hK.out _ _ ⟨qs, qt, x15, x16, (.bool false), x18, (.agg #[.int .i64 3, .int .u64 ((range 97 97).1.toNat : Int), .int .u64 ((range 97 97).2.1.toNat : Int), .int .u64 ((range 97 97).2.2.1.toNat : Int), .int .u64 ((range 97 97).2.2.2.toNat : Int), .slice none 0 0]), x20, x21, x22, x23, x24, x25, by simp only [Act.put, List.setIfInBounds_toArray, List.set_cons_zero, List.set_cons_succ], ?_⟩
      exact ⟨fun h => hF.out.f0 (by simpa using h), fun h => hF.out.f1 (by simpa using h), fun h => hF.out.f2 (by simpa using h), fun h => hF.out.f3 (by simpa using h), fun _ => rfl, fun h => hF.out.f5 (by simpa using h), fun h => hF.out.f6 (by simpa using h), fun h => hF.out.f7 (by simpa using h), fun h => hF.out.f8 (by simpa using h), fun h => hF.out.f9 (by simpa using h), fun h => hF.out.f10 (by simpa using h), HKP.out.trans (HB1.out.mono HKP.out.size), fun h => have z := hF.out.s6 (by simpa using h); (z.next HB1.out).wide HB1.out.size, fun h => have z := hF.out.s7 (by simpa using h); (z.next HB1.out).wide HB1.out.size⟩
    · intro d a W hI hd hdep
      obtain ⟨qs, qt, x15, x16, x17, x18, x19, x20, x21, x22, x23, x24, x25, rfl, hF⟩ := hI
      have hd2 : d 2 = true := dep_of hdep 2 (by kernel_rfl)
      obtain rfl := hF.out.f2 hd2
      have HKP : Hid (Below w3.heap.size w3 W) := hF.out.kp
      have hcl := letter_any 98 (by omega) (by omega) W
      clear hdep hd hd2
      intro K hK
      simp only [Act.put, List.setIfInBounds_toArray, List.set_cons_zero, List.set_cons_succ]
      go_simp
      refine hcl.mono ?_
      rintro _ W1 ⟨rfl, hb1⟩
      have HB1 : Hid (Below W.heap.size W W1) := hb1
      clear hb1 hcl
      go_simp
      refine hK.out _ _ ⟨qs, qt, x15, x16, (.bool false), x18, x19, (.agg #[.int .i64 3, .int .u64 ((range 98 98).1.toNat : Int), .int .u64 ((range 98 98).2.1.toNat : Int), .int .u64 ((range 98 98).2.2.1.toNat : Int), .int .u64 ((range 98 98).2.2.2.toNat : Int), .slice none 0 0]), x21, x22, x23, x24, x25, by simp only [Act.put, List.setIfInBounds_toArray, List.set_cons_zero, List.set_cons_succ], ?_⟩
      exact ⟨fun h => hF.out.f0 (by simpa using h), fun h => hF.out.f1 (by simpa using h), fun h => hF.out.f2 (by simpa using h), fun h => hF.out.f3 (by simpa using h), fun h => hF.out.f4 (by simpa using h), fun _ => rfl, fun h => hF.out.f6 (by simpa using h), fun h => hF.out.f7 (by simpa using h), fun h => hF.out.f8 (by simpa using h), fun h => hF.out.f9 (by simpa using h), fun h => hF.out.f10 (by simpa using h), HKP.out.trans (HB1.out.mono HKP.out.size), fun h => have z := hF.out.s6 (by simpa using h); (z.next HB1.out).wide HB1.out.size, fun h => have z := hF.out.s7 (by simpa using h); (z.next HB1.out).wide HB1.out.size⟩
    · intro d a W hI hd hdep
      obtain ⟨qs, qt, x15, x16, x17, x18, x19, x20, x21, x22, x23, x24, x25, rfl, hF⟩ := hI
      have hd2 : d 2 = true := dep_of hdep 2 (by kernel_rfl)
      have hd5 : d 5 = true := dep_of hdep 5 (by kernel_rfl)
      obtain rfl := hF.out.f2 hd2
      obtain rfl := hF.out.f5 hd5
      have HKP : Hid (Below w3.heap.size w3 W) := hF.out.kp
      have hcl := star_any (.mk 3 (range 98 98) []) (3, range 98 98, none, 0, 0) W (rx_leaf W _ 3 (range 98 98) (by omega))
      clear hdep hd hd2 hd5
      intro K hK
      simp only [Act.put, List.setIfInBounds_toArray, List.set_cons_zero, List.set_cons_succ]
      go_simp
      refine hcl.mono ?_
      rintro _ W1 ⟨qs1, rfl, hx1, hb1⟩
      have HB1 : Hid (Below W.heap.size W W1) := hb1
      have HNX : Hid (Rx W1 W1.heap.size (v6 qs1) (.mk 6 Cls.empty [(.mk 3 (range 98 98) [])])) := hx1
      clear hb1 hcl hx1
      go_simp
      refine hK.out _ _ ⟨qs1, qt, x15, x16, (.bool false), x18, x19, (.agg #[.int .i64 3, .int .u64 ((range 98 98).1.toNat : Int), .int .u64 ((range 98 98).2.1.toNat : Int), .int .u64 ((range 98 98).2.2.1.toNat : Int), .int .u64 ((range 98 98).2.2.2.toNat : Int), .slice none 0 0]), (.agg #[.int .i64 qs1.1, .int .u64 (qs1.2.1.1.toNat : Int), .int .u64 (qs1.2.1.2.1.toNat : Int), .int .u64 (qs1.2.1.2.2.1.toNat : Int), .int .u64 (qs1.2.1.2.2.2.toNat : Int), .slice qs1.2.2.1 qs1.2.2.2.1 qs1.2.2.2.2]), x22, x23, x24, x25, by simp only [Act.put, List.setIfInBounds_toArray, List.set_cons_zero, List.set_cons_succ], ?_⟩
      exact ⟨fun h => hF.out.f0 (by simpa using h), fun h => hF.out.f1 (by simpa using h), fun h => hF.out.f2 (by simpa using h), fun h => hF.out.f3 (by simpa using h), fun h => hF.out.f4 (by simpa using h), fun h => hF.out.f5 (by simpa using h), fun _ => rfl, fun h => hF.out.f7 (by simpa using h), fun h => hF.out.f8 (by simpa using h), fun h => hF.out.f9 (by simpa using h), fun h => hF.out.f10 (by simpa using h), HKP.out.trans (HB1.out.mono HKP.out.size), fun _ => HNX.out, fun h => have z := hF.out.s7 (by simpa using h); (z.next HB1.out).wide HB1.out.size⟩
    · intro d a W hI hd hdep
      obtain ⟨qs, qt, x15, x16, x17, x18, x19, x20, x21, x22, x23, x24, x25, rfl, hF⟩ := hI
      have hd2 : d 2 = true := dep_of hdep 2 (by kernel_rfl)
      have hd4 : d 4 = true := dep_of hdep 4 (by kernel_rfl)
      have hd6 : d 6 = true := dep_of hdep 6 (by kernel_rfl)
      obtain rfl := hF.out.f2 hd2
      obtain rfl := hF.out.f4 hd4
      obtain rfl := hF.out.f6 hd6
      have HKP : Hid (Below w3.heap.size w3 W) := hF.out.kp
      have hcl := two_any 5 (by omega) (.mk 3 (range 97 97) []) (.mk 6 Cls.empty [(.mk 3 (range 98 98) [])]) (3, range 97 97, none, 0, 0) qs W (rx_leaf W _ 3 (range 97 97) (by omega)) (hF.out.s6 hd6)
      clear hdep hd hd2 hd4 hd6
      intro K hK
      simp only [Act.put, List.setIfInBounds_toArray, List.set_cons_zero, List.set_cons_succ]
      go_simp
      refine hcl.mono ?_
      rintro _ W1 ⟨qt1, rfl, hx1, hb1⟩
      have HB1 : Hid (Below W.heap.size W W1) := hb1
      have HNX : Hid (Rx W1 W1.heap.size (v6 qt1) (.mk 5 Cls.empty [(.mk 3 (range 97 97) []), (.mk 6 Cls.empty [(.mk 3 (range 98 98) [])])])) := hx1
      clear hb1 hcl hx1
      go_simp
      refine hK.out _ _ ⟨qs, qt1, x15, x16, (.bool false), x18, (.agg #[.int .i64 3, .int .u64 ((range 97 97).1.toNat : Int), .int .u64 ((range 97 97).2.1.toNat : Int), .int .u64 ((range 97 97).2.2.1.toNat : Int), .int .u64 ((range 97 97).2.2.2.toNat : Int), .slice none 0 0]), x20, (.agg #[.int .i64 qs.1, .int .u64 (qs.2.1.1.toNat : Int), .int .u64 (qs.2.1.2.1.toNat : Int), .int .u64 (qs.2.1.2.2.1.toNat : Int), .int .u64 (qs.2.1.2.2.2.toNat : Int), .slice qs.2.2.1 qs.2.2.2.1 qs.2.2.2.2]), (.agg #[.int .i64 qt1.1, .int .u64 (qt1.2.1.1.toNat : Int), .int .u64 (qt1.2.1.2.1.toNat : Int), .int .u64 (qt1.2.1.2.2.1.toNat : Int), .int .u64 (qt1.2.1.2.2.2.toNat : Int), .slice qt1.2.2.1 qt1.2.2.2.1 qt1.2.2.2.2]), x23, x24, x25, by simp only [Act.put, List.setIfInBounds_toArray, List.set_cons_zero, List.set_cons_succ], ?_⟩
      exact ⟨fun h => hF.out.f0 (by simpa using h), fun h => hF.out.f1 (by simpa using h), fun h => hF.out.f2 (by simpa using h), fun h => hF.out.f3 (by simpa using h), fun h => hF.out.f4 (by simpa using h), fun h => hF.out.f5 (by simpa using h), fun h => hF.out.f6 (by simpa using h), fun _ => rfl, fun h => hF.out.f8 (by simpa using h), fun h => hF.out.f9 (by simpa using h), fun h => hF.out.f10 (by simpa using h), HKP.out.trans (HB1.out.mono HKP.out.size), fun h => have z := hF.out.s6 (by simpa using h); (z.next HB1.out).wide HB1.out.size, fun _ => HNX.out⟩
    · intro d a W hI hd hdep
      obtain ⟨qs, qt, x15, x16, x17, x18, x19, x20, x21, x22, x23, x24, x25, rfl, hF⟩ := hI
      have hd2 : d 2 = true := dep_of hdep 2 (by kernel_rfl)
      have hd3 : d 3 = true := dep_of hdep 3 (by kernel_rfl)
      have hd7 : d 7 = true := dep_of hdep 7 (by kernel_rfl)
      obtain rfl := hF.out.f2 hd2
      obtain rfl := hF.out.f3 hd3
      obtain rfl := hF.out.f7 hd7
      have HKP : Hid (Below w3.heap.size w3 W) := hF.out.kp
      have hcl := sameRex_true (.mk 5 Cls.empty [(.mk 3 (range 97 97) []), (.mk 6 Cls.empty [(.mk 3 (range 98 98) [])])]) (v6 q0) (v6 qt) W ((HX0.out.next hF.out.kp).wide hF.out.kp.size) (hF.out.s7 hd7)
      clear hdep hd hd2 hd3 hd7
      intro K hK
      simp only [Act.put, List.setIfInBounds_toArray, List.set_cons_zero, List.set_cons_succ]
      go_simp
      refine hcl.mono ?_
      rintro _ W1 ⟨rfl, hb1⟩
      have HB1 : Hid (Below W.heap.size W W1) := hb1
      clear hb1 hcl
      go_simp
      refine hK.out _ _ ⟨qs, qt, x15, x16, (.bool false), (.agg #[.int .i64 q0.1, .int .u64 (q0.2.1.1.toNat : Int), .int .u64 (q0.2.1.2.1.toNat : Int), .int .u64 (q0.2.1.2.2.1.toNat : Int), .int .u64 (q0.2.1.2.2.2.toNat : Int), .slice q0.2.2.1 q0.2.2.2.1 q0.2.2.2.2]), x19, x20, x21, (.agg #[.int .i64 qt.1, .int .u64 (qt.2.1.1.toNat : Int), .int .u64 (qt.2.1.2.1.toNat : Int), .int .u64 (qt.2.1.2.2.1.toNat : Int), .int .u64 (qt.2.1.2.2.2.toNat : Int), .slice qt.2.2.1 qt.2.2.2.1 qt.2.2.2.2]), (.bool true), x24, x25, by simp only [Act.put, List.setIfInBounds_toArray, List.set_cons_zero, List.set_cons_succ], ?_⟩
      exact ⟨fun h => hF.out.f0 (by simpa using h), fun h => hF.out.f1 (by simpa using h), fun h => hF.out.f2 (by simpa using h), fun h => hF.out.f3 (by simpa using h), fun h => hF.out.f4 (by simpa using h), fun h => hF.out.f5 (by simpa using h), fun h => hF.out.f6 (by simpa using h), fun h => hF.out.f7 (by simpa using h), fun _ => rfl, fun h => hF.out.f9 (by simpa using h), fun h => hF.out.f10 (by simpa using h), HKP.out.trans (HB1.out.mono HKP.out.size), fun h => have z := hF.out.s6 (by simpa using h); (z.next HB1.out).wide HB1.out.size, fun h => have z := hF.out.s7 (by simpa using h); (z.next HB1.out).wide HB1.out.size⟩
    · intro d a W hI hd hdep
      obtain ⟨qs, qt, x15, x16, x17, x18, x19, x20, x21, x22, x23, x24, x25, rfl, hF⟩ := hI
      have hd2 : d 2 = true := dep_of hdep 2 (by kernel_rfl)
      have hd8 : d 8 = true := dep_of hdep 8 (by kernel_rfl)
      obtain rfl := hF.out.f2 hd2
      obtain rfl := hF.out.f8 hd8
      clear hdep hd hd2 hd8
      intro K hK
      simp only [Act.put, List.setIfInBounds_toArray, List.set_cons_zero, List.set_cons_succ]
      go_simp
      refine hK.out _ _ ⟨qs, qt, x15, x16, (.bool false), x18, x19, x20, x21, x22, (.bool true), (.bool false), x25, by simp only [Act.put, List.setIfInBounds_toArray, List.set_cons_zero, List.set_cons_succ], ?_⟩
      exact ⟨fun h => hF.out.f0 (by simpa using h), fun h => hF.out.f1 (by simpa using h), fun h => hF.out.f2 (by simpa using h), fun h => hF.out.f3 (by simpa using h), fun h => hF.out.f4 (by simpa using h), fun h => hF.out.f5 (by simpa using h), fun h => hF.out.f6 (by simpa using h), fun h => hF.out.f7 (by simpa using h), fun h => hF.out.f8 (by simpa using h), fun _ => rfl, fun h => hF.out.f10 (by simpa using h), hF.out.kp, fun h => hF.out.s6 (by simpa using h), fun h => hF.out.s7 (by simpa using h)⟩
    · intro d a W hI hd hdep
      obtain ⟨qs, qt, x15, x16, x17, x18, x19, x20, x21, x22, x23, x24, x25, rfl, hF⟩ := hI
      have hd2 : d 2 = true := dep_of hdep 2 (by kernel_rfl)
      have hd9 : d 9 = true := dep_of hdep 9 (by kernel_rfl)
      obtain rfl := hF.out.f2 hd2
      obtain rfl := hF.out.f9 hd9
      clear hdep hd hd2 hd9
      intro K hK
      simp only [Act.put, List.setIfInBounds_toArray, List.set_cons_zero, List.set_cons_succ]
      go_simp
      refine hK.out _ _ ⟨qs, qt, x15, x16, (.bool false), x18, x19, x20, x21, x22, x23, (.bool false), (.bool false), by simp only [Act.put, List.setIfInBounds_toArray, List.set_cons_zero, List.set_cons_succ], ?_⟩
      exact ⟨fun h => hF.out.f0 (by simpa using h), fun h => hF.out.f1 (by simpa using h), fun h => hF.out.f2 (by simpa using h), fun h => hF.out.f3 (by simpa using h), fun h => hF.out.f4 (by simpa using h), fun h => hF.out.f5 (by simpa using h), fun h => hF.out.f6 (by simpa using h), fun h => hF.out.f7 (by simpa using h), fun h => hF.out.f8 (by simpa using h), fun h => hF.out.f9 (by simpa using h), fun _ => rfl, hF.out.kp, fun h => hF.out.s6 (by simpa using h), fun h => hF.out.s7 (by simpa using h)⟩
  · intro d a W hI hall
    obtain ⟨qs, qt, x15, x16, x17, x18, x19, x20, x21, x22, x23, x24, x25, rfl, hF⟩ := hI
    simp only [List.length_cons, List.length_nil] at hall
    obtain rfl := hF.out.f0 (hall 0 (by omega))
    obtain rfl := hF.out.f1 (hall 1 (by omega))
    obtain rfl := hF.out.f2 (hall 2 (by omega))
    obtain rfl := hF.out.f3 (hall 3 (by omega))
    obtain rfl := hF.out.f4 (hall 4 (by omega))
    obtain rfl := hF.out.f5 (hall 5 (by omega))
    obtain rfl := hF.out.f6 (hall 6 (by omega))
    obtain rfl := hF.out.f7 (hall 7 (by omega))
    obtain rfl := hF.out.f8 (hall 8 (by omega))
    obtain rfl := hF.out.f9 (hall 9 (by omega))
    obtain rfl := hF.out.f10 (hall 10 (by omega))
    have HBW : Hid (Below w.heap.size w W) := HB3.out.trans (hF.out.kp.mono HB3.out.size)
    have HKW : Hid (Below w3.heap.size w3 W) := hF.out.kp
    clear hF hall HX0 HROW HB3
    simp only [Act.put, List.setIfInBounds_toArray, List.set_cons_zero, List.set_cons_succ]
    have hrb := HBX3.out W HKW.out
    clear HKW
    have y0 := hrb.2.cell (i := 0) (by omega)
    have y1 := hrb.2.cell (i := 1) (by omega)
    have y2 := hrb.2.cell (i := 2) (by omega)
    have y3 := hrb.2.cell (i := 3) (by omega)
    have y4 := hrb.2.cell (i := 4) (by omega)
    have y5 := hrb.2.cell (i := 5) (by omega)
    simp only [] at y0 y1 y2 y3 y4 y5
    have HBR : Hid (Rx W W.heap.size (v6 q) t ∧ W.rowIs w.heap.size 27 6 (fun i => match i with | 0 => .int .i64 q.1 | 1 => .int .u64 (q.2.1.1.toNat : Int) | 2 => .int .u64 (q.2.1.2.1.toNat : Int) | 3 => .int .u64 (q.2.1.2.2.1.toNat : Int) | 4 => .int .u64 (q.2.1.2.2.2.toNat : Int) | _ => .slice q.2.2.1 q.2.2.2.1 q.2.2.2.2)) := hrb
    clear hrb
    go_wp2_with fail
    refine (HP.out W HBR.out.1).mono ?_
    rintro _ w5 ⟨rfl, hb5⟩
    have HB5 : Hid (Below w.heap.size w w5) := HBW.out.trans (hb5.mono HBW.out.size)
    have HX5 : Hid (Rx w5 w5.heap.size (v6 q) t ∧ w5.rowIs w.heap.size 27 6 (fun i => match i with | 0 => .int .i64 q.1 | 1 => .int .u64 (q.2.1.1.toNat : Int) | 2 => .int .u64 (q.2.1.2.1.toNat : Int) | 3 => .int .u64 (q.2.1.2.2.1.toNat : Int) | 4 => .int .u64 (q.2.1.2.2.2.toNat : Int) | _ => .slice q.2.2.1 q.2.2.2.1 q.2.2.2.2)) := ⟨(HBR.out.1.next hb5).wide hb5.size, HBR.out.2.of_block (hb5.block _ HBR.out.2.lt)⟩
    clear hb5 HBW HBR y0 y1 y2 y3 y4 y5
    by_cases h0 : er = 0
    · subst h0
      have HLX : Hid (∃ x, Is t x ∧ text x = L ∧ x.deep ≤ 30 ∧ t.sz ≤ 200) := by
        obtain ⟨x, hi, hn, hd⟩ := err_all HER.out
        exact ⟨x, hi, HL.out.1 HER.out x hi, hd, by rw [is_sz hi]; omega⟩
      have hLs := str_of L
      go_wp2_with fail
      by_cases h3 : 300 < L.length
      · have b1 : decide ((300 : Int) < (L.length : Int)) = true := by simp; omega
        refine (Parse_large (S L) (by rw [hLs]; exact h3) w5).mono ?_
        rintro _ w8 ⟨rfl, hb8⟩
        have HB8 : Hid (Below w.heap.size w (w8.alloc (Obj.cells #[.int .i64 0, .int .u64 0, .int .u64 0, .int .u64 0, .int .u64 0, .slice none 0 0] 27))) := (HB5.out.trans (hb8.mono HB5.out.size)).trans ((bal w8 _).mono (HB5.out.trans (hb8.mono HB5.out.size)).size)
        clear hb8 hLs
        go_wp2_with fail
        go_ret
        exact ⟨by simp, HB8.out⟩
      · have b1 : decide ((300 : Int) < (L.length : Int)) = false := by simp; omega
        obtain ⟨x, hi, htx, hdx, hsx⟩ := HLX.out
        have hb : altN (S L) 30 0 = (t, (S L).size, 0) := by rw [is_toT hi]; exact read_back (S L) x (is_good hi) hdx htx.symm
        have hpo := Parse_ok (S L) (by rw [hLs]; omega) t ⟨by rw [hb], by rw [hb], by rw [hb]; simp⟩ HER.out hsx w5
        clear hb hi htx hdx hsx HLX hLs
        refine hpo.mono ?_
        rintro _ w8 ⟨q2, rfl, hx8, hb8⟩
        have hba := bal w8 (Obj.cells #[.int .i64 q2.1, .int .u64 (q2.2.1.1.toNat : Int), .int .u64 (q2.2.1.2.1.toNat : Int), .int .u64 (q2.2.1.2.2.1.toNat : Int), .int .u64 (q2.2.1.2.2.2.toNat : Int), .slice q2.2.2.1 q2.2.2.2.1 q2.2.2.2.2] 27)
        have hrw := row_of6 w8 (.int .i64 q2.1) (.int .u64 (q2.2.1.1.toNat : Int)) (.int .u64 (q2.2.1.2.1.toNat : Int)) (.int .u64 (q2.2.1.2.2.1.toNat : Int)) (.int .u64 (q2.2.1.2.2.2.toNat : Int)) (.slice q2.2.2.1 q2.2.2.2.1 q2.2.2.2.2)
        obtain ⟨w9, HW9⟩ : ∃ w9, Hid (w8.alloc (Obj.cells #[.int .i64 q2.1, .int .u64 (q2.2.1.1.toNat : Int), .int .u64 (q2.2.1.2.1.toNat : Int), .int .u64 (q2.2.1.2.2.1.toNat : Int), .int .u64 (q2.2.1.2.2.2.toNat : Int), .slice q2.2.2.1 q2.2.2.2.1 q2.2.2.2.2] 27) = w9) := ⟨_, (rfl : _ = _)⟩
        rw [HW9.out] at hba hrw
        have hb59 : Below w5.heap.size w5 w9 := hb8.trans (hba.mono hb8.size)
        have g1 := HX5.out.2.of_block (hb59.block _ HX5.out.2.lt)
        have HX9 : Hid (Rx w9 w9.heap.size (v6 q2) t ∧ Rx w9 w9.heap.size (v6 q) t) := ⟨(hx8.next hba).wide hba.size, (HX5.out.1.next hb59).wide hb59.size⟩
        have HB9 : Hid (Below w.heap.size w w9) := HB5.out.trans (hb59.mono HB5.out.size)
        have y0 := g1.cell (i := 0) (by omega)
        have y1 := g1.cell (i := 1) (by omega)
        have y2 := g1.cell (i := 2) (by omega)
        have y3 := g1.cell (i := 3) (by omega)
        have y4 := g1.cell (i := 4) (by omega)
        have y5 := g1.cell (i := 5) (by omega)
        have x0 := hrw.cell (i := 0) (by omega)
        have x1 := hrw.cell (i := 1) (by omega)
        have x2 := hrw.cell (i := 2) (by omega)
        have x3 := hrw.cell (i := 3) (by omega)
        have x4 := hrw.cell (i := 4) (by omega)
        have x5 := hrw.cell (i := 5) (by omega)
        simp only [] at y0 y1 y2 y3 y4 y5 x0 x1 x2 x3 x4 x5
        rw [← HW9.out] at y0 y1 y2 y3 y4 y5 x0 x1 x2 x3 x4 x5
        clear hx8 hb8 hba hrw hb59 g1 HX5 HB5 hpo
        go_wp2_with fail
        rw [HW9.out]
        refine (sameRex_true t (v6 q2) (v6 q) w9 HX9.out.1 HX9.out.2).mono ?_
        rintro _ w11 ⟨rfl, hb11⟩
        have HB11 : Hid (Below w.heap.size w w11) := HB9.out.trans (hb11.mono HB9.out.size)
        clear hb11 y0 y1 y2 y3 y4 y5 x0 x1 x2 x3 x4 x5
        go_wp2_with fail
        go_ret
        exact ⟨by simp, HB11.out⟩
    · have b4 : ((er : Int) != 0) = true := bne_iff_ne.2 (by omega)
      have hln : L = [] := HL.out.2 (by rw [HER.out]; exact h0)
      subst hln
      have hc := Check_any t (v6 q) w5.heap.size w5 HX5.out.1 (Nat.le_refl _)
      rw [HER.out] at hc
      have g1 := HX5.out.2
      have y0 := g1.cell (i := 0) (by omega)
      have y1 := g1.cell (i := 1) (by omega)
      have y2 := g1.cell (i := 2) (by omega)
      have y3 := g1.cell (i := 3) (by omega)
      have y4 := g1.cell (i := 4) (by omega)
      have y5 := g1.cell (i := 5) (by omega)
      simp only [] at y0 y1 y2 y3 y4 y5
      clear g1 h0
      go_wp2_with fail
      refine hc.mono ?_
      rintro _ w8 ⟨rfl, hb8⟩
      have HB8 : Hid (Below w.heap.size w w8) := HB5.out.trans (hb8.mono HB5.out.size)
      clear hb8 hc y0 y1 y2 y3 y4 y5
      go_wp2_with fail
      go_ret
      exact ⟨by simp, HB8.out⟩

/-! ### What the walk gives, for every argument -/
set_option maxRecDepth 100000 in
theorem contract (H : Type) (enc : TypeId × Value → H) (W : World) (base : Nat) (args : Array Value) (ds gs : List (DataW H)) (before : List MemPlace)
    (hval : ∀ (j : Nat) t v, Try.f5.params[j]? = some t → args[j]? = some v → Value.okWide Try.prog W .any base t v)
    (hW : DataW.Whole enc Try.prog Try.f5.params.toList Rows.rexBackSpec.vars false W args.toList ds gs before) (hsz : (DataW.weightsEach Try.prog (Try.f5.params.toList ++ Rows.rexBackSpec.plain.varTypes Try.prog) (ds ++ gs)).all (· ≤ reachBytes) = true) :
    Calls Try.prog 5 args W fun e W' => ∃ v, e = .returned v ∧ Rows.rexBackSpec.post enc Try.prog Try.f5 false true false false W args v W' := by
  have hW' := hW
  obtain ⟨p, q, hA0, hV, rfl, hfz, hnd⟩ := hW
  have hA : DataW.TrodAll enc Try.prog W 0 (fun _ => true) true Try.f5.params.toList args.toList ds p := hA0
  rw [Try.params5] at hA hval hsz
  obtain ⟨v0, vs0, d0, ds0, p0, q0, hargs, rfl, rfl, h0, r0⟩ := trodAll_cons hA
  obtain ⟨rfl, rfl, rfl⟩ := trodAll_nil r0
  obtain rfl : args = #[v0] := by cases args; simp_all
  obtain ⟨rfl, rfl⟩ := trodVars_none hV
  have k0 := h0
  have lt0 : ∀ x ∈ p0, x.block < W.heap.size := by obtain ⟨m, hm⟩ := k0; exact DataW.trod_lt m _ _ _ hm
  obtain ⟨a0t, w0s⟩ := open_rex (hval 0 27 v0 rfl rfl) h0
  clear hA0
  refine (walk _ a0t W w0s).mono fun e W' ⟨he, bel⟩ => ?_
  subst he
  exact ⟨_, rfl, _, _, _, [], _, [], hW', trodAll_mk1 (shut_bool Try.underlying4 _), (trodAll_cons_mk (Below.trod laidOut (by kernel_rfl) (of_decide_eq_true (by kernel_rfl)) k0 bel lt0) trodAll_mk0), rfl, bel.frame _, fun h => by cases h⟩

/-! ### The row's step -/
set_option maxRecDepth 100000 in
theorem lifted (os : Os) (started : os.Started) (H : Type) (enc : TypeId × Value → H) :
    ReturnsInHanded {} Try.checked os 5 .any (Rows.rexBackSpec.pre6 enc Try.prog Try.f5 Rows.rexBackRow.domain false) (Rows.rexBackSpec.post enc Try.prog Try.f5 false true false false) := by
  refine returnsInHanded_of_change_sized (C := Try.checked) own started (by kernel_rfl) Try.func5
    (ChangeSpec.witness6 (enc := enc) (C := Try.checked) false ⟨#[], #[.agg #[.int .i64 0, .int .u64 0, .int .u64 0, .int .u64 0, .int .u64 0, .slice none 0 0]], []⟩ 8 (by kernel_rfl) (by kernel_rfl) (by kernel_rfl) (by kernel_rfl)) ?_
  intro W base args ds gs before hval hW hcnd hsz _
  exact contract H enc W base args ds gs before hval hW hsz

theorem over : Rows.rexBackRow.holds Try.pinned (OpenSpec.ofChange Rows.rexBackSpec) :=
  OpenClaim.holds_of_wide 5 Try.f5 rfl rfl rfl rfl rfl rfl rfl ⟨rfl, rfl, rfl, rfl, rfl⟩ rfl rfl rfl rfl rfl (by kernel_rfl) Try.func5 (by kernel_rfl)
    (of_decide_eq_true (by kernel_rfl)) (by unfold Func.isWrapper; first | (rw [if_pos (by decide +kernel)]; kernel_rfl) | (rw [if_neg (by decide +kernel)]; exact ⟨rfl, rfl⟩))
    (fun os started H enc _ => lifted os started H enc)

end Go.Proofs.Ythloedfiomfnbaa.rexBack
namespace Go.Proofs.Ythloedfiomfnbaa
/-- The given statement. -/
theorem rexBack_holds : Rows.RexBackSaid := rexBack.over
#print axioms rexBack_holds
end Go.Proofs.Ythloedfiomfnbaa
