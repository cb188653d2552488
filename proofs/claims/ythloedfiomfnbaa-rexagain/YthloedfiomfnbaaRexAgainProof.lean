/-
  RexAgain returns true whatever text is handed in; no condition.
-/
import Derived.Test.YthloedfiomfnbaaRows
import Derived.WalkKit
import Derived.ProofKit
import Derived.OpenShut
import Derived.ShutString
import Derived.SizedLaws
import Derived.ChangeOld
import Derived.Below
import Derived.Carry
import Derived.WalkLawsBesides
import Derived.WalkSpells
import Derived.Test.YthloedfiomfnbaaOpens
import Derived.Test.YthloedfiomfnbaaRxKeep
namespace Go.Proofs.Ythloedfiomfnbaa.rexAgain
open Go.ChangeShapes Go.WideShapes Go.ChangeAt Go.RowKit
open Go.ChangeMaps (open_string shut_string)
open Cls
open Rex
open Txt
set_option linter.unusedVariables false

theorem own : ownKnob Try.prog.godebug = none := by kernel_rfl
theorem laidOut : laidOutB Try.prog = true := by kernel_rfl

theorem str_of (L : List UInt8) : (S L).size = L.length := by simp [ByteArray.size]

/-! ### The walk: the Go text returns true. -/
set_option maxHeartbeats 8000000 in
set_option maxRecDepth 20000 in
theorem walk (a0 : ByteArray) (w : World) (w0 : a0.size ≤ 140737488351232) :
    Calls Try.prog 6 #[.string a0] w fun e w' => e = .returned (.bool true) ∧ Below w.heap.size w w' := by
  have HS0 : Hid (a0.size ≤ 140737488351232) := w0
  clear w0
  go_enter Try.func6, Try.ntmps6
  go_wp2_with fail
  refine (letter_any 97 (by omega) (by omega) w).mono ?_
  rintro _ w1 ⟨rfl, hb1⟩
  have HB1 : Hid (Below w.heap.size w w1) := hb1
  clear hb1
  go_wp2_with fail
  refine (letter_any 10 (by omega) (by omega) w1).mono ?_
  rintro _ w2 ⟨rfl, hb2⟩
  have HB2 : Hid (Below w.heap.size w w2) := HB1.out.trans (hb2.mono HB1.out.size)
  clear hb2 HB1
  go_wp2_with fail
  refine (two_any 4 (by omega) _ _ (3, range 97 97, none, 0, 0) (3, range 10 10, none, 0, 0) w2 (rx_leaf w2 _ 3 (range 97 97) (by omega)) (rx_leaf w2 _ 3 (range 10 10) (by omega))).mono ?_
  rintro _ w3 ⟨q, rfl, hx3, hb3⟩
  have HB3 : Hid (Below w.heap.size w w3) := HB2.out.trans (hb3.mono HB2.out.size)
  have hp3 := print_any (.mk 4 Cls.empty [.mk 3 (range 97 97) [], .mk 3 (range 10 10) []]) (v6 q) w3.heap.size w3 hx3 (Nat.le_refl _) [97, 92, 110] (fun _ x hx => by
    have : x = .cat (.byte (range 97 97)) (.byte (range 10 10)) := is_same2 hx (Is.cat (Is.byte ne1) (Is.byte ne3))
    rw [this]; exact tx2) (fun h => absurd er2 h)
  rw [er2] at hp3
  clear hx3 hb3 HB2
  go_wp2_with fail
  refine hp3.mono ?_
  rintro _ w4 ⟨rfl, hb4⟩
  have HB4 : Hid (Below w.heap.size w w4) := HB3.out.trans (hb4.mono HB3.out.size)
  clear hb4 hp3 HB3
  have hs1 : (([97, 92, 110] : List UInt8) != [97, 92, 110]) = false := by decide
  go_wp2_with fail
  clear hs1
  by_cases h300 : 300 < a0.size
  · refine (Parse_large a0 h300 w4).mono ?_
    rintro _ w5 ⟨rfl, hb5⟩
    have HB5 : Hid (Below w.heap.size w w5) := HB4.out.trans (hb5.mono HB4.out.size)
    clear hb5 HB4
    have hrz := row_zero6 w5
    have y0 := hrz.cell (i := 0) (by omega)
    simp only [] at y0
    have HB6 : Hid (Below w.heap.size w (w5.alloc (Obj.cells #[.int .i64 0, .int .u64 0, .int .u64 0, .int .u64 0, .int .u64 0, .slice none 0 0] 27))) := HB5.out.trans ((bal w5 _).mono HB5.out.size)
    clear hrz
    go_wp2_with fail
    go_ret
    exact ⟨by simp, HB6.out⟩
  · by_cases hpe : pe a0 = 0
    · have hal : (altN a0 30 0).2.2 = 0 ∧ ¬ (altN a0 30 0).2.1 < a0.size ∧ err (altN a0 30 0).1 = 0 := by
        unfold pe at hpe
        by_cases h1 : (altN a0 30 0).2.2 = 0
        · rw [if_pos h1] at hpe
          by_cases h2 : (altN a0 30 0).2.1 < a0.size
          · rw [if_pos h2] at hpe; omega
          · rw [if_neg h2] at hpe; exact ⟨h1, h2, hpe⟩
        · rw [if_neg h1] at hpe; exact absurd hpe h1
      obtain ⟨t, HT⟩ : ∃ t, Hid ((altN a0 30 0).1 = t) := ⟨_, (rfl : (altN a0 30 0).1 = (altN a0 30 0).1)⟩
      rw [HT.out] at hal
      obtain ⟨x, hIs, hnod, hdeep⟩ := err_all hal.2.2
      have hsz : t.sz ≤ 200 := by rw [is_sz hIs]; omega
      have HEZ : Hid (err t = 0) := hal.2.2
      have hpo := Parse_ok a0 (by omega) t ⟨HT.out, hal.1, hal.2.1⟩ HEZ.out hsz w4
      have HBK : Hid (∀ s : ByteArray, s.data.toList = text x → altN s 30 0 = (t, s.size, 0)) := fun s hs => by rw [is_toT hIs]; exact read_back s x (is_good hIs) hdeep hs
      have HTX : Hid (∀ y, Is t y → text y = text x) := fun y hy => by rw [is_same2 hy hIs]
      have HSZ : Hid (t.sz ≤ 200) := hsz
      obtain ⟨L, HL⟩ : ∃ L, Hid (text x = L) := ⟨_, (rfl : text x = text x)⟩
      rw [HL.out] at HBK HTX
      clear hpe hal hIs hnod hdeep hsz HT HL h300
      refine hpo.mono ?_
      rintro _ w5 ⟨q1, rfl, hx5, hb5⟩
      have hba := bal w5 (Obj.cells #[.int .i64 q1.1, .int .u64 (q1.2.1.1.toNat : Int), .int .u64 (q1.2.1.2.1.toNat : Int), .int .u64 (q1.2.1.2.2.1.toNat : Int), .int .u64 (q1.2.1.2.2.2.toNat : Int), .slice q1.2.2.1 q1.2.2.2.1 q1.2.2.2.2] 27)
      have hrw := row_of6 w5 (.int .i64 q1.1) (.int .u64 (q1.2.1.1.toNat : Int)) (.int .u64 (q1.2.1.2.1.toNat : Int)) (.int .u64 (q1.2.1.2.2.1.toNat : Int)) (.int .u64 (q1.2.1.2.2.2.toNat : Int)) (.slice q1.2.2.1 q1.2.2.2.1 q1.2.2.2.2)
      obtain ⟨w6, HW6⟩ : ∃ w6, Hid (w5.alloc (Obj.cells #[.int .i64 q1.1, .int .u64 (q1.2.1.1.toNat : Int), .int .u64 (q1.2.1.2.1.toNat : Int), .int .u64 (q1.2.1.2.2.1.toNat : Int), .int .u64 (q1.2.1.2.2.2.toNat : Int), .slice q1.2.2.1 q1.2.2.2.1 q1.2.2.2.2] 27) = w6) := ⟨_, (rfl : _ = _)⟩
      rw [HW6.out] at hba hrw
      obtain ⟨r1, HR1⟩ : ∃ r1, Hid (w5.heap.size = r1) := ⟨_, (rfl : w5.heap.size = w5.heap.size)⟩
      rw [HR1.out] at hrw
      have HX6 : Hid (Rx w6 w6.heap.size (v6 q1) t ∧ w6.rowIs r1 27 6 (fun i => match i with | 0 => .int .i64 q1.1 | 1 => .int .u64 (q1.2.1.1.toNat : Int) | 2 => .int .u64 (q1.2.1.2.1.toNat : Int) | 3 => .int .u64 (q1.2.1.2.2.1.toNat : Int) | 4 => .int .u64 (q1.2.1.2.2.2.toNat : Int) | _ => .slice q1.2.2.1 q1.2.2.2.1 q1.2.2.2.2)) := ⟨(hx5.next hba).wide hba.size, hrw⟩
      have HB6 : Hid (Below w.heap.size w w6) := (HB4.out.trans (hb5.mono HB4.out.size)).trans (hba.mono (HB4.out.trans (hb5.mono HB4.out.size)).size)
      have y0 := hrw.cell (i := 0) (by omega)
      have y1 := hrw.cell (i := 1) (by omega)
      have y2 := hrw.cell (i := 2) (by omega)
      have y3 := hrw.cell (i := 3) (by omega)
      have y4 := hrw.cell (i := 4) (by omega)
      have y5 := hrw.cell (i := 5) (by omega)
      simp only [] at y0 y1 y2 y3 y4 y5
      rw [← HW6.out, ← HR1.out] at y0 y1 y2 y3 y4 y5
      clear hpo hx5 hb5 hba hrw HB4
      have HP : Hid (∀ (v : Value) (W : World), Rx W W.heap.size v t → Calls Try.prog 9 #[v] W fun e w' => e = .returned (.tuple #[.string (S L), .int .i64 0]) ∧ Below W.heap.size W w') := fun v W h => by
        have := print_any t v W.heap.size W h (Nat.le_refl _) L (fun _ y hy => HTX.out y hy) (fun hh => absurd HEZ.out hh)
        rw [HEZ.out] at this; exact this
      go_wp2_with fail
      rw [HW6.out, HR1.out]
      clear y0 y1 y2 y3 y4 y5 HW6 HR1
      refine (HP.out (v6 q1) w6 HX6.out.1).mono ?_
      rintro _ w7 ⟨rfl, hb7⟩
      have HX7 : Hid (Rx w7 w7.heap.size (v6 q1) t ∧ w7.rowIs r1 27 6 (fun i => match i with | 0 => .int .i64 q1.1 | 1 => .int .u64 (q1.2.1.1.toNat : Int) | 2 => .int .u64 (q1.2.1.2.1.toNat : Int) | 3 => .int .u64 (q1.2.1.2.2.1.toNat : Int) | 4 => .int .u64 (q1.2.1.2.2.2.toNat : Int) | _ => .slice q1.2.2.1 q1.2.2.2.1 q1.2.2.2.2)) := ⟨(HX6.out.1.next hb7).wide hb7.size, HX6.out.2.of_block (hb7.block _ HX6.out.2.lt)⟩
      have HB7 : Hid (Below w.heap.size w w7) := HB6.out.trans (hb7.mono HB6.out.size)
      clear hb7 HX6 HB6
      go_wp2_with fail
      have hLs := str_of L
      by_cases h3 : 300 < L.length
      · have b1 : decide ((300 : Int) < (L.length : Int)) = true := by simp; omega
        refine (Parse_large (S L) (by rw [hLs]; exact h3) w7).mono ?_
        rintro _ w8 ⟨rfl, hb8⟩
        have HB8 : Hid (Below w.heap.size w (w8.alloc (Obj.cells #[.int .i64 0, .int .u64 0, .int .u64 0, .int .u64 0, .int .u64 0, .slice none 0 0] 27))) := (HB7.out.trans (hb8.mono HB7.out.size)).trans ((bal w8 _).mono (HB7.out.trans (hb8.mono HB7.out.size)).size)
        clear hb8 hLs
        go_wp2_with fail
        go_ret
        exact ⟨by simp, HB8.out⟩
      · have b1 : decide ((300 : Int) < (L.length : Int)) = false := by simp; omega
        have hb := HBK.out (S L) rfl
        refine (Parse_ok (S L) (by rw [hLs]; omega) t ⟨by rw [hb], by rw [hb], by rw [hb]; simp⟩ HEZ.out HSZ.out w7).mono ?_
        rintro _ w8 ⟨q2, rfl, hx8, hb8⟩
        have hba := bal w8 (Obj.cells #[.int .i64 q2.1, .int .u64 (q2.2.1.1.toNat : Int), .int .u64 (q2.2.1.2.1.toNat : Int), .int .u64 (q2.2.1.2.2.1.toNat : Int), .int .u64 (q2.2.1.2.2.2.toNat : Int), .slice q2.2.2.1 q2.2.2.2.1 q2.2.2.2.2] 27)
        have hrw := row_of6 w8 (.int .i64 q2.1) (.int .u64 (q2.2.1.1.toNat : Int)) (.int .u64 (q2.2.1.2.1.toNat : Int)) (.int .u64 (q2.2.1.2.2.1.toNat : Int)) (.int .u64 (q2.2.1.2.2.2.toNat : Int)) (.slice q2.2.2.1 q2.2.2.2.1 q2.2.2.2.2)
        obtain ⟨w9, HW9⟩ : ∃ w9, Hid (w8.alloc (Obj.cells #[.int .i64 q2.1, .int .u64 (q2.2.1.1.toNat : Int), .int .u64 (q2.2.1.2.1.toNat : Int), .int .u64 (q2.2.1.2.2.1.toNat : Int), .int .u64 (q2.2.1.2.2.2.toNat : Int), .slice q2.2.2.1 q2.2.2.2.1 q2.2.2.2.2] 27) = w9) := ⟨_, (rfl : _ = _)⟩
        rw [HW9.out] at hba hrw
        obtain ⟨r2, HR2⟩ : ∃ r2, Hid (w8.heap.size = r2) := ⟨_, (rfl : w8.heap.size = w8.heap.size)⟩
        rw [HR2.out] at hrw
        have hb79 : Below w7.heap.size w7 w9 := hb8.trans (hba.mono hb8.size)
        have HX9 : Hid (Rx w9 w9.heap.size (v6 q2) t ∧ w9.rowIs r2 27 6 (fun i => match i with | 0 => .int .i64 q2.1 | 1 => .int .u64 (q2.2.1.1.toNat : Int) | 2 => .int .u64 (q2.2.1.2.1.toNat : Int) | 3 => .int .u64 (q2.2.1.2.2.1.toNat : Int) | 4 => .int .u64 (q2.2.1.2.2.2.toNat : Int) | _ => .slice q2.2.2.1 q2.2.2.2.1 q2.2.2.2.2) ∧ Rx w9 w9.heap.size (v6 q1) t ∧ w9.rowIs r1 27 6 (fun i => match i with | 0 => .int .i64 q1.1 | 1 => .int .u64 (q1.2.1.1.toNat : Int) | 2 => .int .u64 (q1.2.1.2.1.toNat : Int) | 3 => .int .u64 (q1.2.1.2.2.1.toNat : Int) | 4 => .int .u64 (q1.2.1.2.2.2.toNat : Int) | _ => .slice q1.2.2.1 q1.2.2.2.1 q1.2.2.2.2)) := ⟨(hx8.next hba).wide hba.size, hrw, (HX7.out.1.next hb79).wide hb79.size, HX7.out.2.of_block (hb79.block _ HX7.out.2.lt)⟩
        have HB9 : Hid (Below w.heap.size w w9) := HB7.out.trans (hb79.mono HB7.out.size)
        have y0 := hrw.cell (i := 0) (by omega)
        have y1 := hrw.cell (i := 1) (by omega)
        have y2 := hrw.cell (i := 2) (by omega)
        have y3 := hrw.cell (i := 3) (by omega)
        have y4 := hrw.cell (i := 4) (by omega)
        have y5 := hrw.cell (i := 5) (by omega)
        simp only [] at y0 y1 y2 y3 y4 y5
        rw [← HW9.out, ← HR2.out] at y0 y1 y2 y3 y4 y5
        clear hx8 hb8 hba hrw hb79 HB7 HX7 hb hLs
        go_wp2_with fail
        rw [HW9.out, HR2.out]
        clear y0 y1 y2 y3 y4 y5 HW9 HR2
        refine (HP.out (v6 q2) w9 HX9.out.1).mono ?_
        rintro _ w10 ⟨rfl, hb10⟩
        have HX10 : Hid (Rx w10 w10.heap.size (v6 q2) t ∧ Rx w10 w10.heap.size (v6 q1) t) := ⟨(HX9.out.1.next hb10).wide hb10.size, (HX9.out.2.2.1.next hb10).wide hb10.size⟩
        have HB10 : Hid (Below w.heap.size w w10) := HB9.out.trans (hb10.mono HB9.out.size)
        have g2 := HX9.out.2.1.of_block (hb10.block _ HX9.out.2.1.lt)
        have g1 := HX9.out.2.2.2.of_block (hb10.block _ HX9.out.2.2.2.lt)
        have y0 := g1.cell (i := 0) (by omega)
        have y1 := g1.cell (i := 1) (by omega)
        have y2 := g1.cell (i := 2) (by omega)
        have y3 := g1.cell (i := 3) (by omega)
        have y4 := g1.cell (i := 4) (by omega)
        have y5 := g1.cell (i := 5) (by omega)
        have x0 := g2.cell (i := 0) (by omega)
        have x1 := g2.cell (i := 1) (by omega)
        have x2 := g2.cell (i := 2) (by omega)
        have x3 := g2.cell (i := 3) (by omega)
        have x4 := g2.cell (i := 4) (by omega)
        have x5 := g2.cell (i := 5) (by omega)
        simp only [] at y0 y1 y2 y3 y4 y5 x0 x1 x2 x3 x4 x5
        clear hb10 g1 g2 HX9 HB9 b1
        go_wp2_with fail
        refine (sameRex_true t (v6 q1) (v6 q2) w10 HX10.out.2 HX10.out.1).mono ?_
        rintro _ w11 ⟨rfl, hb11⟩
        have HB11 : Hid (Below w.heap.size w w11) := HB10.out.trans (hb11.mono HB10.out.size)
        clear hb11 y0 y1 y2 y3 y4 y5 x0 x1 x2 x3 x4 x5
        have hss : (L == L) = true := by simp
        go_wp2_with fail
        go_ret
        exact ⟨by simp, HB11.out⟩
    · obtain ⟨er, HER⟩ : ∃ er, Hid (pe a0 = er) := ⟨_, (rfl : pe a0 = pe a0)⟩
      have hpb := Parse_bad a0 (by omega) hpe w4
      rw [HER.out] at hpb hpe
      refine hpb.mono ?_
      rintro _ w5 ⟨n5, rfl, hb5⟩
      have HB5 : Hid (Below w.heap.size w w5) := HB4.out.trans (hb5.mono HB4.out.size)
      have b4 : ((er : Int) != 0) = true := bne_iff_ne.2 (by omega)
      clear hb5 HB4 hpb hpe HER
      have hrz := row_zero6 w5
      have y0 := hrz.cell (i := 0) (by omega)
      simp only [] at y0
      have HB6 : Hid (Below w.heap.size w (w5.alloc (Obj.cells #[.int .i64 0, .int .u64 0, .int .u64 0, .int .u64 0, .int .u64 0, .slice none 0 0] 27))) := HB5.out.trans ((bal w5 _).mono HB5.out.size)
      clear hrz
      go_wp2_with fail
      go_ret
      exact ⟨by simp, HB6.out⟩

/-! ### What the walk gives, for every argument -/
set_option maxRecDepth 100000 in
theorem contract (H : Type) (enc : TypeId × Value → H) (W : World) (base : Nat) (args : Array Value) (ds gs : List (DataW H)) (before : List MemPlace)
    (hval : ∀ (j : Nat) t v, Try.f6.params[j]? = some t → args[j]? = some v → Value.okWide Try.prog W .any base t v)
    (hW : DataW.Whole enc Try.prog Try.f6.params.toList Rows.rexAgainSpec.vars false W args.toList ds gs before) (hsz : (DataW.weightsEach Try.prog (Try.f6.params.toList ++ Rows.rexAgainSpec.plain.varTypes Try.prog) (ds ++ gs)).all (· ≤ reachBytes) = true) :
    Calls Try.prog 6 args W fun e W' => ∃ v, e = .returned v ∧ Rows.rexAgainSpec.post enc Try.prog Try.f6 false true false false W args v W' := by
  have hW' := hW
  obtain ⟨p, q, hA0, hV, rfl, hfz, hnd⟩ := hW
  have hA : DataW.TrodAll enc Try.prog W 0 (fun _ => true) true Try.f6.params.toList args.toList ds p := hA0
  rw [Try.params6] at hA hval hsz
  obtain ⟨v0, vs0, d0, ds0, p0, q0, hargs, rfl, rfl, h0, r0⟩ := trodAll_cons hA
  obtain ⟨rfl, rfl, rfl⟩ := trodAll_nil r0
  obtain rfl : args = #[v0] := by cases args; simp_all
  obtain ⟨rfl, rfl⟩ := trodVars_none hV
  obtain ⟨a0, rfl, rfl, rfl, w0⟩ := open_string Try.underlying9 (hval 0 9 v0 rfl rfl) h0
  have r0z : a0.size ≤ 140737488351232 := by have := sized_string hsz (j := 0) (t := 9) rfl rfl; simpa [reachBytes] using this
  clear hA0
  refine (walk a0 W r0z).mono fun e W' ⟨he, bel⟩ => ?_
  subst he
  exact ⟨_, rfl, _, _, _, [], _, [], hW', trodAll_mk1 (shut_bool Try.underlying4 _), (trodAll_cons_mk (shut_string Try.underlying9 w0) trodAll_mk0), rfl, bel.frame _, fun h => by cases h⟩

/-! ### The row's step -/
set_option maxRecDepth 100000 in
theorem lifted (os : Os) (started : os.Started) (H : Type) (enc : TypeId × Value → H) :
    ReturnsInHanded {} Try.checked os 6 .any (Rows.rexAgainSpec.pre6 enc Try.prog Try.f6 Rows.rexAgainRow.domain false) (Rows.rexAgainSpec.post enc Try.prog Try.f6 false true false false) := by
  refine returnsInHanded_of_change_sized (C := Try.checked) own started (by kernel_rfl) Try.func6
    (ChangeSpec.witness6 (enc := enc) (C := Try.checked) false ⟨#[], #[.string .empty], []⟩ 8 (by kernel_rfl) (by kernel_rfl) (by kernel_rfl) (by kernel_rfl)) ?_
  intro W base args ds gs before hval hW hcnd hsz _
  exact contract H enc W base args ds gs before hval hW hsz

theorem over : Rows.rexAgainRow.holds Try.pinned (OpenSpec.ofChange Rows.rexAgainSpec) :=
  OpenClaim.holds_of_wide 6 Try.f6 rfl rfl rfl rfl rfl rfl rfl ⟨rfl, rfl, rfl, rfl, rfl⟩ rfl rfl rfl rfl rfl (by kernel_rfl) Try.func6 (by kernel_rfl)
    (of_decide_eq_true (by kernel_rfl)) (by unfold Func.isWrapper; first | (rw [if_pos (by decide +kernel)]; kernel_rfl) | (rw [if_neg (by decide +kernel)]; exact ⟨rfl, rfl⟩))
    (fun os started H enc _ => lifted os started H enc)

end Go.Proofs.Ythloedfiomfnbaa.rexAgain
namespace Go.Proofs.Ythloedfiomfnbaa
/-- The given statement. -/
theorem rexAgain_holds : Rows.RexAgainSaid := rexAgain.over
#print axioms rexAgain_holds
end Go.Proofs.Ythloedfiomfnbaa
