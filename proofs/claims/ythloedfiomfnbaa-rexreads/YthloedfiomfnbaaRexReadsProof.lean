/-
  RexReads returns true whatever text is handed in; no condition.
-/
import Derived.Test.YthloedfiomfnbaaRows
import Derived.WalkKit
import Derived.ProofKit
import Derived.OpenShut
import Derived.ShutString
import Derived.SizedLaws
import Derived.ChangeOld
import Derived.Below
import Derived.Carry
import Derived.WalkLawsBesides
import Derived.WalkSpells
import Derived.Test.YthloedfiomfnbaaOpens
import Derived.Test.YthloedfiomfnbaaQtW2
import Derived.Test.YthloedfiomfnbaaRxKeep
namespace Go.Proofs.Ythloedfiomfnbaa.rexReads
open Go.ChangeShapes Go.WideShapes Go.ChangeAt Go.RowKit
open Go.ChangeMaps (open_string shut_string)
open Cls
open Rex
open Txt
set_option linter.unusedVariables false

theorem own : ownKnob Try.prog.godebug = none := by kernel_rfl
theorem laidOut : laidOutB Try.prog = true := by kernel_rfl

/-! ### The walk: the Go text returns true. -/
set_option maxHeartbeats 8000000 in
set_option maxRecDepth 20000 in
theorem walk (a0 : ByteArray) (w : World) (w0 : a0.size ≤ 140737488351232) :
    Calls Try.prog 4 #[.string a0] w fun e w' => e = .returned (.bool true) ∧ Below w.heap.size w w' := by
  have HS0 : Hid (a0.size ≤ 140737488351232) := w0
  clear w0
  go_enter Try.func4, Try.ntmps4
  go_wp2_with fail
  by_cases h300 : 300 < a0.size
  · refine (Parse_large a0 h300 w).mono ?_
    rintro _ w1 ⟨rfl, hb1⟩
    have hx1 : Rx w1 w1.heap.size (v6 (0, Cls.empty, none, 0, 0)) (.mk 0 Cls.empty []) := rx_leaf w1 _ 0 Cls.empty (by omega)
    obtain ⟨r1, HR1⟩ : ∃ r1, Hid (w1.heap.size = r1) := ⟨_, (rfl : w1.heap.size = w1.heap.size)⟩
    obtain ⟨w2, HW2⟩ : ∃ w2, Hid (w1.alloc (.cells #[.int .i64 0, .int .u64 0, .int .u64 0, .int .u64 0, .int .u64 0, .slice none 0 0] 27) = w2) := ⟨_, (rfl : _ = _)⟩
    have hB2 : Below w1.heap.size w1 w2 := HW2.out ▸ bal_ _ _
    have HB2 : Hid (Below w.heap.size w w2) := hb1.trans (hB2.mono hb1.size)
    have HX2 : Hid (Rx w2 w2.heap.size (v6 (0, Cls.empty, none, 0, 0)) (.mk 0 Cls.empty [])) := (hx1.next hB2).wide hB2.size
    have HC2 : Hid (w2.heap[r1]? = some (.cells #[.int .i64 0, .int .u64 0, .int .u64 0, .int .u64 0, .int .u64 0, .slice none 0 0] 27)) := by
      show _ = _
      rw [← HR1.out, ← HW2.out]; exact block_new w1 _
    clear hB2 hb1 hx1
    go_upto_region 2 with fail
    rw [HR1.out, HW2.out]
    clear HR1 HW2
    go_wp2_with fail
    refine (ReadRex_large a0 h300 w2).mono ?_
    rintro _ w3 ⟨rfl, hb3⟩
    have hx3 : Rx w3 w3.heap.size (v6 (0, Cls.empty, none, 0, 0)) (.mk 0 Cls.empty []) := rx_leaf w3 _ 0 Cls.empty (by omega)
    obtain ⟨r2, HR2⟩ : ∃ r2, Hid (w3.heap.size = r2) := ⟨_, (rfl : w3.heap.size = w3.heap.size)⟩
    obtain ⟨w4, HW4⟩ : ∃ w4, Hid (w3.alloc (.cells #[.int .i64 0, .int .u64 0, .int .u64 0, .int .u64 0, .int .u64 0, .slice none 0 0] 27) = w4) := ⟨_, (rfl : _ = _)⟩
    have hB4 : Below w3.heap.size w3 w4 := HW4.out ▸ bal_ _ _
    have hB24 : Below w2.heap.size w2 w4 := hb3.trans (hB4.mono hb3.size)
    have HB4 : Hid (Below w.heap.size w w4) := HB2.out.trans (hB24.mono HB2.out.size)
    have HX4 : Hid (Rx w4 w4.heap.size (v6 (0, Cls.empty, none, 0, 0)) (.mk 0 Cls.empty []) ∧ Rx w4 w4.heap.size (v6 (0, Cls.empty, none, 0, 0)) (.mk 0 Cls.empty [])) := ⟨(HX2.out.next hB24).wide hB24.size, (hx3.next hB4).wide hB4.size⟩
    have hC1 : w4.heap[r1]? = some (.cells #[.int .i64 0, .int .u64 0, .int .u64 0, .int .u64 0, .int .u64 0, .slice none 0 0] 27) := (hB24.block r1 (in_heap HC2.out)).trans HC2.out
    have hC2 : w4.heap[r2]? = some (.cells #[.int .i64 0, .int .u64 0, .int .u64 0, .int .u64 0, .int .u64 0, .slice none 0 0] 27) := by rw [← HR2.out, ← HW4.out]; exact block_new w3 _
    obtain ⟨⟨y0, y1, y2, y3, y4, y5⟩, yf0, yf1, yf2, yf3, yf4, yf5⟩ := block6 hC1
    obtain ⟨⟨z0, z1, z2, z3, z4, z5⟩, zf0, zf1, zf2, zf3, zf4, zf5⟩ := block6 hC2
    clear hB4 hB24 hb3 hx3 hC1 hC2 HC2 HX2 HB2
    go_upto_region 3 with fail
    rw [HR2.out, HW4.out]
    clear HR2 HW4
    go_wp2_with fail
    refine (sameRex_true (.mk 0 Cls.empty []) (v6 (0, Cls.empty, none, 0, 0)) (v6 (0, Cls.empty, none, 0, 0)) w4 HX4.out.1 HX4.out.2).mono ?_
    rintro _ w5 ⟨rfl, hb5⟩
    have HB5 : Hid (Below w.heap.size w w5) := HB4.out.trans (hb5.mono HB4.out.size)
    clear hb5 y0 yf0 y1 yf1 y2 yf2 y3 yf3 y4 yf4 y5 yf5 z0 zf0 z1 zf1 z2 zf2 z3 zf3 z4 zf4 z5 zf5
    go_wp2_with fail
    go_ret
    exact ⟨by simp, HB5.out⟩
  · have hs3 : a0.size ≤ 300 := by omega
    have hQ := ralt_all a0 hs3 (fun kn _ => rclass_any a0 hs3 _) 30 (by omega)
    rw [show (30 : Int) - ((30 : Nat) : Int) = 0 by simp] at hQ
    have HRR : Hid (∀ W : World, Calls Try.prog 12 #[.string a0] W fun e w' => RR a0 W e w') := fun W => ReadRex_any a0 hs3 hQ W
    clear hQ
    by_cases hpe : pe a0 = 0
    · have hal : (altN a0 30 0).2.2 = 0 ∧ ¬ (altN a0 30 0).2.1 < a0.size ∧ err (altN a0 30 0).1 = 0 := by
        have hpe2 := hpe
        unfold pe at hpe2
        by_cases h1 : (altN a0 30 0).2.2 = 0
        · rw [if_pos h1] at hpe2
          by_cases h2 : (altN a0 30 0).2.1 < a0.size
          · rw [if_pos h2] at hpe2; omega
          · rw [if_neg h2] at hpe2; exact ⟨h1, h2, hpe2⟩
        · rw [if_neg h1] at hpe2; exact absurd hpe2 h1
      have HOK : Hid (∀ W : World, Calls Try.prog 12 #[.string a0] W fun e w' => ∃ q : R6, e = .returned (.tuple #[.agg #[.int .i64 q.1, .int .u64 (q.2.1.1.toNat : Int), .int .u64 (q.2.1.2.1.toNat : Int), .int .u64 (q.2.1.2.2.1.toNat : Int), .int .u64 (q.2.1.2.2.2.toNat : Int), .slice q.2.2.1 q.2.2.2.1 q.2.2.2.2], .int .i64 0, .int .i64 0]) ∧ Rx w' w'.heap.size (v6 q) (altN a0 30 0).1 ∧ Below W.heap.size W w') := fun W => (HRR.out W).mono fun e w' h => by
        rcases h.2 with ⟨_, q, h1, h2⟩ | ⟨h1, _⟩
        · exact ⟨q, h1, h2, h.1⟩
        · exact absurd hpe h1
      obtain ⟨t, HT⟩ : ∃ t, Hid ((altN a0 30 0).1 = t) := ⟨_, (rfl : (altN a0 30 0).1 = (altN a0 30 0).1)⟩
      rw [HT.out] at hal HOK
      obtain ⟨x, hIs, hnod, hdeep⟩ := err_all hal.2.2
      have hsz : t.sz ≤ 200 := by rw [is_sz hIs]; omega
      have hpo := Parse_ok a0 hs3 t ⟨HT.out, hal.1, hal.2.1⟩ hal.2.2 hsz w
      clear hal hIs hnod hdeep hsz HT HRR
      refine hpo.mono ?_
      rintro _ w1 ⟨q1, rfl, hx1, hb1⟩
      clear hpo
      obtain ⟨r1, HR1⟩ : ∃ r1, Hid (w1.heap.size = r1) := ⟨_, (rfl : w1.heap.size = w1.heap.size)⟩
      obtain ⟨w2, HW2⟩ : ∃ w2, Hid (w1.alloc (.cells #[.int .i64 q1.1, .int .u64 (q1.2.1.1.toNat : Int), .int .u64 (q1.2.1.2.1.toNat : Int), .int .u64 (q1.2.1.2.2.1.toNat : Int), .int .u64 (q1.2.1.2.2.2.toNat : Int), .slice q1.2.2.1 q1.2.2.2.1 q1.2.2.2.2] 27) = w2) := ⟨_, (rfl : _ = _)⟩
      have hB2 : Below w1.heap.size w1 w2 := HW2.out ▸ bal_ _ _
      have HB2 : Hid (Below w.heap.size w w2) := hb1.trans (hB2.mono hb1.size)
      have HX2 : Hid (Rx w2 w2.heap.size (v6 q1) t) := (hx1.next hB2).wide hB2.size
      have HC2 : Hid (w2.heap[r1]? = some (.cells #[.int .i64 q1.1, .int .u64 (q1.2.1.1.toNat : Int), .int .u64 (q1.2.1.2.1.toNat : Int), .int .u64 (q1.2.1.2.2.1.toNat : Int), .int .u64 (q1.2.1.2.2.2.toNat : Int), .slice q1.2.2.1 q1.2.2.2.1 q1.2.2.2.2] 27)) := by
        show _ = _
        rw [← HR1.out, ← HW2.out]; exact block_new w1 _
      clear hB2 hb1 hx1
      go_upto_region 2 with fail
      rw [HR1.out, HW2.out]
      clear HR1 HW2
      go_wp2_with fail
      refine (HOK.out w2).mono ?_
      rintro _ w3 ⟨q2, rfl, hx3, hb3⟩
      obtain ⟨r2, HR2⟩ : ∃ r2, Hid (w3.heap.size = r2) := ⟨_, (rfl : w3.heap.size = w3.heap.size)⟩
      obtain ⟨w4, HW4⟩ : ∃ w4, Hid (w3.alloc (.cells #[.int .i64 q2.1, .int .u64 (q2.2.1.1.toNat : Int), .int .u64 (q2.2.1.2.1.toNat : Int), .int .u64 (q2.2.1.2.2.1.toNat : Int), .int .u64 (q2.2.1.2.2.2.toNat : Int), .slice q2.2.2.1 q2.2.2.2.1 q2.2.2.2.2] 27) = w4) := ⟨_, (rfl : _ = _)⟩
      have hB4 : Below w3.heap.size w3 w4 := HW4.out ▸ bal_ _ _
      have hB24 : Below w2.heap.size w2 w4 := hb3.trans (hB4.mono hb3.size)
      have HB4 : Hid (Below w.heap.size w w4) := HB2.out.trans (hB24.mono HB2.out.size)
      have HX4 : Hid (Rx w4 w4.heap.size (v6 q1) t ∧ Rx w4 w4.heap.size (v6 q2) t) := ⟨(HX2.out.next hB24).wide hB24.size, (hx3.next hB4).wide hB4.size⟩
      have hC1 : w4.heap[r1]? = some (.cells #[.int .i64 q1.1, .int .u64 (q1.2.1.1.toNat : Int), .int .u64 (q1.2.1.2.1.toNat : Int), .int .u64 (q1.2.1.2.2.1.toNat : Int), .int .u64 (q1.2.1.2.2.2.toNat : Int), .slice q1.2.2.1 q1.2.2.2.1 q1.2.2.2.2] 27) := (hB24.block r1 (in_heap HC2.out)).trans HC2.out
      have hC2 : w4.heap[r2]? = some (.cells #[.int .i64 q2.1, .int .u64 (q2.2.1.1.toNat : Int), .int .u64 (q2.2.1.2.1.toNat : Int), .int .u64 (q2.2.1.2.2.1.toNat : Int), .int .u64 (q2.2.1.2.2.2.toNat : Int), .slice q2.2.2.1 q2.2.2.2.1 q2.2.2.2.2] 27) := by rw [← HR2.out, ← HW4.out]; exact block_new w3 _
      obtain ⟨⟨y0, y1, y2, y3, y4, y5⟩, yf0, yf1, yf2, yf3, yf4, yf5⟩ := block6 hC1
      obtain ⟨⟨z0, z1, z2, z3, z4, z5⟩, zf0, zf1, zf2, zf3, zf4, zf5⟩ := block6 hC2
      clear hB4 hB24 hb3 hx3 hC1 hC2 HC2 HX2 HB2
      go_upto_region 3 with fail
      rw [HR2.out, HW4.out]
      clear HR2 HW4
      go_wp2_with fail
      refine (sameRex_true t (v6 q1) (v6 q2) w4 HX4.out.1 HX4.out.2).mono ?_
      rintro _ w5 ⟨rfl, hb5⟩
      have HB5 : Hid (Below w.heap.size w w5) := HB4.out.trans (hb5.mono HB4.out.size)
      clear hb5 y0 yf0 y1 yf1 y2 yf2 y3 yf3 y4 yf4 y5 yf5 z0 zf0 z1 zf1 z2 zf2 z3 zf3 z4 zf4 z5 zf5
      go_wp2_with fail
      go_ret
      exact ⟨by simp, HB5.out⟩
    · have HBAD : Hid (∀ W : World, Calls Try.prog 12 #[.string a0] W fun e w' => ∃ n : Int, isPos a0 n ∧ e = .returned (.tuple #[.agg #[.int .i64 0, .int .u64 0, .int .u64 0, .int .u64 0, .int .u64 0, .slice none 0 0], .int .i64 n, .int .i64 (pe a0 : Int)]) ∧ Below W.heap.size W w') := fun W => (HRR.out W).mono fun e w' h => by
        rcases h.2 with ⟨h1, _⟩ | ⟨_, n, h1, h2⟩
        · exact absurd h1 hpe
        · exact ⟨n, h1, h2, h.1⟩
      have hpb := Parse_badP a0 hs3 hpe w
      obtain ⟨er, HER⟩ : ∃ er, Hid (pe a0 = er) := ⟨_, (rfl : pe a0 = pe a0)⟩
      rw [HER.out] at hpb HBAD
      clear hpe HRR HER
      refine hpb.mono ?_
      rintro _ w1 ⟨n1, hn1, rfl, hb1⟩
      have HN1 : Hid (isPos a0 n1) := hn1
      have hx1 : Rx w1 w1.heap.size (v6 (0, Cls.empty, none, 0, 0)) (.mk 0 Cls.empty []) := rx_leaf w1 _ 0 Cls.empty (by omega)
      clear hpb hn1
      obtain ⟨r1, HR1⟩ : ∃ r1, Hid (w1.heap.size = r1) := ⟨_, (rfl : w1.heap.size = w1.heap.size)⟩
      obtain ⟨w2, HW2⟩ : ∃ w2, Hid (w1.alloc (.cells #[.int .i64 0, .int .u64 0, .int .u64 0, .int .u64 0, .int .u64 0, .slice none 0 0] 27) = w2) := ⟨_, (rfl : _ = _)⟩
      have hB2 : Below w1.heap.size w1 w2 := HW2.out ▸ bal_ _ _
      have HB2 : Hid (Below w.heap.size w w2) := hb1.trans (hB2.mono hb1.size)
      have HX2 : Hid (Rx w2 w2.heap.size (v6 (0, Cls.empty, none, 0, 0)) (.mk 0 Cls.empty [])) := (hx1.next hB2).wide hB2.size
      have HC2 : Hid (w2.heap[r1]? = some (.cells #[.int .i64 0, .int .u64 0, .int .u64 0, .int .u64 0, .int .u64 0, .slice none 0 0] 27)) := by
        show _ = _
        rw [← HR1.out, ← HW2.out]; exact block_new w1 _
      clear hB2 hb1 hx1
      go_upto_region 2 with fail
      rw [HR1.out, HW2.out]
      clear HR1 HW2
      go_wp2_with fail
      refine (HBAD.out w2).mono ?_
      rintro _ w3 ⟨n3, hn3, rfl, hb3⟩
      obtain rfl : n3 = n1 := by have h := HN1.out; unfold isPos at h hn3; rw [h, hn3]
      have hx3 : Rx w3 w3.heap.size (v6 (0, Cls.empty, none, 0, 0)) (.mk 0 Cls.empty []) := rx_leaf w3 _ 0 Cls.empty (by omega)
      obtain ⟨r2, HR2⟩ : ∃ r2, Hid (w3.heap.size = r2) := ⟨_, (rfl : w3.heap.size = w3.heap.size)⟩
      obtain ⟨w4, HW4⟩ : ∃ w4, Hid (w3.alloc (.cells #[.int .i64 0, .int .u64 0, .int .u64 0, .int .u64 0, .int .u64 0, .slice none 0 0] 27) = w4) := ⟨_, (rfl : _ = _)⟩
      have hB4 : Below w3.heap.size w3 w4 := HW4.out ▸ bal_ _ _
      have hB24 : Below w2.heap.size w2 w4 := hb3.trans (hB4.mono hb3.size)
      have HB4 : Hid (Below w.heap.size w w4) := HB2.out.trans (hB24.mono HB2.out.size)
      have HX4 : Hid (Rx w4 w4.heap.size (v6 (0, Cls.empty, none, 0, 0)) (.mk 0 Cls.empty []) ∧ Rx w4 w4.heap.size (v6 (0, Cls.empty, none, 0, 0)) (.mk 0 Cls.empty [])) := ⟨(HX2.out.next hB24).wide hB24.size, (hx3.next hB4).wide hB4.size⟩
      have hC1 : w4.heap[r1]? = some (.cells #[.int .i64 0, .int .u64 0, .int .u64 0, .int .u64 0, .int .u64 0, .slice none 0 0] 27) := (hB24.block r1 (in_heap HC2.out)).trans HC2.out
      have hC2 : w4.heap[r2]? = some (.cells #[.int .i64 0, .int .u64 0, .int .u64 0, .int .u64 0, .int .u64 0, .slice none 0 0] 27) := by rw [← HR2.out, ← HW4.out]; exact block_new w3 _
      obtain ⟨⟨y0, y1, y2, y3, y4, y5⟩, yf0, yf1, yf2, yf3, yf4, yf5⟩ := block6 hC1
      obtain ⟨⟨z0, z1, z2, z3, z4, z5⟩, zf0, zf1, zf2, zf3, zf4, zf5⟩ := block6 hC2
      clear hB4 hB24 hb3 hx3 hC1 hC2 HC2 HX2 HB2
      go_upto_region 3 with fail
      rw [HR2.out, HW4.out]
      clear HR2 HW4
      go_wp2_with fail
      refine (sameRex_true (.mk 0 Cls.empty []) (v6 (0, Cls.empty, none, 0, 0)) (v6 (0, Cls.empty, none, 0, 0)) w4 HX4.out.1 HX4.out.2).mono ?_
      rintro _ w5 ⟨rfl, hb5⟩
      have HB5 : Hid (Below w.heap.size w w5) := HB4.out.trans (hb5.mono HB4.out.size)
      clear hb5 y0 yf0 y1 yf1 y2 yf2 y3 yf3 y4 yf4 y5 yf5 z0 zf0 z1 zf1 z2 zf2 z3 zf3 z4 zf4 z5 zf5
      go_wp2_with fail
      go_ret
      exact ⟨by simp, HB5.out⟩

/-! ### What the walk gives, for every argument -/
set_option maxRecDepth 100000 in
theorem contract (H : Type) (enc : TypeId × Value → H) (W : World) (base : Nat) (args : Array Value) (ds gs : List (DataW H)) (before : List MemPlace)
    (hval : ∀ (j : Nat) t v, Try.f4.params[j]? = some t → args[j]? = some v → Value.okWide Try.prog W .any base t v)
    (hW : DataW.Whole enc Try.prog Try.f4.params.toList Rows.rexReadsSpec.vars false W args.toList ds gs before) (hsz : (DataW.weightsEach Try.prog (Try.f4.params.toList ++ Rows.rexReadsSpec.plain.varTypes Try.prog) (ds ++ gs)).all (· ≤ reachBytes) = true) :
    Calls Try.prog 4 args W fun e W' => ∃ v, e = .returned v ∧ Rows.rexReadsSpec.post enc Try.prog Try.f4 false true false false W args v W' := by
  have hW' := hW
  obtain ⟨p, q, hA0, hV, rfl, hfz, hnd⟩ := hW
  have hA : DataW.TrodAll enc Try.prog W 0 (fun _ => true) true Try.f4.params.toList args.toList ds p := hA0
  rw [Try.params4] at hA hval hsz
  obtain ⟨v0, vs0, d0, ds0, p0, q0, hargs, rfl, rfl, h0, r0⟩ := trodAll_cons hA
  obtain ⟨rfl, rfl, rfl⟩ := trodAll_nil r0
  obtain rfl : args = #[v0] := by cases args; simp_all
  obtain ⟨rfl, rfl⟩ := trodVars_none hV
  obtain ⟨a0, rfl, rfl, rfl, w0⟩ := open_string Try.underlying9 (hval 0 9 v0 rfl rfl) h0
  have r0z : a0.size ≤ 140737488351232 := by have := sized_string hsz (j := 0) (t := 9) rfl rfl; simpa [reachBytes] using this
  clear hA0
  refine (walk a0 W r0z).mono fun e W' ⟨he, bel⟩ => ?_
  subst he
  exact ⟨_, rfl, _, _, _, [], _, [], hW', trodAll_mk1 (shut_bool Try.underlying4 _), (trodAll_cons_mk (shut_string Try.underlying9 w0) trodAll_mk0), rfl, bel.frame _, fun h => by cases h⟩

/-! ### The row's step -/
set_option maxRecDepth 100000 in
theorem lifted (os : Os) (started : os.Started) (H : Type) (enc : TypeId × Value → H) :
    ReturnsInHanded {} Try.checked os 4 .any (Rows.rexReadsSpec.pre6 enc Try.prog Try.f4 Rows.rexReadsRow.domain false) (Rows.rexReadsSpec.post enc Try.prog Try.f4 false true false false) := by
  refine returnsInHanded_of_change_sized (C := Try.checked) own started (by kernel_rfl) Try.func4
    (ChangeSpec.witness6 (enc := enc) (C := Try.checked) false ⟨#[], #[.string .empty], []⟩ 8 (by kernel_rfl) (by kernel_rfl) (by kernel_rfl) (by kernel_rfl)) ?_
  intro W base args ds gs before hval hW hcnd hsz _
  exact contract H enc W base args ds gs before hval hW hsz

theorem over : Rows.rexReadsRow.holds Try.pinned (OpenSpec.ofChange Rows.rexReadsSpec) :=
  OpenClaim.holds_of_wide 4 Try.f4 rfl rfl rfl rfl rfl rfl rfl ⟨rfl, rfl, rfl, rfl, rfl⟩ rfl rfl rfl rfl rfl (by kernel_rfl) Try.func4 (by kernel_rfl)
    (of_decide_eq_true (by kernel_rfl)) (by unfold Func.isWrapper; first | (rw [if_pos (by decide +kernel)]; kernel_rfl) | (rw [if_neg (by decide +kernel)]; exact ⟨rfl, rfl⟩))
    (fun os started H enc _ => lifted os started H enc)

end Go.Proofs.Ythloedfiomfnbaa.rexReads
namespace Go.Proofs.Ythloedfiomfnbaa
/-- The given statement. -/
theorem rexReads_holds : Rows.RexReadsSaid := rexReads.over
#print axioms rexReads_holds
end Go.Proofs.Ythloedfiomfnbaa
