/-
  The law ClassSizes holds: for every two classes the Go text returns true.
-/
import Derived.Test.YtgoejdakmbpcmaaRows
import Derived.WalkKit
import Derived.ProofKit
import Derived.OpenShut
import Derived.ShutString
import Derived.SizedLaws
import Derived.ChangeOld
import Derived.Below
import Derived.Carry
import Derived.WalkLawsBesides
import Derived.WalkSpells
import Derived.Test.YtgoejdakmbpcmaaOpens
import Derived.Deep.RegionHeld3
import Derived.Deep.DrawnRows
import Derived.Laws.IdiomStrings
import Derived.Laws.BytesArg
import Derived.Test.YtgoejdakmbpcmaaSets
import Derived.Test.YtgoejdakmbpcmaaRanges
import Derived.Test.YtgoejdakmbpcmaaEqs
import Derived.Test.YtgoejdakmbpcmaaKeeps
import Derived.Test.YtgoejdakmbpcmaaTails
import Derived.Test.YtgoejdakmbpcmaaCounts
import Derived.Test.YtgoejdakmbpcmaaRising
namespace Go.Proofs.Ytgoejdakmbpcmaa.classSizes
open Go.ChangeShapes Go.WideShapes Go.ChangeAt Go.RowKit
open Go.ChangeMaps (open_string shut_string)
open Cls
set_option linter.unusedVariables false

theorem own : ownKnob Try.prog.godebug = none := by kernel_rfl
theorem laidOut : laidOutB Try.prog = true := by kernel_rfl
/-- What region 11 keeps. -/
def RS (w W1 W2 W3 : World) (g : Cl) (W : World) : Prop := RF w.heap.size w W1.heap.size W1.heap.size g W ∧ W.heap[w.heap.size]? = W1.heap[w.heap.size]? ∧ W.heap[W2.heap.size]? = W3.heap[W2.heap.size]? ∧ W3.heap.size ≤ W.heap.size
theorem RS.next {w W1 W2 W3 : World} {g : Cl} (h1 : w.heap.size < W1.heap.size) (h2 : W1.heap.size + 1 ≤ W2.heap.size) (h3 : W2.heap.size < W3.heap.size) (W W' : World) (h : RS w W1 W2 W3 g W) (hb : Below W.heap.size W W') : RS w W1 W2 W3 g W' :=
  ⟨h.1.next h.1.below.size hb, (hb.block _ (by have := h.2.2.2; omega)).trans h.2.1, (hb.block _ (by have := h.2.2.2; omega)).trans h.2.2.1, Nat.le_trans h.2.2.2 hb.size⟩
theorem store4 {W : World} {b : Nat} {d : Cl} (h : W.heap[b]? = some (.cells #[.int .u64 (d.1.toNat : Int), .int .u64 (d.2.1.toNat : Int), .int .u64 (d.2.2.1.toNat : Int), .int .u64 (d.2.2.2.toNat : Int)] 24)) (e : Cl) : ((((W.setCell ⟨b, 0, none⟩ (.int .u64 (e.1.toNat : Int))).setCell ⟨b, 1, none⟩ (.int .u64 (e.2.1.toNat : Int))).setCell ⟨b, 2, none⟩ (.int .u64 (e.2.2.1.toNat : Int))).setCell ⟨b, 3, none⟩ (.int .u64 (e.2.2.2.toNat : Int))).heap[b]? = some (.cells #[.int .u64 (e.1.toNat : Int), .int .u64 (e.2.1.toNat : Int), .int .u64 (e.2.2.1.toNat : Int), .int .u64 (e.2.2.2.toNat : Int)] 24) := by
  simp [World.setCell, Array.getElem?_modify, h]
theorem other4 {W : World} {b k : Nat} (h : k ≠ b) (v0 v1 v2 v3 : Value) : ((((W.setCell ⟨b, 0, none⟩ v0).setCell ⟨b, 1, none⟩ v1).setCell ⟨b, 2, none⟩ v2).setCell ⟨b, 3, none⟩ v3).heap[k]? = W.heap[k]? := by
  rw [Below.heap_setCell _ _ _ _ h, Below.heap_setCell _ _ _ _ h, Below.heap_setCell _ _ _ _ h, Below.heap_setCell _ _ _ _ h]
theorem size4 {W : World} {b : Nat} (v0 v1 v2 v3 : Value) : ((((W.setCell ⟨b, 0, none⟩ v0).setCell ⟨b, 1, none⟩ v1).setCell ⟨b, 2, none⟩ v2).setCell ⟨b, 3, none⟩ v3).heap.size = W.heap.size := by
  simp [World.setCell]
theorem below4 {B : Nat} {w W : World} (h : Below B w W) {b : Nat} (hb : B ≤ b) (v0 v1 v2 v3 : Value) : Below B w ((((W.setCell ⟨b, 0, none⟩ v0).setCell ⟨b, 1, none⟩ v1).setCell ⟨b, 2, none⟩ v2).setCell ⟨b, 3, none⟩ v3) :=
  (((h.setCell hb _).setCell hb _).setCell hb _).setCell hb _
theorem bytes_made (w : World) (s : ByteArray) : ∃ cap W2, (convert 9 26 (.string s)).run Try.prog w = .ok (.slice (some ⟨w.heap.size, 0, none⟩) s.size cap) W2 ∧
    (∀ j, j < s.size → W2.cell? ⟨w.heap.size, j, none⟩ = some (.int .u8 ((s.data.toList.getD j 0).toNat : Int))) ∧ Below w.heap.size w W2 ∧ w.heap.size < W2.heap.size := by
  have hr := run_bytes_of_string (P := Try.prog) w 9 26 5 s Try.underlying9 Try.underlying26 Try.underlying5
  generalize hcap : grownCap w s.size 0 5 = cap at hr
  refine ⟨cap, _, hr, ?_, ?_, ?_⟩
  · intro j hj
    have e := World.cell?_alloc_mark w.drew (bytesRow s cap) 5 ((bytesRow s cap).size, (bytesRow s cap).size + 1) j
    have e2 : (w.drew.alloc (.cells (bytesRow s cap) 5 ((bytesRow s cap).size, (bytesRow s cap).size + 1))).cell? ⟨w.heap.size, j, none⟩ = (bytesRow s cap)[j]? := e
    rw [e2, bytesRow_at s cap j hj]
    have : s.data.toList.getD j 0 = s.data[j]'hj := by simp [List.getD, Array.getElem?_eq_getElem (show j < s.data.size from hj)]
    rw [this]
  · exact ((Below.refl _ w).drew).alloc (Nat.le_refl _) _
  · show w.heap.size < (w.heap.push _).size
    simp
theorem count_b (c : Cl) (w : World) : Calls Try.prog 20 #[.agg #[.int .u64 (c.1.toNat : Int), .int .u64 (c.2.1.toNat : Int), .int .u64 (c.2.2.1.toNat : Int), .int .u64 (c.2.2.2.toNat : Int)]] w fun e w' => e = .returned (.int .i64 (count c : Int)) ∧ Below w.heap.size w w' :=
  (count_any c w).mono fun _ _ ⟨h1, h2⟩ => ⟨h1, h2.below⟩
theorem wrap_i64 (a : Int) (h1 : -9223372036854775808 ≤ a) (h2 : a ≤ 9223372036854775807) : IntKind.i64.wrap a = a := by
  simp only [IntKind.wrap, IntKind.bits, IntKind.signed]; simp; omega

/-! ### The walk: the Go text returns true. -/
set_option maxHeartbeats 20000000 in
set_option maxRecDepth 20000 in
theorem walk (a0c : Cls.Cl) (a1c : Cls.Cl) (w : World)  :
    Calls Try.prog 6 #[.agg #[.int .u64 (a0c.1.toNat : Int), .int .u64 (a0c.2.1.toNat : Int), .int .u64 (a0c.2.2.1.toNat : Int), .int .u64 (a0c.2.2.2.toNat : Int)], .agg #[.int .u64 (a1c.1.toNat : Int), .int .u64 (a1c.2.1.toNat : Int), .int .u64 (a1c.2.2.1.toNat : Int), .int .u64 (a1c.2.2.2.toNat : Int)]] w fun e w' => e = .returned (.bool true) ∧ Below w.heap.size w w' := by
  obtain ⟨T, HT⟩ : ∃ T : Int, Hid (T = (count a0c : Int) + (count a1c : Int)) := ⟨_, rfl⟩
  have l0 := count_le a0c
  have l1 := count_le a1c
  have hjm := count_join_meet a0c a1c
  have hng := count_neg a0c
  have hw1 : IntKind.i64.wrap ((count (join a0c a1c) : Int) + (count (meet a0c a1c) : Int)) = T := by rw [wrap_i64 _ (by omega) (by omega)]; have := HT.out; omega
  have hw2 : IntKind.i64.wrap ((count a0c : Int) + (count a1c : Int)) = T := by rw [wrap_i64 _ (by omega) (by omega)]; exact HT.out.symm
  have hw3 : IntKind.i64.wrap (256 - (count a0c : Int)) = (count (neg a0c) : Int) := by rw [wrap_i64 _ (by omega) (by omega)]; omega
  clear l0 l1 hjm hng
  have S1 : S2 w w.heap.size (w.heap.size + 1) a0c a1c ((w.alloc (.cells #[.int .u64 (a0c.1.toNat : Int), .int .u64 (a0c.2.1.toNat : Int), .int .u64 (a0c.2.2.1.toNat : Int), .int .u64 (a0c.2.2.2.toNat : Int)] 24)).alloc (.cells #[.int .u64 (a1c.1.toNat : Int), .int .u64 (a1c.2.1.toNat : Int), .int .u64 (a1c.2.2.1.toNat : Int), .int .u64 (a1c.2.2.2.toNat : Int)] 24)).drew := by
    have hs1 : (w.alloc (.cells #[.int .u64 (a0c.1.toNat : Int), .int .u64 (a0c.2.1.toNat : Int), .int .u64 (a0c.2.2.1.toNat : Int), .int .u64 (a0c.2.2.2.toNat : Int)] 24)).heap.size = w.heap.size + 1 := by simp
    have G := bx_new (w.alloc (.cells #[.int .u64 (a0c.1.toNat : Int), .int .u64 (a0c.2.1.toNat : Int), .int .u64 (a0c.2.2.1.toNat : Int), .int .u64 (a0c.2.2.2.toNat : Int)] 24)) a1c
    rw [hs1] at G
    exact S2.drew ⟨((Below.refl _ w).alloc (Nat.le_refl _) _).alloc (by simp) _, (bx_new w a0c).alloc _, G⟩
  go_enter Try.func6, Try.ntmps6
  go_wp2_with fail
  have pc0 : ∀ p : Kp (S2 w w.heap.size (w.heap.size + 1) a0c a1c), p.W.cell? ⟨w.heap.size, 0, none⟩ = some (.int .u64 (a0c.1.toNat : Int)) := fun p => p.h.2.1.1
  have pc1 : ∀ p : Kp (S2 w w.heap.size (w.heap.size + 1) a0c a1c), p.W.cell? ⟨w.heap.size, 1, none⟩ = some (.int .u64 (a0c.2.1.toNat : Int)) := fun p => p.h.2.1.2.1
  have pc2 : ∀ p : Kp (S2 w w.heap.size (w.heap.size + 1) a0c a1c), p.W.cell? ⟨w.heap.size, 2, none⟩ = some (.int .u64 (a0c.2.2.1.toNat : Int)) := fun p => p.h.2.1.2.2.1
  have pc3 : ∀ p : Kp (S2 w w.heap.size (w.heap.size + 1) a0c a1c), p.W.cell? ⟨w.heap.size, 3, none⟩ = some (.int .u64 (a0c.2.2.2.toNat : Int)) := fun p => p.h.2.1.2.2.2
  have pd0 : ∀ p : Kp (S2 w w.heap.size (w.heap.size + 1) a0c a1c), p.W.cell? ⟨(w.heap.size + 1), 0, none⟩ = some (.int .u64 (a1c.1.toNat : Int)) := fun p => p.h.2.2.1
  have pd1 : ∀ p : Kp (S2 w w.heap.size (w.heap.size + 1) a0c a1c), p.W.cell? ⟨(w.heap.size + 1), 1, none⟩ = some (.int .u64 (a1c.2.1.toNat : Int)) := fun p => p.h.2.2.2.1
  have pd2 : ∀ p : Kp (S2 w w.heap.size (w.heap.size + 1) a0c a1c), p.W.cell? ⟨(w.heap.size + 1), 2, none⟩ = some (.int .u64 (a1c.2.2.1.toNat : Int)) := fun p => p.h.2.2.2.2.1
  have pd3 : ∀ p : Kp (S2 w w.heap.size (w.heap.size + 1) a0c a1c), p.W.cell? ⟨(w.heap.size + 1), 3, none⟩ = some (.int .u64 (a1c.2.2.2.toNat : Int)) := fun p => p.h.2.2.2.2.2
  have hne : Nonempty (Kp (S2 w w.heap.size (w.heap.size + 1) a0c a1c)) := ⟨⟨_, S1⟩⟩
  refine wp_region_kept mixed (by kernel_rfl) S1 ?_
  clear S1
  repeat (go_big_quiet_step (first | (go_at_call 14; exact Kp.calls _ S2.next (join_any _ _ _)) | (go_at_call 16; exact Kp.calls _ S2.next (meet_any _ _ _)) | (go_at_call 18; exact Kp.calls _ S2.next (not_any _ _)) | (go_at_call 20; exact Kp.calls_lays _ S2.next (count_any _ _))))
  refine wpQuiet_nil ?_
  intro W1 hw1
  obtain ⟨⟨W1, HS⟩, rfl⟩ := hw1
  obtain ⟨HB, ⟨c0, c1, c2, c3⟩, _⟩ := HS
  clear pc0 pc1 pc2 pc3 pd0 pd1 pd2 pd3 hne
  have hWlt : w.heap.size < W1.heap.size := World.block_lt_of_cell? W1 ⟨w.heap.size, 0, none⟩ c0
  have HB' : Hid (Below w.heap.size w W1) := HB
  clear HB
  go_wp2_with fail
  refine (bytes_any a0c _).mono ?_
  rintro e W2 ⟨rfl, hb2⟩
  generalize (.agg #[.int .u64 ((join a0c a1c).1.toNat : Int), .int .u64 ((join a0c a1c).2.1.toNat : Int), .int .u64 ((join a0c a1c).2.2.1.toNat : Int), .int .u64 ((join a0c a1c).2.2.2.toNat : Int)] : Value) = j1
  generalize (.agg #[.int .u64 ((meet a0c a1c).1.toNat : Int), .int .u64 ((meet a0c a1c).2.1.toNat : Int), .int .u64 ((meet a0c a1c).2.2.1.toNat : Int), .int .u64 ((meet a0c a1c).2.2.2.toNat : Int)] : Value) = j2
  generalize (.agg #[.int .u64 ((neg a0c).1.toNat : Int), .int .u64 ((neg a0c).2.1.toNat : Int), .int .u64 ((neg a0c).2.2.1.toNat : Int), .int .u64 ((neg a0c).2.2.2.toNat : Int)] : Value) = j3
  generalize (.agg #[.int .u64 (a1c.1.toNat : Int), .int .u64 (a1c.2.1.toNat : Int), .int .u64 (a1c.2.2.1.toNat : Int), .int .u64 (a1c.2.2.2.toNat : Int)] : Value) = j4
  have hs2 := hb2.size
  simp at hs2
  have hc2 : W2.heap[w.heap.size]? = W1.heap[w.heap.size]? := (hb2.block _ (by simp; omega)).trans (Below.heap_alloc _ _ _ hWlt)
  have hg2 : W2.heap[W1.heap.size]? = some (.cells #[.int .u64 (empty.1.toNat : Int), .int .u64 (empty.2.1.toNat : Int), .int .u64 (empty.2.2.1.toNat : Int), .int .u64 (empty.2.2.2.toNat : Int)] 24) := (hb2.block _ (by simp)).trans (block_new W1 _)
  have hB2 : Below w.heap.size w W2 := (HB'.out.alloc HB'.out.size _).trans (hb2.mono (by have := HB'.out.size; simp; omega))
  obtain ⟨cap, W3, hconv, hcell, hb3, hlt3⟩ := bytes_made W2 ⟨(Cls.bytes a0c).toArray⟩
  rw [bytes_size] at hconv hcell
  have hc3 : W3.heap[w.heap.size]? = W1.heap[w.heap.size]? := (hb3.block _ (by omega)).trans hc2
  have hg3 : W3.heap[W1.heap.size]? = some (.cells #[.int .u64 (empty.1.toNat : Int), .int .u64 (empty.2.1.toNat : Int), .int .u64 (empty.2.2.1.toNat : Int), .int .u64 (empty.2.2.2.toNat : Int)] 24) := (hb3.block _ (by omega)).trans hg2
  have hB3 : Below w.heap.size w W3 := hB2.trans (hb3.mono (by omega))
  have HC : Hid (∀ j, j < count a0c → W3.cell? ⟨W2.heap.size, j, none⟩ = some (.int .u8 (nth a0c j : Int))) := fun j hj => by
    rw [hcell j hj]
    have := bytes_nth a0c j hj
    have e : (ByteArray.mk (Cls.bytes a0c).toArray).data.toList.getD j 0 = (Cls.bytes a0c).getD j 0 := by simp
    rw [e, this]
  have HF : Hid (W3.heap[w.heap.size]? = W1.heap[w.heap.size]? ∧ W3.heap[W1.heap.size]? = some (.cells #[.int .u64 (empty.1.toNat : Int), .int .u64 (empty.2.1.toNat : Int), .int .u64 (empty.2.2.1.toNat : Int), .int .u64 (empty.2.2.2.toNat : Int)] 24) ∧ Below w.heap.size w W3) := ⟨hc3, hg3, hB3⟩
  have HCC : Hid (W1.cell? ⟨w.heap.size, 0, none⟩ = some (.int .u64 (a0c.1.toNat : Int)) ∧ W1.cell? ⟨w.heap.size, 1, none⟩ = some (.int .u64 (a0c.2.1.toNat : Int)) ∧ W1.cell? ⟨w.heap.size, 2, none⟩ = some (.int .u64 (a0c.2.2.1.toNat : Int)) ∧ W1.cell? ⟨w.heap.size, 3, none⟩ = some (.int .u64 (a0c.2.2.2.toNat : Int))) := ⟨c0, c1, c2, c3⟩
  clear hcell hc2 hg2 hB2 hb3 hc3 hg3 hB3 hb2 c0 c1 c2 c3
  have hcle := count_le a0c
  go_wp2_with fail
  go_loopw [6, 37] (fun z i wr => ∃ (k : Nat) (L : Int) (g : Cl), k ≤ count a0c ∧ i = .int .i64 (k : Int) ∧ z = .int .i64 L ∧ Hid (-1 ≤ L ∧ (k < count a0c → L < (nth a0c k : Int)) ∧ (∀ x, x < 256 → (mem g x = true ↔ ∃ j, j < k ∧ nth a0c j = x))) ∧
      Hid (wr.heap[w.heap.size]? = W1.heap[w.heap.size]? ∧ wr.heap[W1.heap.size]? = some (.cells #[.int .u64 (g.1.toNat : Int), .int .u64 (g.2.1.toNat : Int), .int .u64 (g.2.2.1.toNat : Int), .int .u64 (g.2.2.2.toNat : Int)] 24) ∧ wr.heap[W2.heap.size]? = W3.heap[W2.heap.size]? ∧ Below w.heap.size w wr ∧ W3.heap.size ≤ wr.heap.size)) (fun _ i _ => count a0c - (intOf i).toNat)
  case atStart => exact ⟨0, -1, empty, by omega, rfl, rfl, ⟨by omega, fun _ => by omega, fun x _ => by rw [mem_empty]; simp⟩, ⟨HF.out.1, HF.out.2.1, rfl, HF.out.2.2, Nat.le_refl _⟩⟩
  case round =>
    obtain ⟨k, L, g, hk, rfl, rfl, HM, HW⟩ := hrel
    obtain ⟨k1, k2, k3, k4, k5⟩ := HW.out
    have q0 : wr.cell? ⟨w.heap.size, 0, none⟩ = some (.int .u64 (a0c.1.toNat : Int)) := (World.cell?_of_block (w := W1) k1).trans HCC.out.1
    have q1 : wr.cell? ⟨w.heap.size, 1, none⟩ = some (.int .u64 (a0c.2.1.toNat : Int)) := (World.cell?_of_block (w := W1) k1).trans HCC.out.2.1
    have q2 : wr.cell? ⟨w.heap.size, 2, none⟩ = some (.int .u64 (a0c.2.2.1.toNat : Int)) := (World.cell?_of_block (w := W1) k1).trans HCC.out.2.2.1
    have q3 : wr.cell? ⟨w.heap.size, 3, none⟩ = some (.int .u64 (a0c.2.2.2.toNat : Int)) := (World.cell?_of_block (w := W1) k1).trans HCC.out.2.2.2
    obtain ⟨⟨g0, g1, g2, g3⟩, _⟩ := block4 k2
    have HBw : Hid (Below w.heap.size w wr) := k4
    clear k1 k2 k3 k4
    by_cases hlt : k < count a0c
    · obtain ⟨x, HX⟩ : ∃ x, Hid (nth a0c k = x) := ⟨_, rfl⟩
      have hcx : wr.cell? ⟨W2.heap.size, k, none⟩ = some (.int .u8 (x : Int)) := by rw [← HX.out]; exact (World.cell?_of_block (w := W3) HW.out.2.2.1).trans (HC.out k hlt)
      have hx := nth_mem a0c k hlt
      rw [HX.out] at hx
      obtain ⟨hx1, hx2⟩ := hx
      have hL : L < (x : Int) := by rw [← HX.out]; exact HM.out.2.1 hlt
      go_wp2_with fail
      refine (has_any a0c _ x rfl hx1 _).mono ?_
      rintro e W4 ⟨rfl, hl4⟩
      rw [hx2]
      have hb4 := hl4.below
      have F0 : RF w.heap.size w W1.heap.size W1.heap.size g W4 := by
        have hs := hb4.size
        have hB := HBw.out.size
        exact ⟨HBw.out.trans (hb4.mono hB), by omega, by omega, (hb4.cell (by simp; omega)).trans g0, (hb4.cell (by simp; omega)).trans g1, (hb4.cell (by simp; omega)).trans g2, (hb4.cell (by simp; omega)).trans g3, g, (hb4.block _ (by omega)).trans HW.out.2.1⟩
      have HW4 : Hid (W4.heap[w.heap.size]? = W1.heap[w.heap.size]? ∧ W4.heap[W2.heap.size]? = W3.heap[W2.heap.size]? ∧ W3.heap.size ≤ W4.heap.size) :=
        ⟨(hb4.block _ (by omega)).trans HW.out.1, (hb4.block _ (by omega)).trans HW.out.2.2.1, Nat.le_trans k5 hb4.size⟩
      clear hb4 hl4 q0 q1 q2 q3 g0 g1 g2 g3 hcx HBw
      have F1 := F0.drew
      have q0 := F0.q0
      have q1 := F0.q1
      have q2 := F0.q2
      have q3 := F0.q3
      go_wp2_with fail
      have HR : Hid (∀ W, Calls Try.prog 10 #[.int .i64 (x : Int), .int .i64 (x : Int)] W fun e w' => e = .returned (.agg #[.int .u64 ((range (x : Int) (x : Int)).1.toNat : Int), .int .u64 ((range (x : Int) (x : Int)).2.1.toNat : Int), .int .u64 ((range (x : Int) (x : Int)).2.2.1.toNat : Int), .int .u64 ((range (x : Int) (x : Int)).2.2.2.toNat : Int)]) ∧ Below W.heap.size W w') := fun W => range_any (x : Int) (x : Int) (by omega) (by omega) (by omega) W
      have hwx := wrap_i64 (x : Int) (by omega) (by omega)
      clear HCC HF hconv hw1 hw2 hw3 HT
      have p0 : ∀ p : Kp (RS w W1 W2 W3 g), p.W.cell? ⟨W1.heap.size, 0, none⟩ = some (.int .u64 (g.1.toNat : Int)) := fun p => p.h.1.q0
      have p1 : ∀ p : Kp (RS w W1 W2 W3 g), p.W.cell? ⟨W1.heap.size, 1, none⟩ = some (.int .u64 (g.2.1.toNat : Int)) := fun p => p.h.1.q1
      have p2 : ∀ p : Kp (RS w W1 W2 W3 g), p.W.cell? ⟨W1.heap.size, 2, none⟩ = some (.int .u64 (g.2.2.1.toNat : Int)) := fun p => p.h.1.q2
      have p3 : ∀ p : Kp (RS w W1 W2 W3 g), p.W.cell? ⟨W1.heap.size, 3, none⟩ = some (.int .u64 (g.2.2.2.toNat : Int)) := fun p => p.h.1.q3
      have hne : Nonempty (Kp (RS w W1 W2 W3 g)) := ⟨⟨_, F1, HW4.out⟩⟩
      have hnx : ∀ W W', RS w W1 W2 W3 g W → Below W.heap.size W W' → RS w W1 W2 W3 g W' := RS.next hWlt hs2 hlt3
      have hS0 : RS w W1 W2 W3 g W4.drew := ⟨F1, HW4.out⟩
      clear F0 F1 HW4 q0 q1 q2 q3
      refine wp_region_tail [_, _, _, _, _, _, _] _ rfl mixed (by kernel_rfl) hS0 ?_
      simp only [List.cons_append, List.nil_append]
      repeat (go_big_quiet_step (first | (go_at_call 10; with_reducible exact Kp.calls _ hnx (HR.out _)) | (go_at_call 14; exact Kp.calls _ hnx (join_any g (range (x : Int) (x : Int)) _))))
      refine wpQuiet_nil ?_
      intro p
      have HP := p.h
      clear p0 p1 p2 p3
      generalize p.W = W6 at HP ⊢
      clear p
      obtain ⟨F6, hc6, hr6, hz6⟩ := HP
      obtain ⟨dz, hdz⟩ := F6.zz
      obtain ⟨⟨z0, z1, z2, z3⟩, y0, y1, y2, y3⟩ := block4 hdz
      have HW6 : Hid (W6.heap[w.heap.size]? = W1.heap[w.heap.size]? ∧ W6.heap[W2.heap.size]? = W3.heap[W2.heap.size]? ∧ W3.heap.size ≤ W6.heap.size) := ⟨hc6, hr6, hz6⟩
      clear hne hnx hS0 hc6 hr6 hz6 hwx HR
      go_simp
      go_wp2_with fail
      go_roundw
      case rel =>
        try refine ⟨_, _, _, _, _, _, _, _, _, _, _, _, _, _, _, _, _, _, _, _, _, _, _, _, _, _, _, ?_, rfl⟩
        refine ⟨k + 1, (x : Int), join g (range (x : Int) (x : Int)), by omega, by go_num, rfl, ⟨by omega, fun h => ?_, fun y hy => ?_⟩, ⟨(other4 (by omega) _ _ _ _).trans HW6.out.1, store4 hdz _, (other4 (by omega) _ _ _ _).trans HW6.out.2.1, below4 F6.below (by omega) _ _ _ _, by rw [size4]; exact HW6.out.2.2⟩⟩
        · rw [← HX.out]; have := nth_rise a0c k (k + 1) (by omega) h; omega
        · rw [mem_join, mem_range _ _ _ hy, Bool.or_eq_true, HM.out.2.2 y hy]
          simp only [Bool.and_eq_true, decide_eq_true_eq]
          constructor
          · rintro (⟨j, hj, e⟩ | ⟨e1, e2⟩)
            · exact ⟨j, by omega, e⟩
            · exact ⟨k, by omega, by rw [HX.out]; omega⟩
          · rintro ⟨j, hj, e⟩
            by_cases ej : j = k
            · right; subst ej; rw [HX.out] at e; omega
            · left; exact ⟨j, by omega, e⟩
      case measure => simp [intOf]; omega
    · have e : k = count a0c := by omega
      subst e
      have eg : g = a0c := ext_mem fun x hx => by
        cases hm : mem a0c x with
        | true =>
          obtain ⟨j, hj, e⟩ := nth_all a0c x hx hm
          exact (HM.out.2.2 x hx).2 ⟨j, hj, e⟩
        | false =>
          cases hg : mem g x with
          | false => rfl
          | true =>
            obtain ⟨j, hj, e⟩ := (HM.out.2.2 x hx).1 hg
            rw [← e, (nth_mem a0c j hj).2] at hm; cases hm
      subst eg
      have hq := eqIn24
      have hgd := guard24
      have h77 : mem (range 7 7) 7 = true := by decide
      clear HM HC HF HCC hw1 hw2 hw3
      go_wp2_with (first
        | (go_at_call 10; refine (range_any 7 7 (by omega) (by omega) (by omega) _).mono ?_; rintro e W5 ⟨rfl, hb5⟩)
        | (go_at_call 13; refine (has_any (range 7 7) 7 7 rfl (by omega) _).mono ?_; rintro e W6 ⟨rfl, hl6⟩))
      go_ret
      exact ⟨ret_bool h77, HBw.out.trans ((hb5.mono HBw.out.size).trans (hl6.below.mono (Nat.le_trans HBw.out.size hb5.size)))⟩

/-! ### What the walk gives, for every argument -/
set_option maxRecDepth 100000 in
theorem contract (H : Type) (enc : TypeId × Value → H) (W : World) (base : Nat) (args : Array Value) (ds gs : List (DataW H)) (before : List MemPlace)
    (hval : ∀ (j : Nat) t v, Try.f6.params[j]? = some t → args[j]? = some v → Value.okWide Try.prog W .any base t v)
    (hW : DataW.Whole enc Try.prog Try.f6.params.toList Rows.classSizesSpec.vars false W args.toList ds gs before) (hsz : (DataW.weightsEach Try.prog (Try.f6.params.toList ++ Rows.classSizesSpec.plain.varTypes Try.prog) (ds ++ gs)).all (· ≤ reachBytes) = true) :
    Calls Try.prog 6 args W fun e W' => ∃ v, e = .returned v ∧ Rows.classSizesSpec.post enc Try.prog Try.f6 false true false false W args v W' := by
  have hW' := hW
  obtain ⟨p, q, hA0, hV, rfl, hfz, hnd⟩ := hW
  have hA : DataW.TrodAll enc Try.prog W 0 (fun _ => true) true Try.f6.params.toList args.toList ds p := hA0
  rw [Try.params6] at hA hval hsz
  obtain ⟨v0, vs0, d0, ds0, p0, q0, hargs, rfl, rfl, h0, r0⟩ := trodAll_cons hA
  obtain ⟨v1, vs1, d1, ds1, p1, q1, rfl, rfl, rfl, h1, r1⟩ := trodAll_cons r0
  obtain ⟨rfl, rfl, rfl⟩ := trodAll_nil r1
  obtain rfl : args = #[v0, v1] := by cases args; simp_all
  obtain ⟨rfl, rfl⟩ := trodVars_none hV
  have k0 := h0
  have lt0 : ∀ x ∈ p0, x.block < W.heap.size := by obtain ⟨m, hm⟩ := k0; exact DataW.trod_lt m _ _ _ hm
  obtain ⟨a0c, rfl⟩ := open_class (hval 0 24 v0 rfl rfl) h0
  have k1 := h1
  have lt1 : ∀ x ∈ p1, x.block < W.heap.size := by obtain ⟨m, hm⟩ := k1; exact DataW.trod_lt m _ _ _ hm
  obtain ⟨a1c, rfl⟩ := open_class (hval 1 24 v1 rfl rfl) h1
  clear hA0
  refine (walk a0c a1c W ).mono fun e W' ⟨he, bel⟩ => ?_
  subst he
  exact ⟨_, rfl, _, _, _, [], _, [], hW', trodAll_mk1 (shut_bool Try.underlying4 _), (trodAll_cons_mk (Below.trod laidOut (by kernel_rfl) (of_decide_eq_true (by kernel_rfl)) k0 bel lt0) (trodAll_cons_mk (Below.trod laidOut (by kernel_rfl) (of_decide_eq_true (by kernel_rfl)) k1 bel lt1) trodAll_mk0)), rfl, bel.frame _, fun h => by cases h⟩

/-! ### The row's step -/
set_option maxRecDepth 100000 in
theorem lifted (os : Os) (started : os.Started) (H : Type) (enc : TypeId × Value → H) :
    ReturnsInHanded {} Try.checked os 6 .any (Rows.classSizesSpec.pre6 enc Try.prog Try.f6 Rows.classSizesRow.domain false) (Rows.classSizesSpec.post enc Try.prog Try.f6 false true false false) := by
  refine returnsInHanded_of_change_sized (C := Try.checked) own started (by kernel_rfl) Try.func6
    (ChangeSpec.witness6 (enc := enc) (C := Try.checked) false ⟨#[], #[.agg #[.int .u64 0, .int .u64 0, .int .u64 0, .int .u64 0], .agg #[.int .u64 0, .int .u64 0, .int .u64 0, .int .u64 0]], []⟩ 8 (by kernel_rfl) (by kernel_rfl) (by kernel_rfl) (by kernel_rfl)) ?_
  intro W base args ds gs before hval hW hcnd hsz _
  exact contract H enc W base args ds gs before hval hW hsz

theorem over : Rows.classSizesRow.holds Try.pinned (OpenSpec.ofChange Rows.classSizesSpec) :=
  OpenClaim.holds_of_wide 6 Try.f6 rfl rfl rfl rfl rfl rfl rfl ⟨rfl, rfl, rfl, rfl, rfl⟩ rfl rfl rfl rfl rfl (by kernel_rfl) Try.func6 (by kernel_rfl)
    (of_decide_eq_true (by kernel_rfl)) (by unfold Func.isWrapper; first | (rw [if_pos (by decide +kernel)]; kernel_rfl) | (rw [if_neg (by decide +kernel)]; exact ⟨rfl, rfl⟩))
    (fun os started H enc _ => lifted os started H enc)

end Go.Proofs.Ytgoejdakmbpcmaa.classSizes
namespace Go.Proofs.Ytgoejdakmbpcmaa
/-- The given statement. -/
theorem classSizes_holds : Rows.ClassSizesSaid := classSizes.over
#print axioms classSizes_holds
end Go.Proofs.Ytgoejdakmbpcmaa
