/-
  The contracts of rex.parser's seen and pass; what a parser is in memory.
-/
import Derived.Test.YthloedfiomfnbaaPar
import Derived.Test.YthloedfiomfnbaaClasses
import Derived.Test.YthloedfiomfnbaaKids
import Derived.Test.YthloedfiomfnbaaRefChar
namespace Go.Proofs.Ythloedfiomfnbaa
open Go.RowKit
open Cls Txt

/-- A parser in memory: its text, where it is, how many brackets are open. -/
def Ps (g : Nat) (s : ByteArray) (i : Nat) (k : Value) (W : World) : Prop := W.heap[g]? = some (.cells #[.string s, .int .i64 (i : Int), k] 51)
theorem Ps.cells {g : Nat} {s : ByteArray} {i : Nat} {k : Value} {W : World} (h : Ps g s i k W) : (W.cell? ⟨g, 0, none⟩ = some (.string s) ∧ W.cell? ⟨g, 1, none⟩ = some (.int .i64 (i : Int)) ∧ W.cell? ⟨g, 2, none⟩ = some k) ∧ W.frozen? ⟨g, 0, none⟩ = false ∧ W.frozen? ⟨g, 1, none⟩ = false ∧ W.frozen? ⟨g, 2, none⟩ = false := by
  unfold Ps at h
  refine ⟨⟨?_, ?_, ?_⟩, ?_, ?_, ?_⟩ <;> simp [World.cell?, World.frozen?, h]
theorem Ps.lt {g : Nat} {s : ByteArray} {i : Nat} {k : Value} {W : World} (h : Ps g s i k W) : g < W.heap.size := by
  unfold Ps at h
  exact (Array.getElem?_eq_some_iff.1 h).1
theorem Ps.next {g : Nat} {s : ByteArray} {i : Nat} {k : Value} {W W' : World} (h : Ps g s i k W) (hb : Below W.heap.size W W') : Ps g s i k W' := (hb.block g h.lt).trans h
theorem Ps.set1 {g : Nat} {s : ByteArray} {i : Nat} {k : Value} {W : World} (h : Ps g s i k W) (j : Nat) : Ps g s j k (W.setCell ⟨g, 1, none⟩ (.int .i64 (j : Int))) := by
  unfold Ps at h ⊢
  simp only [World.setCell, Array.getElem?_modify, if_true, h]
  rfl
theorem Ps.set2 {g : Nat} {s : ByteArray} {i : Nat} {k : Value} {W : World} (h : Ps g s i k W) (v : Value) : Ps g s i v (W.setCell ⟨g, 2, none⟩ v) := by
  unfold Ps at h ⊢
  simp only [World.setCell, Array.getElem?_modify, if_true, h]
  rfl
theorem grown_set (w : World) (a : Addr) (u : Value) : w.grownBy (w.setCell a u) (some a.block) :=
  ⟨rfl, rfl, rfl, by simp, fun i _ hne => Below.heap_setCell _ _ _ _ (fun e => hne (by rw [e]))⟩

set_option maxHeartbeats 400000 in
theorem seen_any (g : Nat) (s : ByteArray) (i : Nat) (k : Value) (w : World) (hP : Ps g s i k w) (hi : i ≤ s.size) :
    Calls Try.prog 54 #[.pointer (some ⟨g, 0, none⟩)] w fun e w' => e = .returned (.int .u8 (bt s i : Int)) ∧ Below w.heap.size w w' := by
  obtain ⟨⟨c0, c1, _⟩, f0, f1, _⟩ := hP.cells
  go_enter Try.func54, Try.ntmps54
  by_cases h : i = s.size
  · have HB : Hid (bt s i = 0) := by show _ = _; unfold bt; rw [dif_neg (by omega)]
    have hb : ((i : Int) == (s.size : Int)) = true := by simp [h]
    clear h
    go_wp2_with (go_quiet (fail))
    go_ret
    exact ⟨by rw [HB.out]; rfl, below_drewN (Below.refl _ _) _⟩
  · have hlt : i < s.size := by omega
    have hb : ((i : Int) == (s.size : Int)) = false := by simp; omega
    have HB : Hid (bt s i = s[i].toNat) := by show _ = _; unfold bt; rw [dif_pos hlt]
    clear h
    go_wp2_with (go_quiet (fail))
    go_ret
    exact ⟨by rw [HB.out]; rfl, below_drewN (below_drewN (Below.refl _ _) _) _⟩
theorem grown_below {w w' : World} (h : Below w.heap.size w w') (o : Option Nat) : w.grownBy w' o := ⟨h.os, h.tape, h.output, h.size, fun k hk _ => h.block k hk⟩
theorem grown_trans {a b c : World} {row : Option Nat} (h : a.grownBy b row) (k : b.grownBy c row) : a.grownBy c row :=
  ⟨k.os.trans h.os, k.tape.trans h.tape, k.output.trans h.output, Nat.le_trans h.size k.size, fun i hi hne => (k.block i (Nat.lt_of_lt_of_le hi h.size) hne).trans (h.block i hi hne)⟩

set_option maxHeartbeats 400000 in
theorem pass_any (g : Nat) (s : ByteArray) (i : Nat) (k : Value) (b : Nat) (w : World) (hP : Ps g s i k w) (hi : i ≤ s.size) (hs : s.size ≤ 300) :
    Calls Try.prog 36 #[.pointer (some ⟨g, 0, none⟩), .int .u8 (b : Int)] w fun e w' => e = .returned (.bool (decide (bt s i = b))) ∧ Ps g s (if bt s i = b then i + 1 else i) k w' ∧ w.grownBy w' (some g) := by
  have hseen := seen_any g s i k w hP hi
  obtain ⟨x, HX⟩ : ∃ x, Hid (bt s i = x) := ⟨_, (rfl : bt s i = bt s i)⟩
  rw [HX.out] at hseen ⊢
  go_enter Try.func36, Try.ntmps36
  by_cases h : x = b
  · have hb : ((x : Int) == (b : Int)) = true := by simp [h]
    rw [if_pos h, decide_eq_true h]
    clear h
    go_upto_region 2 with (go_at_call 54; refine hseen.mono ?_; rintro _ w1 ⟨rfl, hb1⟩)
    have hP1 := hP.next hb1
    obtain ⟨⟨_, c1, _⟩, _, f1, _⟩ := hP1.cells
    have HG : Hid (w.grownBy w1 (some g)) := grown_below hb1 _
    clear hb1 hseen
    go_wp2_with fail
    go_ret
    refine ⟨rfl, ?_, grown_trans HG.out (grown_set _ _ _)⟩
    have := hP1.set1 (i + 1)
    simpa using this
  · have hb : ((x : Int) == (b : Int)) = false := by simp; omega
    rw [if_neg h, decide_eq_false h]
    clear h
    go_upto_region 2 with (go_at_call 54; refine hseen.mono ?_; rintro _ w1 ⟨rfl, hb1⟩)
    have hP1 := hP.next hb1
    have HG : Hid (w.grownBy w1 (some g)) := grown_below hb1 _
    clear hb1 hseen
    go_wp2_with fail
    go_ret
    exact ⟨rfl, hP1, HG.out⟩
end Go.Proofs.Ythloedfiomfnbaa
