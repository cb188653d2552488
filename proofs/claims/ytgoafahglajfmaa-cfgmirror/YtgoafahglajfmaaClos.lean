/-
  The contracts of the closure of pushkeep.CfgMirror where it is false, of slices.IndexFunc and ContainsFunc with it.
-/
import Derived.Test.YtgoafahglajfmaaSame
import Derived.Shelf.Abstract
namespace Go.Proofs.Ytgoafahglajfmaa
open Go.RowKit
open Cg

set_option maxHeartbeats 3200000 in
set_option maxRecDepth 20000 in
theorem clos13 (z np g nb b o pc : Nat) (x : Int) (hz : z < np) (w : World) (h2 : w.cell? ⟨g, 2, none⟩ = some (.slice (some ⟨b, o, none⟩) np pc)) (h3 : w.cell? ⟨b, o + z * 2, none⟩ = some (.int .i64 x)) (h4 : w.cell? ⟨nb, 0, none⟩ = some (.int .i64 x)) :
    Calls Try.prog 13 #[.int .i64 (z : Int), .pointer (some ⟨g, 0, none⟩), .pointer (some ⟨nb, 0, none⟩)] w fun e w' => e = .returned (.bool false) ∧ Below w.heap.size w w' := by
  have b1 : decide ((z : Int) < 0) = false := by simp
  have b2 : decide ((np : Int) ≤ (z : Int)) = false := by simp; omega
  have b3 : (x != x) = false := by simp
  have hz1 : (z : Int) < (np : Int) := by omega
  have hz0 : (0 : Int) ≤ (z : Int) := by omega
  go_enter Try.func13, Try.ntmps13
  go_wp2_with (go_quiet (fail))
  go_ret
  exact ⟨by simp; omega, below_drewN (Below.refl _ _) nq⟩
set_option maxHeartbeats 3200000 in
set_option maxRecDepth 20000 in
theorem indexF_none (v : Value) (l : List Int) (p1 p2 : Value) (w : World) (h : Ints w v l) (hp : ∀ (W : World) (i : Nat) (hi : i < l.length), Below w.heap.size w W → Calls Try.prog 13 #[.int .i64 l[i], p1, p2] W fun e w' => e = .returned (.bool false) ∧ Below W.heap.size W w') :
    Calls Try.prog 19 #[v, .func (.func 13) #[] #[p1, p2]] w fun e w' => e = .returned (.int .i64 (-1)) ∧ Below w.heap.size w w' := by
  have HP : Hid (∀ (W : World) (i : Nat) (hi : i < l.length), Below w.heap.size w W → Calls Try.prog 13 #[.int .i64 l[i], p1, p2] W fun e w' => e = .returned (.bool false) ∧ Below W.heap.size W w') := hp
  clear hp
  obtain ⟨ao, cap, rfl, hm, hcs⟩ := h
  have he13 := enters_of Try.func13 (by kernel_rfl) rfl
  go_enter Try.func19, Try.ntmps19
  go_wp2_with fail
  go_loopw [8] (fun i wr => ∃ q : Nat, q ≤ l.length ∧ i = .int .i64 (q : Int) ∧ Below w.heap.size w wr) (fun i _ => l.length - (intOf i).toNat)
  case atStart => exact ⟨0, by omega, rfl, Below.refl _ _⟩
  case round =>
    obtain ⟨q, hq, rfl, hbel⟩ := hrel
    by_cases hlt : q < l.length
    · obtain ⟨b, o, rfl, hb, hc⟩ := hcs.resolve_left (by intro e; subst e; simp at hlt)
      have c0 := (hbel.cell (p := ⟨b, o + q, none⟩) hb).trans (hc q hlt)
      have hcall := HP.out wr q hlt hbel
      generalize l[q] = z at c0 hcall
      have hk1 : (q : Int) < (l.length : Int) := by omega
      have HB0 : Hid (Below w.heap.size w wr) := hbel
      clear hcs hc hbel
      go_wp2_with fail
      refine hcall.mono ?_
      rintro _ w1 ⟨rfl, hb1⟩
      have HB1 : Hid (Below w.heap.size w w1) := HB0.out.trans (hb1.mono HB0.out.size)
      clear hb1 hcall c0
      go_wp2_with fail
      go_roundw
      case rel => exact ⟨q + 1, by omega, by go_num, HB1.out⟩
      case measure => simp [intOf]; omega
    · have HB0 : Hid (Below w.heap.size w wr) := hbel
      go_wp2_with fail
      go_ret
      exact ⟨by simp, HB0.out⟩
set_option maxHeartbeats 3200000 in
set_option maxRecDepth 20000 in
theorem containsF_none (v : Value) (l : List Int) (p1 p2 : Value) (w : World) (h : Ints w v l) (hp : ∀ (W : World) (i : Nat) (hi : i < l.length), Below w.heap.size w W → Calls Try.prog 13 #[.int .i64 l[i], p1, p2] W fun e w' => e = .returned (.bool false) ∧ Below W.heap.size W w') :
    Calls Try.prog 12 #[v, .func (.func 13) #[] #[p1, p2]] w fun e w' => e = .returned (.bool false) ∧ Below w.heap.size w w' := by
  have hc := indexF_none v l p1 p2 w h hp
  obtain ⟨ao, cap, rfl, hm, hcs⟩ := h
  clear hp hcs
  go_enter Try.func12, Try.ntmps12
  go_wp2_with fail
  refine hc.mono ?_
  rintro _ w1 ⟨rfl, hb1⟩
  have HB : Hid (Below w.heap.size w w1) := hb1
  clear hc hb1
  go_wp2_with fail
  go_ret
  exact ⟨by simp, HB.out⟩
end Go.Proofs.Ytgoafahglajfmaa
