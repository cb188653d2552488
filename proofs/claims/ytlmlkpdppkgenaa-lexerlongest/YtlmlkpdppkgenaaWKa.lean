/-
  The plain mathematics of automata: which are right, and where a text leads. What an automaton is that is handed in: its rows of 256 numbers, its tags. No function is walked here. The contracts of package dfa's Check, Run, Tag and of what they call, for whatever automaton and text. The contract of dfa.areStates: it answers whether each number of these rows is none or a state's. The contracts of dfa.Check, dfa.run, dfa.Run and dfa.Tag. The plain mathematics of a packed automaton: which are right. What a packed automaton is that is handed in: 256 numbers of columns, rows of numbers, tags. No function is walked here. The contracts of small.areUpTo, small.areStates, slices.Max at bytes, small.areColumns. The contracts of small.areColumns and small.Check. The contract of the document's own answer: pushref.RightPacked. A region that draws its order, whose operations only read and whose callees leave what lay below the heap's end: one walk in the order of the text serves, whatever is held of the world. No function is walked here. A region that draws its order, by what holds whichever of its operations are done: each operation is run once, from what those ahead of it have left. No function is walked here. As before, of a region some of whose edges bind other orders than ours: those are passed by. No function is walked here. A region that draws its order, whose operations but the last one only read, whose callees leave what is held of the world, and whose last one waits for all others: one walk in the order of the text serves, and then the last one. No function is walked here.
-/
import Derived.Test.YtlmlkpdppkgenaaRows
import Derived.WalkKit
import Derived.ProofKit
import Derived.OpenShut
import Derived.Carry
import Derived.Below
import Derived.Deep.Slices
import Derived.Deep.Strs
import Derived.Lib.SmallJoins
import Derived.Deep.MidRow
import Derived.Deep.WholeRow
import Derived.OwnWalk
import Derived.Deep.QuietTactic
import Derived.BigQuiet
import Derived.WalkSmall
import Derived.Deep.RegionHeld
set_option maxRecDepth 20000
namespace Go.Proofs.Ytlmlkpdppkgenaa.Pk.Dfa

/-- Is a number none, or a state's? -/
def numOk (n : Nat) (x : Int) : Bool := decide (-1 ≤ x) && decide (x < (n : Int))
def rowOk (n : Nat) (f : Nat → Int) : Bool := (List.range 256).all fun j => numOk n (f j)
def rowsOk (n : Nat) (R : Nat → Nat → Int) : Bool := (List.range n).all fun i => rowOk n (R i)
def tagOk (x : Int) : Bool := decide (-1 ≤ x) && decide (x < 20)
def tagsOk (m : Nat) (T : Nat → Int) : Bool := (List.range m).all fun i => tagOk (T i)
/-- What Check answers. -/
def chk (n m : Nat) (R : Nat → Nat → Int) (T : Nat → Int) : Int :=
  if 200 < n then 2 else if n = 0 ∨ m ≠ n then 1 else if rowsOk n R = true ∧ tagsOk m T = true then 0 else 1

theorem all_true {n : Nat} {p : Nat → Bool} (h : ∀ i, i < n → p i = true) : (List.range n).all p = true := by
  rw [List.all_eq_true]; intro x hx; exact h x (by simpa using hx)
theorem all_false {n : Nat} {p : Nat → Bool} {i : Nat} (hi : i < n) (h : p i = false) : (List.range n).all p = false := by
  rw [List.all_eq_false]; exact ⟨i, by simpa using hi, by simp [h]⟩
theorem all_at {n : Nat} {p : Nat → Bool} (h : (List.range n).all p = true) (i : Nat) (hi : i < n) : p i = true := by
  rw [List.all_eq_true] at h; exact h i (by simpa using hi)

/-- One byte on. -/
def step (R : Nat → Nat → Int) (s : Int) (b : UInt8) : Int := if s < 0 then s else R s.toNat b.toNat
def goes (R : Nat → Nat → Int) (s : Int) (l : List UInt8) : Int := l.foldl (step R) s
theorem goes_append (R : Nat → Nat → Int) (s : Int) (l m : List UInt8) : goes R s (l ++ m) = goes R (goes R s l) m := by simp [goes]
theorem goes_neg (R : Nat → Nat → Int) (s : Int) (h : s < 0) (l : List UInt8) : goes R s l = s := by
  induction l with
  | nil => rfl
  | cons b l ih => simp only [goes, List.foldl_cons] at *; rw [show step R s b = s by simp [step, h]]; exact ih
theorem goes_snoc (R : Nat → Nat → Int) (s : Int) (l : List UInt8) (b : UInt8) : goes R s (l ++ [b]) = step R (goes R s l) b := by simp [goes]
/-- A state, or none. -/
def At (n : Nat) (s : Int) : Prop := -1 ≤ s ∧ s < (n : Int)
theorem at_step {n : Nat} {R : Nat → Nat → Int} (h : rowsOk n R = true) {s : Int} (hs : At n s) (b : UInt8) : At n (step R s b) := by
  unfold step
  split
  · exact hs
  · have hb := b.toNat_lt
    have h1 := all_at (all_at h s.toNat (by have := hs.2; omega)) b.toNat (by omega)
    simp only [numOk, Bool.and_eq_true, decide_eq_true_eq] at h1
    exact h1
theorem at_goes {n : Nat} {R : Nat → Nat → Int} (h : rowsOk n R = true) (l : List UInt8) : ∀ {s : Int}, At n s → At n (goes R s l) := by
  induction l with
  | nil => intro s hs; exact hs
  | cons b l ih => intro s hs; exact ih (at_step h hs b)
/-- The Tag of a state. -/
def tagOf (T : Nat → Int) (s : Int) : Int := if s < 0 then -1 else T s.toNat
theorem chk_zero {n m : Nat} {R : Nat → Nat → Int} {T : Nat → Int} (h : chk n m R T = 0) : 0 < n ∧ n ≤ 200 ∧ m = n ∧ rowsOk n R = true ∧ tagsOk m T = true := by
  unfold chk at h
  split at h
  · omega
  · split at h
    · omega
    · split at h
      · refine ⟨by omega, by omega, by omega, ?_, ?_⟩ <;> simp_all
      · omega
theorem chk_cases (n m : Nat) (R : Nat → Nat → Int) (T : Nat → Int) : chk n m R T = 0 ∨ chk n m R T = 1 ∨ chk n m R T = 2 := by
  unfold chk
  split
  · simp
  · split
    · simp
    · split <;> simp
/-- What Run answers, and what Tag does. -/
def runAns (n m : Nat) (R : Nat → Nat → Int) (T : Nat → Int) (l : List UInt8) : Int := if chk n m R T = 0 then goes R 0 l else 0
def tagAns (n m : Nat) (R : Nat → Nat → Int) (T : Nat → Int) (l : List UInt8) : Int := if chk n m R T = 0 then tagOf T (goes R 0 l) else 0
theorem runAns_ok {n m : Nat} {R : Nat → Nat → Int} {T : Nat → Int} (h : chk n m R T = 0) (l : List UInt8) : runAns n m R T l = goes R 0 l := by unfold runAns; rw [if_pos h]
theorem tagAns_ok {n m : Nat} {R : Nat → Nat → Int} {T : Nat → Int} (h : chk n m R T = 0) (l : List UInt8) : tagAns n m R T l = tagOf T (goes R 0 l) := by unfold tagAns; rw [if_pos h]
theorem runAns_bad {n m : Nat} {R : Nat → Nat → Int} {T : Nat → Int} (h : ¬ chk n m R T = 0) (l : List UInt8) : runAns n m R T l = 0 := by unfold runAns; rw [if_neg h]
theorem tagAns_bad {n m : Nat} {R : Nat → Nat → Int} {T : Nat → Int} (h : ¬ chk n m R T = 0) (l : List UInt8) : tagAns n m R T l = 0 := by unfold tagAns; rw [if_neg h]
end Go.Proofs.Ytlmlkpdppkgenaa.Pk.Dfa

namespace Go.Proofs.Ytlmlkpdppkgenaa.Pk
open Go.ChangeShapes Go.WideShapes Go.ChangeAt Go.RowKit
open Dfa

theorem cells72 : Try.prog.cellsOf 72 = 256 := by kernel_rfl
theorem cells70 : Try.prog.cellsOf 70 = 1 := by kernel_rfl
theorem cells30 : Try.prog.cellsOf 30 = 2 := by kernel_rfl
theorem cells3 : Try.prog.cellsOf 3 = 1 := by kernel_rfl
theorem size42 : (Try.prog.info? 72).map (·.size) = some 256 := by kernel_rfl

variable {H : Type} {enc : TypeId × Value → H}

/-- A value is a slice that holds these rows. -/
def Rw (w : World) (v : Value) (n : Nat) (R : Nat → Nat → Int) : Prop :=
  ∃ ao cap, v = .slice ao n cap ∧ n ≤ 9223372036854775807 ∧ (∀ i j, -32768 ≤ R i j ∧ R i j ≤ 32767) ∧ (n = 0 ∨ ∃ b o, ao = some ⟨b, o, none⟩ ∧ b < w.heap.size ∧
    ∀ i, i < n → ∀ j, j < 256 → w.cell? ⟨b, o + i * 256 + j, none⟩ = some (.int .i16 (R i j)))
/-- A value is a slice that holds these numbers. -/
def Ts (w : World) (v : Value) (n : Nat) (T : Nat → Int) : Prop :=
  ∃ ao cap, v = .slice ao n cap ∧ n ≤ 9223372036854775807 ∧ (∀ i, -9223372036854775808 ≤ T i ∧ T i ≤ 9223372036854775807) ∧ (n = 0 ∨ ∃ b o, ao = some ⟨b, o, none⟩ ∧ b < w.heap.size ∧
    ∀ i, i < n → w.cell? ⟨b, o + i, none⟩ = some (.int .i64 (T i)))
theorem Rw.below {w w' : World} {v : Value} {n : Nat} {R : Nat → Nat → Int} (h : Rw w v n R) {B : Nat} (hb : Below B w w') (hB : w.heap.size ≤ B) : Rw w' v n R := by
  obtain ⟨ao, cap, hv, hm, hw, h | ⟨b, o, h1, h2, h3⟩⟩ := h
  · exact ⟨ao, cap, hv, hm, hw, Or.inl h⟩
  · exact ⟨ao, cap, hv, hm, hw, Or.inr ⟨b, o, h1, Nat.lt_of_lt_of_le h2 hb.size, fun i hi j hj => (hb.cell (p := ⟨b, o + i * 256 + j, none⟩) (by simp; omega)).trans (h3 i hi j hj)⟩⟩
theorem Ts.below {w w' : World} {v : Value} {n : Nat} {T : Nat → Int} (h : Ts w v n T) {B : Nat} (hb : Below B w w') (hB : w.heap.size ≤ B) : Ts w' v n T := by
  obtain ⟨ao, cap, hv, hm, hw, h | ⟨b, o, h1, h2, h3⟩⟩ := h
  · exact ⟨ao, cap, hv, hm, hw, Or.inl h⟩
  · exact ⟨ao, cap, hv, hm, hw, Or.inr ⟨b, o, h1, Nat.lt_of_lt_of_le h2 hb.size, fun i hi => (hb.cell (p := ⟨b, o + i, none⟩) (by simp; omega)).trans (h3 i hi)⟩⟩

theorem open_row {W : World} {base m : Nat} {spare : Nat → Bool} {held : Bool} {cs : List Value} {y : DataW H × List MemPlace} (h : DataW.trod enc Try.prog W base spare held m 72 cs = some y) :
    ∃ f : Nat → Int, (∀ j, -32768 ≤ f j ∧ f j ≤ 32767) ∧ ∀ j, j < 256 → cs[j]? = some (.int .i16 (f j)) := by
  obtain ⟨xs, k, _, _, hl, hn, hf⟩ := DataW.trod_array Try.underlying72 h
  rw [cells72] at hl
  simp only [cells70] at hf
  have hE : ∀ j, ∃ z : Int, (-32768 ≤ z ∧ z ≤ 32767) ∧ (j < 256 → cs[j]? = some (.int .i16 z)) := by
    intro j
    by_cases hj : j < 256
    · have h0 := hf j (by omega)
      rw [List.getElem?_eq_getElem (by omega)] at h0
      obtain ⟨z, e0, _, hw⟩ := DataW.trod_int Try.underlying70 h0
      refine ⟨z, by simpa [Lit.wf, IntKind.min, IntKind.max, IntKind.signed, IntKind.bits] using hw, fun _ => ?_⟩
      have e1 : ((cs.drop (j * 1)).take 1)[0]? = some (.int .i16 z) := by rw [e0]; rfl
      simpa [List.getElem?_take, List.getElem?_drop] using e1
    · exact ⟨0, by omega, fun h => absurd h hj⟩
  obtain ⟨F, hF⟩ := Classical.axiomOfChoice hE
  exact ⟨F, fun j => (hF j).1, fun j hj => (hF j).2 hj⟩

theorem open_rows {W : World} {fuel : Nat} {v : List Value} {y : DataW H × List MemPlace} (ao : Option Addr) (n cap : Nat) (hv : v = [.slice ao n cap]) (hf : DataW.trod enc Try.prog W 0 (fun _ => true) true fuel 28 v = some y) :
    ∃ R, Rw W (.slice ao n cap) n R := by
  subst hv
  rcases Go.Deep.open_slice Try.underlying28 hf with ⟨hcs, hx⟩ | ⟨a', len', cap', m, k, D, Pl, hcs, hb, hl, hm, hmm, hx, hel⟩
  · simp at hcs
    obtain ⟨rfl, rfl, rfl⟩ := hcs
    exact ⟨fun _ _ => 0, none, 0, rfl, by omega, fun _ _ => by simp, Or.inl rfl⟩
  · simp at hcs
    obtain ⟨rfl, rfl, rfl⟩ := hcs
    simp only [if_true] at hmm
    subst hmm
    rw [cells72] at hel hx
    have hE : ∀ i, ∃ f : Nat → Int, (∀ j, -32768 ≤ f j ∧ f j ≤ 32767) ∧ (i < n → ∀ j, j < 256 → W.cell? ((a'.add (i * 256)).add j) = some (.int .i16 (f j))) := by
      intro i
      by_cases hi : i < n
      · obtain ⟨cs', hc, ht⟩ := hel i (by omega)
        obtain ⟨_, hlen, hat⟩ := World.cells?_some hc
        obtain ⟨f, h1, h2⟩ := open_row ht
        refine ⟨f, h1, fun _ j hj => ?_⟩
        rw [hat j (by omega)]
        exact h2 j hj
      · exact ⟨fun _ => 0, fun _ => by simp, fun h => absurd h hi⟩
    obtain ⟨F, hF⟩ := Classical.axiomOfChoice hE
    refine ⟨F, some a', _, rfl, by unfold maxLen at hm; omega, fun i j => (hF i).1 j, ?_⟩
    by_cases h0 : n = 0
    · left; exact h0
    · right
      obtain ⟨b, off, spot⟩ := a'
      have hspot : spot = none := by simpa [Addr.add] using World.cell?_spot ((hF 0).2 (by omega) 0 (by omega))
      subst hspot
      have e : ∀ i j, ((⟨b, off, none⟩ : Addr).add (i * 256)).add j = ⟨b, off + i * 256 + j, none⟩ := fun i j => by rw [Go.WideShapes.add_plain, Go.WideShapes.add_plain]
      refine ⟨b, off, rfl, ?_, fun i hi j hj => ?_⟩
      · rcases Nat.lt_or_ge b W.heap.size with h' | h'
        · exact h'
        · have := (hF 0).2 (by omega) 0 (by omega)
          rw [e] at this
          simp [World.cell?, Array.getElem?_eq_none h'] at this
      · have := (hF i).2 hi j hj
        rw [e] at this
        exact this
theorem open_tags {W : World} {fuel : Nat} {v : List Value} {y : DataW H × List MemPlace} (ao : Option Addr) (n cap : Nat) (hv : v = [.slice ao n cap]) (hf : DataW.trod enc Try.prog W 0 (fun _ => true) true fuel 23 v = some y) :
    ∃ T, Ts W (.slice ao n cap) n T := by
  subst hv
  rcases open_ints Try.underlying23 Try.underlying3 cells3 hf with ⟨hcs, hx⟩ | ⟨a', len', cap', zs, hcs, hb, hl, hm, hz, hx, hcell, hwf⟩
  · simp at hcs
    obtain ⟨rfl, rfl, rfl⟩ := hcs
    exact ⟨fun _ => 0, none, 0, rfl, by omega, fun _ => by simp, Or.inl rfl⟩
  · simp at hcs
    obtain ⟨rfl, rfl, rfl⟩ := hcs
    simp only [if_true] at hz
    refine ⟨fun i => zs.getD i 0, some a', cap, rfl, by unfold maxLen at hm; omega, fun i => ?_, ?_⟩
    · show -9223372036854775808 ≤ zs.getD i 0 ∧ zs.getD i 0 ≤ 9223372036854775807
      rw [List.getD_eq_getElem?_getD]
      by_cases hi : i < zs.length
      · rw [List.getElem?_eq_getElem hi]
        have := hwf zs[i] (List.getElem_mem hi)
        simpa [Lit.wf, IntKind.min, IntKind.max, IntKind.signed, IntKind.bits] using this
      · rw [List.getElem?_eq_none (by omega)]; exact by simp
    · by_cases h0 : n = 0
      · left; exact h0
      · right
        obtain ⟨b, off, spot⟩ := a'
        have hspot : spot = none := by simpa [Addr.add] using World.cell?_spot (hcell 0 (by omega))
        subst hspot
        have hplain : ∀ j, j < zs.length → W.cell? ⟨b, off + j, none⟩ = some (.int .i64 (zs.getD j 0)) := fun j hj => by rw [← Go.WideShapes.add_plain]; exact hcell j hj
        refine ⟨b, off, rfl, ?_, fun i hi => hplain i (by omega)⟩
        rcases Nat.lt_or_ge b W.heap.size with h' | h'
        · exact h'
        · have := hplain 0 (by omega)
          simp [World.cell?, Array.getElem?_eq_none h'] at this
theorem open_dfa {W : World} {r : Reach} {b0 : Nat} {v : Value} {d : DataW H} {p : List MemPlace} (hv : Value.okWide Try.prog W r b0 30 v) (h : DataW.Trod enc Try.prog W 0 (fun _ => true) true 30 v d p) :
    ∃ rv tv n m R T, v = .agg #[rv, tv] ∧ Rw W rv n R ∧ Ts W tv m T := by
  obtain ⟨c0, c1, y0, y1, k, rfl, rfl, rfl, h0, h1⟩ := Go.Joins.open_agg2 Try.underlying30 (by kernel_rfl) cells30 hv h
  obtain ⟨a, n, cap, rfl⟩ : ∃ a n cap, c0 = .slice a n cap := by
    rcases Go.Deep.open_slice Try.underlying28 h0 with ⟨hcs, hx⟩ | ⟨a', len', cap', m, k, D, Pl, hcs, _⟩
    · simp at hcs; exact ⟨_, _, _, hcs⟩
    · simp at hcs; exact ⟨_, _, _, hcs⟩
  obtain ⟨a1, n1, cap1, rfl⟩ : ∃ a n cap, c1 = .slice a n cap := by
    rcases Go.Deep.open_slice Try.underlying23 h1 with ⟨hcs, hx⟩ | ⟨a', len', cap', m, k, D, Pl, hcs, _⟩
    · simp at hcs; exact ⟨_, _, _, hcs⟩
    · simp at hcs; exact ⟨_, _, _, hcs⟩
  obtain ⟨R, hR⟩ := open_rows a n cap rfl h0
  obtain ⟨T, hT⟩ := open_tags a1 n1 cap1 rfl h1
  exact ⟨_, _, n, n1, R, T, rfl, hR, hT⟩
end Go.Proofs.Ytlmlkpdppkgenaa.Pk

namespace Go.Proofs.Ytlmlkpdppkgenaa.Pk
open Go.RowKit
open Dfa

set_option maxHeartbeats 1600000 in
set_option maxRecDepth 20000 in
theorem areTags_any (tv : Value) (m : Nat) (T : Nat → Int) (w : World) (ht : Ts w tv m T) :
    Calls Try.prog 65 #[tv] w fun e w' => e = .returned (.bool (tagsOk m T)) ∧ w' = w := by
  obtain ⟨ao, cap, rfl, hm, hwf, hcs⟩ := ht
  have HW : Hid (∀ i, -9223372036854775808 ≤ T i ∧ T i ≤ 9223372036854775807) := hwf
  clear hwf
  go_enter Try.func65, Try.ntmps65
  go_wp2_with fail
  go_loopw [7] (fun i wr => ∃ k : Nat, k ≤ m ∧ i = .int .i64 (k : Int) ∧ Hid (∀ i, i < k → tagOk (T i) = true) ∧ wr = w) (fun i _ => m - (intOf i).toNat)
  case atStart => exact ⟨0, by omega, rfl, fun i hi => by omega, rfl⟩
  case round =>
    obtain ⟨k, hk, rfl, HA, rfl⟩ := hrel
    by_cases hlt : k < m
    · obtain ⟨b, o, rfl, hb, hc⟩ := hcs.resolve_left (by omega)
      have c0 := hc k hlt
      have hzk := HW.out k
      obtain ⟨z, HZ⟩ : ∃ z, Hid (T k = z) := ⟨_, (rfl : T k = T k)⟩
      rw [HZ.out] at c0 hzk
      have hk0 : (0 : Int) ≤ (k : Int) := by omega
      have hk1 : (k : Int) < (m : Int) := by omega
      clear hcs hc
      by_cases h1 : z < -1
      · go_wp2_with fail
        go_ret
        refine ⟨?_, rfl⟩
        rw [show tagsOk m T = false from all_false hlt (by unfold tagOk; rw [HZ.out]; simp; omega)]
        rfl
      · by_cases h2 : 20 ≤ z
        · go_wp2_with fail
          go_ret
          refine ⟨?_, rfl⟩
          rw [show tagsOk m T = false from all_false hlt (by unfold tagOk; rw [HZ.out]; simp; omega)]
          rfl
        · go_wp2_with fail
          go_roundw
          case rel =>
            refine ⟨k + 1, by omega, by go_num, fun i hi => ?_, by trivial⟩
            by_cases e : i = k
            · subst e; unfold tagOk; rw [HZ.out]; simp; omega
            · exact HA.out i (by omega)
          case measure => simp [intOf]; omega
    · go_wp2_with fail
      go_ret
      refine ⟨?_, rfl⟩
      rw [show tagsOk m T = true from all_true fun i hi => HA.out i (by omega)]
      rfl
end Go.Proofs.Ytlmlkpdppkgenaa.Pk

namespace Go.Proofs.Ytlmlkpdppkgenaa.Pk
open Go.RowKit
open Dfa

theorem wrap_small {z : Int} (h : -32768 ≤ z ∧ z ≤ 32767) : IntKind.i64.wrap z = z := by
  unfold IntKind.wrap
  simp [IntKind.bits, IntKind.signed]
  omega
/-- The cells of a row. -/
def rl (f : Nat → Int) : List Value := (List.range 256).map fun j => Value.int .i16 (f j)
theorem rl_length (f : Nat → Int) : (rl f).length = 256 := by simp [rl]
theorem rl_at (f : Nat → Int) (j : Nat) (hj : j < 256) : (rl f)[j]? = some (.int .i16 (f j)) := by simp [rl, hj]
theorem rl_one (f : Nat → Int) : (rl f).toArray.all (·.oneCell') = true := all_oneCell_toArray fun v hv => by
  simp only [rl, List.mem_map] at hv
  obtain ⟨j, _, rfl⟩ := hv
  rfl
theorem range_of_cells {w : World} {b o : Nat} {f : Nat → Int} (h : ∀ j, j < 256 → w.cell? ⟨b, o + j, none⟩ = some (.int .i16 (f j))) : w.rangeAt b o (rl f) := fun j v hv => by
  have hj : j < 256 := by have := (List.getElem?_eq_some_iff.1 hv).1; rwa [rl_length] at this
  rw [rl_at f j hj] at hv
  rw [h j hj, hv]
theorem range_new (w : World) (f : Nat → Int) : (w.alloc (.cells (rl f).toArray 72)).rangeAt w.heap.size 0 (rl f) := fun j v hv => by
  rw [Nat.zero_add, cell_of_row _ _ j (rl f).toArray 72 (0, 0) (heap_alloc_last w _)]
  simpa using hv
theorem index_row (f : Nat → Int) (j : Nat) (hj : j < 256) (w : World) : (Instr.index 72 (.agg (rl f).toArray) (.int .i64 (j : Int))).run Try.prog w = .ok (.int .i16 (f j)) w := by
  have h1 : (0 : Int) ≤ (j : Int) ∧ (j : Int) < (256 : Nat) := by omega
  have h2 := rl_at f j hj
  have h3 := rl_length f
  simp [Instr.index, run_underlying Try.underlying72, asIntOf, h1, go_sem, h3, hj]
  rw [List.getElem?_eq_getElem (by omega)] at h2
  exact Option.some.inj h2
theorem wpList_store_new {ops : Array Oper} {rest : List Oper} {op : Oper} {a : Act} {w : World} {Q : Exit → Act → World → Prop} (hgd : op.guard = none) (x y : Operand) (ho : op.op = .store 72 x y)
    (c c' : Array Value) (hx : a.eval x = .pointer (some ⟨w.heap.size, 0, none⟩)) (hy : a.eval y = .agg c') (hc : c.size = 256) (hc' : c'.size = 256) (h1 : c'.all (·.oneCell') = true)
    (h : wpList Try.prog ops Q rest (a.put op.dst undef) (w.alloc (.cells c' 72))) : wpList Try.prog ops Q (op :: rest) a (w.alloc (.cells c 72)) :=
  wpList_plain hgd fun K hK => by
    unfold Oper.wp execOp
    simp only [ho, hx, hy, Sem.run_bind, run_storeAt_new w 72 c c' (by rw [hc']; exact size42) (by omega) h1, Result.andThen_ok]
    exact hK _ _ h
theorem zero42 : ∃ zs : Array Value, (∀ w, (zeroValue 72).run Try.prog w = .ok (.agg zs) w) ∧ zs.size = 256 :=
  ⟨_, (zero_of_info (P := Try.prog) (t := 72) (v := .agg (Array.replicate 256 (.int .i16 0))) (n := 256) (by kernel_rfl)).1, by simp⟩

set_option maxHeartbeats 1600000 in
set_option maxRecDepth 20000 in
theorem areStates_any (rv : Value) (n : Nat) (R : Nat → Nat → Int) (w : World) (hr : Rw w rv n R) :
    Calls Try.prog 64 #[rv] w fun e w' => e = .returned (.bool (rowsOk n R)) ∧ Below w.heap.size w w' := by
  obtain ⟨ao, cap, rfl, hm, hwf, hcs⟩ := hr
  have HW : Hid (∀ i j, -32768 ≤ R i j ∧ R i j ≤ 32767) := hwf
  clear hwf
  obtain ⟨zs, hz35, hzs⟩ := zero42
  have HZ : Hid (zs.size = 256) := hzs
  clear hzs
  go_enter Try.func64, Try.ntmps64
  go_wp2_with fail
  go_loopw [9] (fun i wr => ∃ k : Nat, k ≤ n ∧ i = .int .i64 (k : Int) ∧ Hid (∀ i, i < k → rowOk n (R i) = true) ∧ Below w.heap.size w wr) (fun i _ => n - (intOf i).toNat)
  case atStart => exact ⟨0, by omega, rfl, fun i hi => by omega, Below.refl _ _⟩
  case round =>
    obtain ⟨k, hk, rfl, HA, hbel⟩ := hrel
    have hsb := hbel.size
    by_cases hlt : k < n
    · obtain ⟨b, o, rfl, hb, hc⟩ := hcs.resolve_left (by omega)
      have HC : Hid (wr.rangeAt b (o + k * 256) (rl (R k))) := range_of_cells fun j hj => (hbel.cell (p := ⟨b, o + k * 256 + j, none⟩) hb).trans (hc k hlt j hj)
      have hk0 : (0 : Int) ≤ (k : Int) := by omega
      have hk1 : (k : Int) < (n : Int) := by omega
      clear hcs hc
      go_wp2_with (first | refine wpList_load_mid rfl 72 _ rfl b (o + k * 256) rfl (rl (R k)) _ HC.out Try.underlying72 rfl (by rw [rl_length]; exact size42) ?_ | refine wpList_store_new rfl _ _ rfl _ (rl (R k)).toArray rfl rfl HZ.out (by simp [rl_length]) (rl_one _) ?_ | refine wpList_load_mid rfl 72 _ rfl wr.heap.size 0 rfl (rl (R k)) _ (range_new wr (R k)) Try.underlying72 rfl (by rw [rl_length]; exact size42) ?_)
      go_loopw [14] (fun i wx => ∃ j : Nat, j ≤ 256 ∧ i = .int .i64 (j : Int) ∧ Hid (∀ i, i < j → numOk n (R k i) = true) ∧ Below w.heap.size w wx) (fun i _ => 256 - (intOf i).toNat)
      case atStart => exact ⟨0, by omega, rfl, fun i hi => by omega, hbel.alloc hsb _⟩
      case round =>
        obtain ⟨j, hj, rfl, HB, hbel2⟩ := hrel
        by_cases hjt : j < 256
        · have hj0 : (0 : Int) ≤ (j : Int) := by omega
          have hj1 : (j : Int) < 256 := by omega
          have hix := index_row (R k) j hjt
          have hzk := HW.out k j
          obtain ⟨z, HX⟩ : ∃ z, Hid (R k j = z) := ⟨_, (rfl : R k j = R k j)⟩
          rw [HX.out] at hix hzk
          by_cases h1 : z < -1
          · go_wp2_with fail
            go_ret
            refine ⟨?_, hbel2⟩
            rw [show rowsOk n R = false from all_false hlt (all_false hjt (by unfold numOk; rw [HX.out]; simp; omega))]
            rfl
          · have hwr := wrap_small hzk
            by_cases h2 : (n : Int) ≤ z
            · go_wp2_with fail
              go_ret
              refine ⟨?_, hbel2⟩
              rw [show rowsOk n R = false from all_false hlt (all_false hjt (by unfold numOk; rw [HX.out]; simp; omega))]
              rfl
            · go_wp2_with fail
              go_roundw
              case rel =>
                refine ⟨j + 1, by omega, by go_num, fun i hi => ?_, hbel2⟩
                by_cases e : i = j
                · subst e; unfold numOk; rw [HX.out]; simp; omega
                · exact HB.out i (by omega)
              case measure => simp [intOf]; omega
        · go_wp2_with fail
          go_roundw
          case rel =>
            refine ⟨k + 1, by omega, by go_num, fun i hi => ?_, hbel2⟩
            by_cases e : i = k
            · subst e; exact all_true fun i hi => HB.out i (by omega)
            · exact HA.out i (by omega)
          case measure => simp [intOf]; omega
    · go_wp2_with fail
      go_ret
      refine ⟨?_, hbel⟩
      rw [show rowsOk n R = true from all_true fun i hi => HA.out i (by omega)]
      rfl
end Go.Proofs.Ytlmlkpdppkgenaa.Pk

namespace Go.Proofs.Ytlmlkpdppkgenaa.Pk
open Go.RowKit
open Dfa

set_option maxHeartbeats 1600000 in
set_option maxRecDepth 20000 in
theorem check_any (rv tv : Value) (n m : Nat) (R : Nat → Nat → Int) (T : Nat → Int) (w : World) (hr : Rw w rv n R) (ht : Ts w tv m T) :
    Calls Try.prog 39 #[.agg #[rv, tv]] w fun e w' => e = .returned (.int .i64 (chk n m R T)) ∧ Below w.heap.size w w' := by
  have HR : Hid (Rw w rv n R) := hr
  have HT : Hid (Ts w tv m T) := ht
  obtain ⟨ao, cap, rfl, hn, hwf, -⟩ := hr
  obtain ⟨ao', cap', rfl, hm, hwf', -⟩ := ht
  clear hwf hwf'
  go_enter Try.func39, Try.ntmps39
  by_cases h1 : 200 < n
  · have h1' : (200 : Int) < (n : Int) := by omega
    go_wp2_with fail
    go_ret
    exact ⟨by unfold chk; rw [if_pos h1]; rfl, (Below.refl _ _).alloc (Nat.le_refl _) _⟩
  · by_cases h2 : n = 0 ∨ m ≠ n
    · have E : Hid (chk n m R T = 1) := by show _ = _; unfold chk; rw [if_neg h1, if_pos h2]
      by_cases h3 : n = 0
      · subst h3
        go_wp2_with fail
        go_ret
        exact ⟨by rw [E.out]; rfl, (Below.refl _ _).alloc (Nat.le_refl _) _⟩
      · have h4 : m ≠ n := by omega
        have h5 : ((m : Int) != (n : Int)) = true := by simp; omega
        have h6 : ((n : Int) == 0) = false := by simp; omega
        go_wp2_with fail
        go_ret
        exact ⟨by rw [E.out]; rfl, (Below.refl _ _).alloc (Nat.le_refl _) _⟩
    · obtain rfl : m = n := by omega
      have h6 : ¬ ((m : Int) = 0) := by omega
      go_wp2_with fail
      have B0 : Below w.heap.size w (w.alloc (Obj.cells #[Value.slice ao m cap, Value.slice ao' m cap'] 30)) := (Below.refl _ _).alloc (Nat.le_refl _) _
      refine (areStates_any _ m R _ (HR.out.below B0 (Nat.le_refl _))).mono ?_
      rintro _ w1 ⟨rfl, hb1⟩
      have c0 : w1.cell? ⟨w.heap.size, 0, none⟩ = some (Value.slice ao m cap) := (hb1.cell (by simp)).trans (by simp)
      have c1 : w1.cell? ⟨w.heap.size, 1, none⟩ = some (Value.slice ao' m cap') := (hb1.cell (by simp)).trans (by simp)
      have B1 : Below w.heap.size w w1 := B0.trans (hb1.mono (by simp))
      have E : Hid (chk m m R T = if rowsOk m R = true ∧ tagsOk m T = true then 0 else 1) := by show _ = _; unfold chk; rw [if_neg h1, if_neg h2]
      rcases hrs : rowsOk m R with _ | _
      · go_wp2_with fail
        go_ret
        exact ⟨by rw [E.out, hrs]; rfl, B1⟩
      · go_wp2_with fail
        refine (areTags_any _ m T w1 (HT.out.below B1 (Nat.le_refl _))).mono ?_
        rintro _ w2 ⟨rfl, rfl⟩
        rcases hts : tagsOk m T with _ | _
        · go_wp2_with fail
          go_ret
          exact ⟨by rw [E.out, hrs, hts]; rfl, B1⟩
        · go_wp2_with fail
          go_ret
          exact ⟨by rw [E.out, hrs, hts]; rfl, B1⟩

/-- A byte of a text. -/
theorem byte_run (s : ByteArray) (k : Nat) (h : k < s.size) (w : World) : (Instr.index 9 (.string s) (.int .i64 (k : Int))).run Try.prog w = .ok (.int .u8 (s[k].toNat : Int)) w := by
  rw [run_index_string (h := Try.underlying9)]
  simp [h]
theorem data_size (s : ByteArray) : s.data.toList.length = s.size := by rw [Array.length_toList]; rfl
theorem take_snoc (s : ByteArray) (k : Nat) (h : k < s.size) : s.data.toList.take (k + 1) = s.data.toList.take k ++ [s[k]] := by
  rw [List.take_succ_eq_append_getElem (by rw [data_size]; exact h)]; rfl
theorem take_all (s : ByteArray) (k : Nat) (h : s.size ≤ k) : s.data.toList.take k = s.data.toList := List.take_of_length_le (by rw [data_size]; exact h)

set_option maxHeartbeats 1600000 in
set_option maxRecDepth 20000 in
theorem run_any (rv tv : Value) (n : Nat) (R : Nat → Nat → Int) (s : ByteArray) (w : World) (hr : Rw w rv n R) (h0 : 0 < n) (hok : rowsOk n R = true) (hs : s.size ≤ 9223372036854775807) :
    Calls Try.prog 40 #[.agg #[rv, tv], .string s] w fun e w' => e = .returned (.int .i64 (goes R 0 s.data.toList)) ∧ Below w.heap.size w w' := by
  obtain ⟨ao, cap, rfl, hn, hwf, hcs⟩ := hr
  have HW : Hid (∀ i j, -32768 ≤ R i j ∧ R i j ≤ 32767) := hwf
  have HO : Hid (rowsOk n R = true) := hok
  obtain ⟨b, o, rfl, hb, hc⟩ := hcs.resolve_left (by omega)
  have HC : Hid (∀ i, i < n → ∀ j, j < 256 → w.cell? ⟨b, o + i * 256 + j, none⟩ = some (.int .i16 (R i j))) := hc
  clear hwf hok hcs hc
  go_enter Try.func40, Try.ntmps40
  go_wp2_with fail
  go_loopw [6, 5] (fun i z wr => ∃ (k : Nat) (q : Int), k ≤ s.size ∧ i = .int .i64 (k : Int) ∧ z = .int .i64 q ∧ At n q ∧ Hid (goes R 0 (s.data.toList.take k) = q) ∧ wr.cell? ⟨w.heap.size, 0, none⟩ = some (.slice (some ⟨b, o, none⟩) n cap) ∧ Below w.heap.size w wr) (fun i _ _ => s.size - (intOf i).toNat)
  case atStart => exact ⟨0, 0, by omega, rfl, rfl, ⟨by omega, by omega⟩, rfl, by simp, (Below.refl _ _).alloc (Nat.le_refl _) _⟩
  case round =>
    obtain ⟨k, q, hk, rfl, rfl, ⟨hq1, hq2⟩, HG, hcell, hbel⟩ := hrel
    have hsb := hbel.size
    by_cases hlt : k < s.size
    · have hk1 : (k : Int) < (s.size : Int) := by omega
      by_cases hq : q = -1
      · have HQ : Hid (q = -1) := hq
        subst hq
        go_wp2_with fail
        go_ret
        refine ⟨?_, hbel⟩
        have : goes R 0 s.data.toList = -1 := by
          rw [← List.take_append_drop k s.data.toList, goes_append, HG.out, goes_neg _ _ (by omega)]
        rw [this]; rfl
      · obtain ⟨p, rfl⟩ : ∃ p : Nat, q = (p : Int) := ⟨q.toNat, by omega⟩
        have hp : p < n := by omega
        have hp1 : (p : Int) < (n : Int) := by omega
        have hbr := byte_run s k hlt
        obtain ⟨x, HX⟩ : ∃ x, Hid (s[k] = x) := ⟨_, (rfl : s[k] = s[k])⟩
        rw [HX.out] at hbr
        have hx : x.toNat < 256 := x.toNat_lt
        have hx1 : (x.toNat : Int) < 256 := by omega
        have c0 : wr.cell? ⟨b, o + p * 256 + x.toNat, none⟩ = some (.int .i16 (R p x.toNat)) := (hbel.cell (p := ⟨b, o + p * 256 + x.toNat, none⟩) hb).trans (HC.out p hp x.toNat hx)
        have hz := HW.out p x.toNat
        have HS : Hid (goes R 0 (s.data.toList.take (k + 1)) = R p x.toNat) := by
          show _ = _
          rw [take_snoc s k hlt, goes_snoc, HG.out, HX.out]
          unfold Dfa.step
          rw [if_neg (by omega)]
          rfl
        have hat : At n (R p x.toNat) := by rw [← HS.out]; exact at_goes HO.out _ ⟨by omega, by omega⟩
        obtain ⟨z, HZ⟩ : ∃ z, Hid (R p x.toNat = z) := ⟨_, (rfl : R p x.toNat = R p x.toNat)⟩
        rw [HZ.out] at c0 hz hat
        have hwr := wrap_small hz
        go_wp2_with (go_quiet (fail))
        go_roundw
        case rel => exact ⟨k + 1, z, by omega, by go_num, rfl, hat, by show _ = _; rw [HS.out, HZ.out], by simpa using hcell, below_drewN hbel nq⟩
        case measure => simp [intOf]; omega
    · go_wp2_with fail
      go_ret
      refine ⟨?_, hbel⟩
      rw [← HG.out, take_all s k (by omega)]; rfl

set_option maxHeartbeats 1600000 in
set_option maxRecDepth 20000 in
theorem Tag_any (rv tv : Value) (n m : Nat) (R : Nat → Nat → Int) (T : Nat → Int) (s : ByteArray) (w : World) (hr : Rw w rv n R) (ht : Ts w tv m T) (hs : s.size ≤ 9223372036854775807) :
    Calls Try.prog 15 #[.agg #[rv, tv], .string s] w fun e w' => e = .returned (.tuple #[.int .i64 (tagAns n m R T s.data.toList), .int .i64 (chk n m R T)]) ∧ Below w.heap.size w w' := by
  have HR : Hid (Rw w rv n R) := hr
  have HT : Hid (Ts w tv m T) := ht
  obtain ⟨ao, cap, rfl, hn, hwf, -⟩ := hr
  obtain ⟨ao', cap', rfl, hm, hwf', hcs⟩ := ht
  have HCS : Hid (m = 0 ∨ ∃ b o, ao' = some ⟨b, o, none⟩ ∧ b < w.heap.size ∧ ∀ i, i < m → w.cell? ⟨b, o + i, none⟩ = some (.int .i64 (T i))) := hcs
  clear hwf hwf' hcs
  go_enter Try.func15, Try.ntmps15
  go_wp2_with fail
  have B0 : Below w.heap.size w (w.alloc (Obj.cells #[Value.slice ao n cap, Value.slice ao' m cap'] 30)) := (Below.refl _ _).alloc (Nat.le_refl _) _
  refine (check_any _ _ n m R T _ (HR.out.below B0 (Nat.le_refl _)) (HT.out.below B0 (Nat.le_refl _))).mono ?_
  rintro _ w1 ⟨rfl, hb1⟩
  have c0 : w1.cell? ⟨w.heap.size, 0, none⟩ = some (Value.slice ao n cap) := (hb1.cell (by simp)).trans (by simp)
  have c1 : w1.cell? ⟨w.heap.size, 1, none⟩ = some (Value.slice ao' m cap') := (hb1.cell (by simp)).trans (by simp)
  have B1 : Below w.heap.size w w1 := B0.trans (hb1.mono (by simp))
  have hl1 : w.heap.size < w1.heap.size := by have := hb1.size; simp at this; omega
  obtain ⟨c, HC⟩ : ∃ c, Hid (chk n m R T = c) := ⟨_, (rfl : chk n m R T = chk n m R T)⟩
  rw [HC.out]
  clear hb1
  by_cases h0 : c = 0
  · subst h0
    obtain ⟨g0, -, g2, g1, -⟩ := chk_zero HC.out
    have G2 : Hid (m = n) := g2
    clear g2
    go_wp2_with fail
    have hat : At n (goes R 0 s.data.toList) := at_goes g1 _ ⟨by omega, by omega⟩
    have hcall := run_any (.slice ao n cap) (.slice ao' m cap') n R s w1 (HR.out.below B1 (Nat.le_refl _)) g0 g1 hs
    obtain ⟨q, HQ⟩ : ∃ q, Hid (goes R 0 s.data.toList = q) := ⟨_, (rfl : goes R 0 s.data.toList = goes R 0 s.data.toList)⟩
    rw [HQ.out] at hat hcall
    refine hcall.mono ?_
    rintro _ w2 ⟨rfl, hb2⟩
    have B2 : Below w.heap.size w w2 := B1.trans (hb2.mono B1.size)
    have d1 : w2.cell? ⟨w.heap.size, 1, none⟩ = some (Value.slice ao' m cap') := (hb2.cell (p := ⟨w.heap.size, 1, none⟩) hl1).trans c1
    obtain ⟨hq1, hq2⟩ := hat
    clear c0 c1 hb2 g1
    by_cases hq : q = -1
    · subst hq
      go_wp2_with fail
      go_ret2
      exact ⟨by rw [tagAns_ok HC.out, HQ.out, HC.out]; rfl, B2⟩
    · obtain ⟨p, rfl⟩ : ∃ p : Nat, q = (p : Int) := ⟨q.toNat, by omega⟩
      obtain ⟨b, o, rfl, hb, hc⟩ := HCS.out.resolve_left (by have := G2.out; omega)
      have hp1 : (p : Int) < (m : Int) := by have := G2.out; omega
      have e0 : w2.cell? ⟨b, o + p, none⟩ = some (.int .i64 (T p)) := (B2.cell (p := ⟨b, o + p, none⟩) hb).trans (hc p (by omega))
      have hb0 : ((p : Int) == -1) = false := by simp
      clear hc
      go_wp2_with fail
      go_ret2
      exact ⟨by rw [tagAns_ok HC.out, HQ.out, HC.out]; unfold tagOf; rw [if_neg (by omega)]; rfl, B2⟩
  · have hb0 : (c != 0) = true := by simp; exact h0
    go_wp2_with fail
    go_ret2
    exact ⟨by rw [tagAns_bad (by rw [HC.out]; exact h0), HC.out]; rfl, B1⟩
end Go.Proofs.Ytlmlkpdppkgenaa.Pk

namespace Go.Proofs.Ytlmlkpdppkgenaa.Pk.Dfa

/-- Is each of these numbers none, or from 0 to k? -/
def upOk (m : Nat) (T : Nat → Int) (k : Int) : Bool := (List.range m).all fun i => decide (-1 ≤ T i) && decide (T i ≤ k)
def statesOk (n : Nat) (L : Nat → Nat) (X : Nat → Nat → Int) : Bool := (List.range n).all fun i => upOk (L i) (X i) ((n : Int) - 1)
def lensOk (n : Nat) (L : Nat → Nat) : Bool := (List.range n).all fun i => decide (L i = L 0)
def ofOk (O : Nat → Nat) (k : Nat) : Bool := (List.range 256).all fun j => decide (O j < k)
/-- Have all the same columns, not too many, and each byte one of them? -/
def colsOk (n : Nat) (O : Nat → Nat) (L : Nat → Nat) : Bool := lensOk n L && (decide (L 0 ≤ 256) && ofOk O (L 0))
/-- What Check answers. -/
def chkP (n m : Nat) (O : Nat → Nat) (L : Nat → Nat) (X : Nat → Nat → Int) (T : Nat → Int) : Int :=
  if 200 < n then 2 else if n = 0 ∨ m ≠ n then 1 else if colsOk n O L = true ∧ statesOk n L X = true ∧ upOk m T 19 = true then 0 else 1
/-- The greatest of the first ones. -/
def mx (O : Nat → Nat) : Nat → Nat
  | 0 => 0
  | k + 1 => max (mx O k) (O k)
theorem mx_lt (O : Nat → Nat) (c : Nat) (hc : 0 < c) : ∀ k, mx O k < c ↔ ∀ j, j < k → O j < c
  | 0 => ⟨fun _ j hj => absurd hj (Nat.not_lt_zero _), fun _ => hc⟩
  | k + 1 => by
    have ih := mx_lt O c hc k
    constructor
    · intro h j hj
      simp only [mx] at h
      by_cases e : j = k
      · subst e; omega
      · exact ih.1 (by omega) j (by omega)
    · intro h
      have h1 := ih.2 fun j hj => h j (by omega)
      have h2 := h k (by omega)
      simp only [mx]; omega
theorem mx_of (O : Nat → Nat) (c : Nat) : decide ((mx O 256 : Int) < (c : Int)) = ofOk O c := by
  by_cases hc : 0 < c
  · by_cases h : mx O 256 < c
    · rw [show ofOk O c = true from all_true fun j hj => by simp; exact (mx_lt O c hc 256).1 h j hj]
      simp; omega
    · have : ¬ ∀ j, j < 256 → O j < c := fun g => h ((mx_lt O c hc 256).2 g)
      obtain ⟨j, hj⟩ := Classical.not_forall.1 this
      obtain ⟨h1, h2⟩ := Classical.not_imp.1 hj
      rw [show ofOk O c = false from all_false h1 (by simp; omega)]
      simp; omega
  · obtain rfl : c = 0 := by omega
    rw [show ofOk O 0 = false from all_false (i := 0) (by omega) (by simp)]
    simp
theorem mx_le (O : Nat → Nat) (h : ∀ j, O j < 256) : ∀ k, mx O k < 256 := fun k => (mx_lt O 256 (by omega) k).2 fun j _ => h j
theorem chkP_zero {n m : Nat} {O L : Nat → Nat} {X : Nat → Nat → Int} {T : Nat → Int} (h : chkP n m O L X T = 0) : 0 < n ∧ n ≤ 200 ∧ m = n ∧ colsOk n O L = true ∧ statesOk n L X = true ∧ upOk m T 19 = true := by
  unfold chkP at h
  split at h
  · omega
  · split at h
    · omega
    · split at h
      · rename_i h3
        exact ⟨by omega, by omega, by omega, h3.1, h3.2.1, h3.2.2⟩
      · omega
theorem cols_at {n : Nat} {O L : Nat → Nat} (h : colsOk n O L = true) : (∀ i, i < n → L i = L 0) ∧ L 0 ≤ 256 ∧ ∀ j, j < 256 → O j < L 0 := by
  simp only [colsOk, Bool.and_eq_true, decide_eq_true_eq] at h
  refine ⟨fun i hi => ?_, h.2.1, fun j hj => ?_⟩
  · simpa using all_at h.1 i hi
  · simpa using all_at h.2.2 j hj
theorem up_at {m : Nat} {T : Nat → Int} {k : Int} (h : upOk m T k = true) (i : Nat) (hi : i < m) : -1 ≤ T i ∧ T i ≤ k := by
  simpa using all_at h i hi
theorem states_at {n : Nat} {L : Nat → Nat} {X : Nat → Nat → Int} (h : statesOk n L X = true) (i j : Nat) (hi : i < n) (hj : j < L i) : -1 ≤ X i j ∧ X i j ≤ (n : Int) - 1 := up_at (all_at h i hi) j hj
end Go.Proofs.Ytlmlkpdppkgenaa.Pk.Dfa

namespace Go.Proofs.Ytlmlkpdppkgenaa.Pk
open Go.ChangeShapes Go.WideShapes Go.ChangeAt Go.RowKit
open Dfa

theorem cells52 : Try.prog.cellsOf 52 = 256 := by kernel_rfl
theorem cells24 : Try.prog.cellsOf 24 = 1 := by kernel_rfl
theorem cells23 : Try.prog.cellsOf 23 = 1 := by kernel_rfl
theorem cells54 : Try.prog.cellsOf 54 = 258 := by kernel_rfl
theorem cells5 : Try.prog.cellsOf 5 = 1 := by kernel_rfl
theorem size44 : (Try.prog.info? 52).map (·.size) = some 256 := by kernel_rfl
theorem size47 : (Try.prog.info? 54).map (·.size) = some 258 := by kernel_rfl

variable {H : Type} {enc : TypeId × Value → H}
/-- A value is a slice that holds these lists of numbers. -/
def Nx (w : World) (v : Value) (n : Nat) (L : Nat → Nat) (X : Nat → Nat → Int) : Prop :=
  ∃ ao cap, v = .slice ao n cap ∧ n ≤ 9223372036854775807 ∧ (n = 0 ∨ ∃ b o, ao = some ⟨b, o, none⟩ ∧ b < w.heap.size ∧ ∀ i, i < n → ∃ u, w.cell? ⟨b, o + i, none⟩ = some u ∧ Ts w u (L i) (X i))
theorem Nx.below {w w' : World} {v : Value} {n : Nat} {L : Nat → Nat} {X : Nat → Nat → Int} (h : Nx w v n L X) {B : Nat} (hb : Below B w w') (hB : w.heap.size ≤ B) : Nx w' v n L X := by
  obtain ⟨ao, cap, hv, hm, h | ⟨b, o, h1, h2, h3⟩⟩ := h
  · exact ⟨ao, cap, hv, hm, Or.inl h⟩
  · refine ⟨ao, cap, hv, hm, Or.inr ⟨b, o, h1, Nat.lt_of_lt_of_le h2 hb.size, fun i hi => ?_⟩⟩
    obtain ⟨u, g1, g2⟩ := h3 i hi
    exact ⟨u, (hb.cell (p := ⟨b, o + i, none⟩) (by simp; omega)).trans g1, g2.below hb hB⟩
/-- The cells of the numbers of columns; those of all of it. -/
def ol (O : Nat → Nat) : List Value := (List.range 256).map fun j => Value.int .u8 (O j : Int)
def pl (O : Nat → Nat) (nv tv : Value) : List Value := ol O ++ [nv, tv]
theorem ol_length (O : Nat → Nat) : (ol O).length = 256 := by simp [ol]
theorem pl_length (O : Nat → Nat) (nv tv : Value) : (pl O nv tv).length = 258 := by simp [pl, ol_length]
theorem ol_at (O : Nat → Nat) (j : Nat) (hj : j < 256) : (ol O)[j]? = some (.int .u8 (O j : Int)) := by simp [ol, hj]
theorem pl_of (O : Nat → Nat) (nv tv : Value) (j : Nat) (hj : j < 256) : (pl O nv tv)[j]? = some (.int .u8 (O j : Int)) := by
  rw [pl, List.getElem?_append_left (by rw [ol_length]; exact hj), ol_at O j hj]
theorem pl_next (O : Nat → Nat) (nv tv : Value) : (pl O nv tv)[256]? = some nv := by
  rw [pl, List.getElem?_append_right (by rw [ol_length]; omega), ol_length]; rfl
theorem pl_tags (O : Nat → Nat) (nv tv : Value) : (pl O nv tv)[257]? = some tv := by
  rw [pl, List.getElem?_append_right (by rw [ol_length]; omega), ol_length]; rfl
theorem cell_of_block (w : World) (l : List Value) (t : TypeId) (j : Nat) : (w.alloc (.cells l.toArray t)).cell? ⟨w.heap.size, j, none⟩ = l[j]? := by
  rw [cell_of_row _ _ j l.toArray t (0, 0) (heap_alloc_last w _)]
  simp
theorem range_block (w : World) (l : List Value) (t : TypeId) : (w.alloc (.cells l.toArray t)).rangeAt w.heap.size 0 l := fun j v hv => by
  rw [Nat.zero_add, cell_of_block]; exact hv

theorem open_of {W : World} {m : Nat} {cs : List Value} {y : DataW H × List MemPlace} (h : DataW.trod enc Try.prog W 0 (fun _ => true) true m 52 cs = some y) : ∃ O : Nat → Nat, (∀ j, O j < 256) ∧ cs = ol O := by
  obtain ⟨xs, k, _, _, hl, hn, hf⟩ := DataW.trod_array Try.underlying52 h
  rw [cells52] at hl
  simp only [cells5] at hf
  have hE : ∀ j, ∃ z : Nat, z < 256 ∧ (j < 256 → cs[j]? = some (.int .u8 (z : Int))) := by
    intro j
    by_cases hj : j < 256
    · have h0 := hf j (by omega)
      rw [List.getElem?_eq_getElem (by omega)] at h0
      obtain ⟨z, e0, _, hw⟩ := DataW.trod_int Try.underlying5 h0
      have hz : 0 ≤ z ∧ z ≤ 255 := by simpa [Lit.wf, IntKind.min, IntKind.max, IntKind.signed, IntKind.bits] using hw
      refine ⟨z.toNat, by omega, fun _ => ?_⟩
      have e1 : ((cs.drop (j * 1)).take 1)[0]? = some (.int .u8 z) := by rw [e0]; rfl
      rw [show ((z.toNat : Nat) : Int) = z by omega]
      simpa [List.getElem?_take, List.getElem?_drop] using e1
    · exact ⟨0, by omega, fun h => absurd h hj⟩
  obtain ⟨F, hF⟩ := Classical.axiomOfChoice hE
  refine ⟨F, fun j => (hF j).1, List.ext_getElem? fun j => ?_⟩
  by_cases hj : j < 256
  · rw [(hF j).2 hj, ol_at F j hj]
  · rw [List.getElem?_eq_none (by omega), List.getElem?_eq_none (by rw [ol_length]; omega)]
theorem open_next {W : World} {fuel : Nat} {v : List Value} {y : DataW H × List MemPlace} (hf : DataW.trod enc Try.prog W 0 (fun _ => true) true fuel 24 v = some y) :
    ∃ nv n L X, v = [nv] ∧ Nx W nv n L X := by
  rcases Go.Deep.open_slice Try.underlying24 hf with ⟨hcs, hx⟩ | ⟨a', n, cap', m, k, D, Pl, hcs, hb, hl, hm, hmm, hx, hel⟩
  · exact ⟨_, 0, fun _ => 0, fun _ _ => 0, hcs, none, 0, rfl, by omega, Or.inl rfl⟩
  · simp only [if_true] at hmm
    subst hmm
    rw [cells23] at hel
    have hE : ∀ i, ∃ q : (Nat × (Nat → Int)), i < n → ∃ u, W.cell? ((a'.add (i * 1)).add 0) = some u ∧ Ts W u q.1 q.2 := by
      intro i
      by_cases hi : i < n
      · obtain ⟨cs', hc, ht⟩ := hel i (by omega)
        obtain ⟨_, hlen, hat⟩ := World.cells?_some hc
        obtain ⟨u, rfl⟩ : ∃ u, cs' = [u] := by
          match cs', hlen with
          | [u], _ => exact ⟨u, rfl⟩
        obtain ⟨a1, n1, cap1, rfl⟩ : ∃ a n cap, u = .slice a n cap := by
          rcases Go.Deep.open_slice Try.underlying23 ht with ⟨hcs, hx⟩ | ⟨a', len', cap', m, k, D, Pl, hcs, _⟩
          · simp at hcs; exact ⟨_, _, _, hcs⟩
          · simp at hcs; exact ⟨_, _, _, hcs⟩
        obtain ⟨T, hT⟩ := open_tags a1 n1 cap1 rfl ht
        exact ⟨(n1, T), fun _ => ⟨_, by rw [hat 0 (by simp)]; rfl, hT⟩⟩
      · exact ⟨(0, fun _ => 0), fun h => absurd h hi⟩
    obtain ⟨F, hF⟩ := Classical.axiomOfChoice hE
    refine ⟨_, n, fun i => (F i).1, fun i => (F i).2, hcs, some a', _, rfl, by unfold maxLen at hm; omega, ?_⟩
    by_cases h0 : n = 0
    · left; exact h0
    · right
      obtain ⟨b, off, spot⟩ := a'
      obtain ⟨u0, c0, -⟩ := hF 0 (by omega)
      have hspot : spot = none := by simpa [Addr.add] using World.cell?_spot c0
      subst hspot
      have e : ∀ i, ((⟨b, off, none⟩ : Addr).add (i * 1)).add 0 = ⟨b, off + i, none⟩ := fun i => by rw [Go.WideShapes.add_plain, Go.WideShapes.add_plain]; simp
      refine ⟨b, off, rfl, ?_, fun i hi => ?_⟩
      · rcases Nat.lt_or_ge b W.heap.size with h' | h'
        · exact h'
        · rw [e] at c0
          simp [World.cell?, Array.getElem?_eq_none h'] at c0
      · obtain ⟨u, g1, g2⟩ := hF i hi
        rw [e] at g1
        exact ⟨u, g1, g2⟩
set_option maxRecDepth 20000 in
theorem open_packed {W : World} {r : Reach} {b0 : Nat} {v : Value} {d : DataW H} {p : List MemPlace} (hv : Value.okWide Try.prog W r b0 54 v) (h : DataW.Trod enc Try.prog W 0 (fun _ => true) true 54 v d p) :
    ∃ O nv tv n m L X T, v = .agg (pl O nv tv).toArray ∧ (∀ j, O j < 256) ∧ Nx W nv n L X ∧ Ts W tv m T := by
  obtain ⟨cs, rfl, hsz⟩ := okWide_struct Try.underlying54 hv
  obtain ⟨fuel, hf⟩ := h
  obtain ⟨y0, y1, y2, n, -, hl, h0, h1, h2⟩ := Go.Deep.trod_struct3 Try.underlying54 hf
  rw [cells54] at hl
  simp only [Value.cells] at hl h0 h1 h2
  obtain ⟨l⟩ := cs
  simp only at hl h0 h1 h2
  simp only [cells52, cells24, cells23] at h0 h1 h2
  obtain ⟨O, hO, e0⟩ := open_of h0
  obtain ⟨nv, n, L, X, e1, hN⟩ := open_next h1
  obtain ⟨tv, e2⟩ : ∃ tv, (l.drop 257).take 1 = [tv] := ⟨l[257], by rw [List.drop_eq_getElem_cons (by omega)]; rfl⟩
  have h2' : DataW.trod enc Try.prog W 0 (fun _ => true) true _ 23 ((l.drop 257).take 1) = some y2 := h2
  rw [e2] at h2'
  obtain ⟨a1, n1, cap1, rfl⟩ : ∃ a n cap, tv = .slice a n cap := by
    rcases Go.Deep.open_slice Try.underlying23 h2' with ⟨hcs, hx⟩ | ⟨a', len', cap', m, k, D, Pl, hcs, _⟩
    · simp at hcs; exact ⟨_, _, _, hcs⟩
    · simp at hcs; exact ⟨_, _, _, hcs⟩
  obtain ⟨T, hT⟩ := open_tags a1 n1 cap1 rfl h2'
  refine ⟨O, nv, _, n, n1, L, X, T, ?_, hO, hN, hT⟩
  have e0' : l.take 256 = ol O := by simpa using e0
  have e1' : (l.drop 256).take 1 = [nv] := e1
  have : l = l.take 256 ++ ((l.drop 256).take 1 ++ (l.drop 257).take 1) := by
    apply List.ext_getElem?
    intro j
    rw [List.getElem?_append, List.length_take]
    split
    · rw [List.getElem?_take_of_lt (by omega)]
    · rw [List.getElem?_append]
      simp only [List.length_take, List.length_drop]
      split
      · rw [List.getElem?_take_of_lt (by omega), List.getElem?_drop]; congr 1; omega
      · by_cases hj : j < 258
        · rw [List.getElem?_take_of_lt (by omega), List.getElem?_drop]; congr 1; omega
        · rw [List.getElem?_eq_none (by omega), List.getElem?_eq_none (by simp; omega)]
  rw [this, e0', e1', e2]
  rfl
end Go.Proofs.Ytlmlkpdppkgenaa.Pk

namespace Go.Proofs.Ytlmlkpdppkgenaa.Pk
open Go.RowKit
open Dfa

set_option maxHeartbeats 1600000 in
set_option maxRecDepth 20000 in
theorem upTo_any (tv : Value) (m : Nat) (T : Nat → Int) (c : Int) (w : World) (ht : Ts w tv m T) :
    Calls Try.prog 69 #[tv, .int .i64 c] w fun e w' => e = .returned (.bool (upOk m T c)) ∧ w' = w := by
  obtain ⟨ao, cap, rfl, hm, hwf, hcs⟩ := ht
  clear hwf
  go_enter Try.func69, Try.ntmps69
  go_wp2_with fail
  go_loopw [9] (fun i wr => ∃ k : Nat, k ≤ m ∧ i = .int .i64 (k : Int) ∧ Hid (∀ i, i < k → (decide (-1 ≤ T i) && decide (T i ≤ c)) = true) ∧ wr = w) (fun i _ => m - (intOf i).toNat)
  case atStart => exact ⟨0, by omega, rfl, fun i hi => by omega, rfl⟩
  case round =>
    obtain ⟨k, hk, rfl, HA, rfl⟩ := hrel
    by_cases hlt : k < m
    · obtain ⟨b, o, rfl, hb, hc⟩ := hcs.resolve_left (by omega)
      have c0 := hc k hlt
      obtain ⟨z, HZ⟩ : ∃ z, Hid (T k = z) := ⟨_, (rfl : T k = T k)⟩
      rw [HZ.out] at c0
      have hk0 : (0 : Int) ≤ (k : Int) := by omega
      have hk1 : (k : Int) < (m : Int) := by omega
      clear hcs hc
      by_cases h1 : z < -1
      · go_wp2_with fail
        go_ret
        refine ⟨?_, rfl⟩
        rw [show upOk m T c = false from all_false hlt (by rw [HZ.out]; simp; omega)]
        rfl
      · by_cases h2 : c < z
        · go_wp2_with fail
          go_ret
          refine ⟨?_, rfl⟩
          rw [show upOk m T c = false from all_false hlt (by rw [HZ.out]; simp; omega)]
          rfl
        · go_wp2_with fail
          go_roundw
          case rel =>
            refine ⟨k + 1, by omega, by go_num, fun i hi => ?_, by trivial⟩
            by_cases e : i = k
            · subst e; rw [HZ.out]; simp; omega
            · exact HA.out i (by omega)
          case measure => simp [intOf]; omega
    · go_wp2_with fail
      go_ret
      refine ⟨?_, rfl⟩
      rw [show upOk m T c = true from all_true fun i hi => HA.out i (by omega)]
      rfl

set_option maxHeartbeats 1600000 in
set_option maxRecDepth 20000 in
theorem states_any (nv : Value) (n : Nat) (L : Nat → Nat) (X : Nat → Nat → Int) (w : World) (hx : Nx w nv n L X) :
    Calls Try.prog 68 #[nv] w fun e w' => e = .returned (.bool (statesOk n L X)) ∧ w' = w := by
  obtain ⟨ao, cap, rfl, hm, hcs⟩ := hx
  go_enter Try.func68, Try.ntmps68
  go_wp2_with fail
  go_loopw [7] (fun i wr => ∃ k : Nat, k ≤ n ∧ i = .int .i64 (k : Int) ∧ Hid (∀ i, i < k → upOk (L i) (X i) ((n : Int) - 1) = true) ∧ wr = w) (fun i _ => n - (intOf i).toNat)
  case atStart => exact ⟨0, by omega, rfl, fun i hi => by omega, rfl⟩
  case round =>
    obtain ⟨k, hk, rfl, HA, rfl⟩ := hrel
    by_cases hlt : k < n
    · obtain ⟨b, o, rfl, hb, hc⟩ := hcs.resolve_left (by omega)
      obtain ⟨u, c0, hu⟩ := hc k hlt
      have HU : Hid (Ts wr u (L k) (X k)) := hu
      have hk0 : (0 : Int) ≤ (k : Int) := by omega
      have hk1 : (k : Int) < (n : Int) := by omega
      obtain ⟨ao, cap', rfl, -, -, -⟩ := hu
      clear hcs hc
      go_wp2_with fail
      refine (upTo_any _ (L k) (X k) ((n : Int) - 1) wr HU.out).mono ?_
      rintro _ w1 ⟨rfl, rfl⟩
      rcases hr : upOk (L k) (X k) ((n : Int) - 1) with _ | _
      · go_wp2_with fail
        go_ret
        refine ⟨?_, rfl⟩
        rw [show statesOk n L X = false from all_false hlt hr]
        rfl
      · have HR : Hid (upOk (L k) (X k) ((n : Int) - 1) = true) := hr
        clear hr
        go_wp2_with fail
        go_roundw
        case rel =>
          refine ⟨k + 1, by omega, by go_num, fun i hi => ?_, by trivial⟩
          by_cases e : i = k
          · subst e; exact HR.out
          · exact HA.out i (by omega)
        case measure => simp [intOf]; omega
    · go_wp2_with fail
      go_ret
      refine ⟨?_, rfl⟩
      rw [show statesOk n L X = true from all_true fun i hi => HA.out i (by omega)]
      rfl

set_option maxHeartbeats 1600000 in
set_option maxRecDepth 20000 in
theorem max_any (b o n cap : Nat) (O : Nat → Nat) (w : World) (h0 : 0 < n) (hn : n ≤ 9223372036854775807) (hO : ∀ j, O j < 256) (hc : ∀ j, j < n → w.cell? ⟨b, o + j, none⟩ = some (.int .u8 (O j : Int))) :
    Calls Try.prog 78 #[.slice (some ⟨b, o, none⟩) n cap] w fun e w' => e = .returned (.int .u8 (mx O n : Int)) ∧ w' = w := by
  have HC : Hid (∀ j, j < n → w.cell? ⟨b, o + j, none⟩ = some (.int .u8 (O j : Int))) := hc
  have c0 : w.cell? ⟨b, o, none⟩ = some (.int .u8 (O 0 : Int)) := by simpa using hc 0 h0
  have HO : Hid (∀ j, O j < 256) := hO
  clear hc hO
  have h1 : ¬ ((n : Int) < 1) := by omega
  have h2 : (0 : Int) < (n : Int) := by omega
  obtain ⟨z, HZ⟩ : ∃ z, Hid (O 0 = z) := ⟨_, (rfl : O 0 = O 0)⟩
  rw [HZ.out] at c0
  go_enter Try.func78, Try.ntmps78
  go_wp2_with fail
  go_loopw [4, 3] (fun i v wr => ∃ k q : Nat, k ≤ n ∧ i = .int .i64 (k : Int) ∧ v = .int .u8 (q : Int) ∧ Hid (mx O k = q) ∧ wr = w) (fun i _ _ => n - (intOf i).toNat)
  case atStart => exact ⟨1, z, by omega, rfl, rfl, by show _ = _; simp [mx]; exact HZ.out, rfl⟩
  case round =>
    obtain ⟨k, q, hk, rfl, rfl, HA, rfl⟩ := hrel
    clear c0
    by_cases hlt : k < n
    · have c1 := HC.out k hlt
      have hk0 : (0 : Int) ≤ (k : Int) := by omega
      have hk1 : (k : Int) < (n : Int) := by omega
      obtain ⟨x, HX⟩ : ∃ x, Hid (O k = x) := ⟨_, (rfl : O k = O k)⟩
      rw [HX.out] at c1
      go_wp2_with fail
      go_roundw
      case rel =>
        refine ⟨k + 1, max q x, by omega, by go_num, ?_, ?_, by trivial⟩
        · congr 1; omega
        · show _ = _; simp only [mx]; rw [HA.out, HX.out]
      case measure => simp [intOf]; omega
    · go_wp2_with fail
      go_ret
      refine ⟨?_, rfl⟩
      rw [← HA.out, show k = n by omega]; rfl
end Go.Proofs.Ytlmlkpdppkgenaa.Pk

namespace Go.Proofs.Ytlmlkpdppkgenaa.Pk
open Go.RowKit
open Dfa

theorem us_block (w : World) (O : Nat → Nat) : ∀ j, j < 256 → (w.alloc (.cells (ol O).toArray 52)).cell? ⟨w.heap.size, 0 + j, none⟩ = some (.int .u8 (O j : Int)) := fun j hj => by
  rw [Nat.zero_add, cell_of_block, ol_at O j hj]

theorem max_of (w : World) (O : Nat → Nat) (hO : ∀ j, O j < 256) : ∃ q : Nat, q < 256 ∧ (∀ c : Nat, decide ((q : Int) < (c : Int)) = ofOk O c) ∧
    Calls Try.prog 78 #[.slice (some ⟨w.heap.size, 0, none⟩) 256 256] (w.alloc (.cells (ol O).toArray 52)) fun e w' => e = .returned (.int .u8 (q : Int)) ∧ w' = (w.alloc (.cells (ol O).toArray 52)) :=
  ⟨mx O 256, mx_le O hO 256, mx_of O, max_any w.heap.size 0 256 256 O (w.alloc (.cells (ol O).toArray 52)) (by omega) (by omega) hO (us_block w O)⟩

set_option maxHeartbeats 1600000 in
set_option maxRecDepth 20000 in
theorem cols_any (O : Nat → Nat) (nv : Value) (n : Nat) (L : Nat → Nat) (X : Nat → Nat → Int) (w : World) (h0 : 0 < n) (hO : ∀ j, O j < 256) (hx : Nx w nv n L X) :
    Calls Try.prog 67 #[.agg (ol O).toArray, nv] w fun e w' => e = .returned (.bool (colsOk n O L)) ∧ Below w.heap.size w w' := by
  obtain ⟨ao, cap, rfl, hm, hcs⟩ := hx
  obtain ⟨b, o, rfl, hb, hc⟩ := hcs.resolve_left (by omega)
  clear hcs
  obtain ⟨q, hq, hmof, HM⟩ := max_of w O hO
  obtain ⟨l, HLL⟩ : ∃ l, Hid (ol O = l) := ⟨_, (rfl : ol O = ol O)⟩
  rw [HLL.out] at HM ⊢
  have B0 : Below w.heap.size w (w.alloc (Obj.cells l.toArray 52)) := (Below.refl _ _).alloc (Nat.le_refl _) _
  have HC : Hid (∀ i, i < n → ∃ a c, (w.alloc (Obj.cells l.toArray 52)).cell? ⟨b, o + i, none⟩ = some (.slice a (L i) c) ∧ L i ≤ 9223372036854775807) := fun i hi => by
    obtain ⟨u, g1, a, c, rfl, hl, -⟩ := hc i hi
    exact ⟨a, c, (B0.cell (p := ⟨b, o + i, none⟩) hb).trans g1, hl⟩
  have HO : Hid (∀ j, O j < 256) := hO
  obtain ⟨a0, cp0, c0, hl0⟩ := HC.out 0 h0
  rw [Nat.add_zero] at c0
  have hmw : (q : Int) < 256 := by omega
  have HMO : Hid (∀ c : Nat, decide ((q : Int) < (c : Int)) = ofOk O c) := hmof
  have HM' : Hid (Calls Try.prog 78 #[.slice (some ⟨w.heap.size, 0, none⟩) 256 256] (w.alloc (.cells l.toArray 52)) fun e w' => e = .returned (.int .u8 (q : Int)) ∧ w' = (w.alloc (.cells l.toArray 52))) := HM
  obtain ⟨l0, HL⟩ : ∃ l, Hid (L 0 = l) := ⟨_, (rfl : L 0 = L 0)⟩
  rw [HL.out] at c0 hl0
  clear hc hO HM hmof
  obtain ⟨wa, HW⟩ : ∃ wa, Hid (w.alloc (Obj.cells l.toArray 52) = wa) := ⟨_, (rfl : w.alloc _ = w.alloc _)⟩
  rw [HW.out] at HC HM' B0
  have h2 : (0 : Int) < (n : Int) := by omega
  go_enter Try.func67, Try.ntmps67
  go_wp2_with fail
  rw [HW.out] at c0
  go_loopw [14] (fun i wr => ∃ k : Nat, k ≤ n ∧ i = .int .i64 (k : Int) ∧ Hid (∀ i, i < k → decide (L i = L 0) = true) ∧ wr = wa) (fun i _ => n - (intOf i).toNat)
  case atStart => exact ⟨0, by omega, rfl, fun i hi => by omega, HW.out⟩
  case round =>
    obtain ⟨k, hk, rfl, HA, rfl⟩ := hrel
    by_cases hlt : k < n
    · obtain ⟨a1, cp1, c1, hl1⟩ := HC.out k hlt
      have hk0 : (0 : Int) ≤ (k : Int) := by omega
      have hk1 : (k : Int) < (n : Int) := by omega
      obtain ⟨l1, HL1⟩ : ∃ l, Hid (L k = l) := ⟨_, (rfl : L k = L k)⟩
      rw [HL1.out] at c1 hl1
      by_cases he : l1 = l0
      · have HE : Hid (l1 = l0) := he
        subst he
        have hbb : ((l1 : Int) != (l1 : Int)) = false := by simp
        go_wp2_with fail
        go_roundw
        case rel =>
          refine ⟨k + 1, by omega, by go_num, fun i hi => ?_, by trivial⟩
          by_cases e : i = k
          · subst e; rw [HL1.out, HL.out]; simp
          · exact HA.out i (by omega)
        case measure => simp [intOf]; omega
      · have hbb : ((l1 : Int) != (l0 : Int)) = true := by simp; omega
        have HE : Hid (¬ l1 = l0) := he
        clear he
        go_wp2_with fail
        go_ret
        refine ⟨?_, B0⟩
        rw [show colsOk n O L = false by unfold colsOk; rw [show lensOk n L = false from all_false hlt (by rw [HL1.out, HL.out]; simp; exact HE.out)]; rfl]
        rfl
    · have HA' : Hid (lensOk n L = true) := all_true fun i hi => HA.out i (by omega)
      by_cases h3 : l0 ≤ 256
      · have h3' : (l0 : Int) ≤ 256 := by omega
        have hwr : IntKind.i64.wrap (q : Int) = (q : Int) := wrap_small (by omega)
        go_wp2_with fail
        refine HM'.out.mono ?_
        rintro _ w1 ⟨rfl, rfl⟩
        go_wp2_with fail
        go_ret
        refine ⟨?_, B0⟩
        rw [show colsOk n O L = decide (q < l0) by unfold colsOk; rw [HA'.out, HL.out, ← HMO.out l0]; simp; intro _; exact h3]
        rfl
      · have h3' : ¬ ((l0 : Int) ≤ 256) := by omega
        go_wp2_with fail
        go_ret
        refine ⟨?_, B0⟩
        rw [show colsOk n O L = false by unfold colsOk; rw [HA'.out, HL.out]; simp [h3]]; rfl

/-- A packed automaton in its box. -/
structure Px (w0 : World) (g : Nat) (O : Nat → Nat) (nv tv : Value) (n m : Nat) (L : Nat → Nat) (X : Nat → Nat → Int) (T : Nat → Int) (l : List Value) (w : World) : Prop where
  c1 : w.cell? ⟨g, 256, none⟩ = some nv
  c2 : w.cell? ⟨g, 257, none⟩ = some tv
  of : ∀ j, j < 256 → w.cell? ⟨g, j, none⟩ = some (.int .u8 (O j : Int))
  all : w.rangeAt g 0 (pl O nv tv)
  cols : w.rangeAt g 0 (ol O)
  next : Nx w nv n L X
  tags : Ts w tv m T
  lt : g < w.heap.size
  below : Below w0.heap.size w0 w
theorem Px.box {w : World} {O : Nat → Nat} {nv tv : Value} {n m : Nat} {L : Nat → Nat} {X : Nat → Nat → Int} {T : Nat → Int} {l : List Value} (hl : pl O nv tv = l) (hx : Nx w nv n L X) (ht : Ts w tv m T) :
    Px w w.heap.size O nv tv n m L X T l (w.alloc (Obj.cells l.toArray 54)) := by
  have B0 : Below w.heap.size w (w.alloc (Obj.cells l.toArray 54)) := (Below.refl _ _).alloc (Nat.le_refl _) _
  have hr := range_block w l 54
  subst hl
  refine ⟨?_, ?_, ?_, hr, ?_, hx.below B0 (Nat.le_refl _), ht.below B0 (Nat.le_refl _), by simp, B0⟩
  · rw [cell_of_block, pl_next]
  · rw [cell_of_block, pl_tags]
  · intro j hj; rw [cell_of_block, pl_of _ _ _ j hj]
  · intro j v hv
    have hj : j < 256 := by have := (List.getElem?_eq_some_iff.1 hv).1; rwa [ol_length] at this
    rw [ol_at O j hj] at hv
    rw [Nat.zero_add, cell_of_block, pl_of _ _ _ j hj, hv]
theorem Px.step {w0 : World} {g : Nat} {O : Nat → Nat} {nv tv : Value} {n m : Nat} {L : Nat → Nat} {X : Nat → Nat → Int} {T : Nat → Int} {l : List Value} {w w' : World} (h : Px w0 g O nv tv n m L X T l w) (hb : Below w.heap.size w w') :
    Px w0 g O nv tv n m L X T l w' :=
  ⟨(hb.cell (p := ⟨g, 256, none⟩) h.lt).trans h.c1, (hb.cell (p := ⟨g, 257, none⟩) h.lt).trans h.c2, fun j hj => (hb.cell (p := ⟨g, j, none⟩) h.lt).trans (h.of j hj),
    fun j v hv => (hb.cell (p := ⟨g, 0 + j, none⟩) h.lt).trans (h.all j v hv), fun j v hv => (hb.cell (p := ⟨g, 0 + j, none⟩) h.lt).trans (h.cols j v hv),
    h.next.below hb (Nat.le_refl _), h.tags.below hb (Nat.le_refl _), Nat.lt_of_lt_of_le h.lt hb.size, h.below.trans (hb.mono h.below.size)⟩

set_option maxHeartbeats 1600000 in
set_option maxRecDepth 20000 in
theorem checkP_any (O : Nat → Nat) (nv tv : Value) (n m : Nat) (L : Nat → Nat) (X : Nat → Nat → Int) (T : Nat → Int) (w : World) (hO : ∀ j, O j < 256) (hx : Nx w nv n L X) (ht : Ts w tv m T) :
    Calls Try.prog 46 #[.agg (pl O nv tv).toArray] w fun e w' => e = .returned (.int .i64 (chkP n m O L X T)) ∧ Below w.heap.size w w' := by
  have HO : Hid (∀ j, O j < 256) := hO
  obtain ⟨l, HLL⟩ : ∃ l, Hid (pl O nv tv = l) := ⟨_, (rfl : pl O nv tv = pl O nv tv)⟩
  have HP : Hid (Px w w.heap.size O nv tv n m L X T l (w.alloc (Obj.cells l.toArray 54))) := Px.box HLL.out hx ht
  have HI : Hid ((w.alloc (Obj.cells l.toArray 54)).rangeAt w.heap.size 0 (ol O)) := HP.out.cols
  rw [HLL.out]
  obtain ⟨ao, cap, rfl, hn, -⟩ := hx
  obtain ⟨ao', cap', rfl, hm, hwf', -⟩ := ht
  clear hwf' hO
  have c1 := HP.out.c1
  have c2 := HP.out.c2
  go_enter Try.func46, Try.ntmps46
  by_cases h1 : 200 < n
  · have h1' : (200 : Int) < (n : Int) := by omega
    go_wp2_with fail
    go_ret
    exact ⟨by unfold chkP; rw [if_pos h1]; rfl, HP.out.below⟩
  · by_cases h2 : n = 0 ∨ m ≠ n
    · have E : Hid (chkP n m O L X T = 1) := by show _ = _; unfold chkP; rw [if_neg h1, if_pos h2]
      by_cases h3 : n = 0
      · subst h3
        go_wp2_with fail
        go_ret
        exact ⟨by rw [E.out]; rfl, HP.out.below⟩
      · have h4 : m ≠ n := by omega
        have h5 : ((m : Int) != (n : Int)) = true := by simp; omega
        have h6 : ((n : Int) == 0) = false := by simp; omega
        go_wp2_with fail
        go_ret
        exact ⟨by rw [E.out]; rfl, HP.out.below⟩
    · obtain rfl : m = n := by omega
      have h6 : ¬ ((m : Int) = 0) := by omega
      have hm0 : 0 < m := by omega
      have HQ := cols_any O (.slice ao m cap) m L X _ hm0 HO.out HP.out.next
      have E : Hid (chkP m m O L X T = if colsOk m O L = true ∧ statesOk m L X = true ∧ upOk m T 19 = true then 0 else 1) := by show _ = _; unfold chkP; rw [if_neg h1, if_neg h2]
      obtain ⟨l2, HL2⟩ : ∃ l, Hid (ol O = l) := ⟨_, (rfl : ol O = ol O)⟩
      rw [HL2.out] at HI HQ
      have hl2 : (Try.prog.info? 52).map (·.size) = some l2.length := by rw [← HL2.out, ol_length]; exact size44
      have HS : Hid ((Try.prog.info? 52).map (·.size) = some l2.length) := hl2
      have HQ' : Hid (Calls Try.prog 67 #[.agg l2.toArray, .slice ao m cap] (w.alloc (Obj.cells l.toArray 54)) fun e w' => e = .returned (.bool (colsOk m O L)) ∧ Below (w.alloc (Obj.cells l.toArray 54)).heap.size (w.alloc (Obj.cells l.toArray 54)) w') := HQ
      clear hl2 HQ
      go_wp2_with (refine wpList_load_mid rfl 52 _ rfl w.heap.size 0 rfl l2 _ HI.out Try.underlying52 rfl HS.out ?_)
      refine HQ'.out.mono ?_
      rintro _ w1 ⟨rfl, hb1⟩
      have HP1 : Hid (Px w w.heap.size O (.slice ao m cap) (.slice ao' m cap') m m L X T l w1) := HP.out.step hb1
      have d1 := HP1.out.c1
      have d2 := HP1.out.c2
      clear c1 c2 hb1 HQ' HI
      rcases hcs : colsOk m O L with _ | _
      · go_wp2_with fail
        go_ret
        exact ⟨by rw [E.out, hcs]; rfl, HP1.out.below⟩
      · go_wp2_with fail
        refine (states_any _ m L X w1 HP1.out.next).mono ?_
        rintro _ w2 ⟨rfl, rfl⟩
        rcases hss : statesOk m L X with _ | _
        · go_wp2_with fail
          go_ret
          exact ⟨by rw [E.out, hcs, hss]; rfl, HP1.out.below⟩
        · go_wp2_with fail
          refine (upTo_any _ m T 19 w2 HP1.out.tags).mono ?_
          rintro _ w3 ⟨rfl, rfl⟩
          rcases hts : upOk m T 19 with _ | _
          · go_wp2_with fail
            go_ret
            exact ⟨by rw [E.out, hcs, hss, hts]; rfl, HP1.out.below⟩
          · go_wp2_with fail
            go_ret
            exact ⟨by rw [E.out, hcs, hss, hts]; rfl, HP1.out.below⟩
end Go.Proofs.Ytlmlkpdppkgenaa.Pk

namespace Go.Proofs.Ytlmlkpdppkgenaa.Pk
open Go.RowKit
open Dfa

theorem Nx.cells {w : World} {b o n cap : Nat} {L : Nat → Nat} {X : Nat → Nat → Int} (h : Nx w (.slice (some ⟨b, o, none⟩) n cap) n L X) (i : Nat) (hi : i < n) :
    ∃ a c, w.cell? ⟨b, o + i, none⟩ = some (.slice a (L i) c) ∧ L i ≤ 9223372036854775807 ∧ Ts w (.slice a (L i) c) (L i) (X i) := by
  obtain ⟨ao, cap, e, -, h | ⟨b', o', e', -, hc⟩⟩ := h
  · omega
  · subst e'
    simp at e
    obtain ⟨⟨rfl, rfl⟩, -⟩ := e
    obtain ⟨u, g, hu⟩ := hc i hi
    have hu' := hu
    obtain ⟨a, c, rfl, hl, -⟩ := hu
    exact ⟨a, c, g, hl, hu'⟩
theorem Ts.cells {w : World} {b o n cap : Nat} {T : Nat → Int} (h : Ts w (.slice (some ⟨b, o, none⟩) n cap) n T) (i : Nat) (hi : i < n) : w.cell? ⟨b, o + i, none⟩ = some (.int .i64 (T i)) := by
  obtain ⟨ao, cap, e, -, -, h | ⟨b', o', e', -, hc⟩⟩ := h
  · omega
  · subst e'
    simp at e
    obtain ⟨⟨rfl, rfl⟩, -⟩ := e
    exact hc i hi
theorem Ts.place {w : World} {a : Option Addr} {n cap : Nat} {T : Nat → Int} (h : Ts w (.slice a n cap) n T) (h0 : 0 < n) : ∃ b o, a = some ⟨b, o, none⟩ ∧ b < w.heap.size := by
  obtain ⟨ao, cap, e, -, -, h | ⟨b', o', e', hb, hc⟩⟩ := h
  · omega
  · simp at e
    exact ⟨b', o', e.1.trans e', hb⟩
theorem Nx.place {w : World} {a : Option Addr} {n cap : Nat} {L : Nat → Nat} {X : Nat → Nat → Int} (h : Nx w (.slice a n cap) n L X) (h0 : 0 < n) : ∃ b o, a = some ⟨b, o, none⟩ ∧ b < w.heap.size := by
  obtain ⟨ao, cap, e, -, h | ⟨b', o', e', hb, hc⟩⟩ := h
  · omega
  · simp at e
    exact ⟨b', o', e.1.trans e', hb⟩
theorem Px.drew {w0 : World} {g : Nat} {O : Nat → Nat} {nv tv : Value} {n m : Nat} {L : Nat → Nat} {X : Nat → Nat → Int} {T : Nat → Int} {l : List Value} {w : World} (h : Px w0 g O nv tv n m L X T l w) (k : Nat) : Px w0 g O nv tv n m L X T l (w.drewN k) :=
  h.step (below_drewN (Below.refl _ _) k)

end Go.Proofs.Ytlmlkpdppkgenaa.Pk

namespace Go.Proofs.Ytlmlkpdppkgenaa.Pk
open Go.RowKit

/-- A world of which S holds. -/
structure Kp (S : World → Prop) where
  W : World
  h : S W

theorem wp_region_kept {P : Program} {S : World → Prop} {id : Nat} {Q : Exit → Act → World → Prop} {a : Act} {w : World} {l : List Oper} (hm : P.follows .mixedOrders = true) (hB : Region.lexB .any l.toArray = true) (h0 : S w.drew)
    (h : wpQuiet P l.toArray (fun w' => ∃ p : Kp S, w' = p.W) (fun a' => ∀ w', (∃ p : Kp S, w' = p.W) → Q .normal a' w') l a) : (Code.region id l.toArray true).wp P Q a w :=
  wp_region_quiet (C := fun w' => ∃ p : Kp S, w' = p.W) hm hB ⟨⟨_, h0⟩, rfl⟩ (by simpa using h)

theorem Kp.calls {P : Program} {f : FuncId} {args : Array Value} {S : World → Prop} {v : Value} (p : Kp S) (hS : ∀ W W', S W → Below W.heap.size W W' → S W')
    (h : Calls P f args p.W fun e w' => e = .returned v ∧ Below p.W.heap.size p.W w') : Calls P f args p.W fun e w'' => e = .returned v ∧ ∃ q : Kp S, w'' = q.W :=
  h.mono fun _ w' ⟨h1, h2⟩ => ⟨h1, ⟨w', hS _ _ p.h h2⟩, rfl⟩
theorem mixed : Try.prog.follows .mixedOrders = true := by kernel_rfl
/-- The same memory. -/
structure Sm (w W : World) : Prop where
  heap : W.heap = w.heap
  os : W.os = w.os
  tape : W.tape = w.tape
  output : W.output = w.output
theorem Sm.drew (w : World) : Sm w w.drew := ⟨rfl, rfl, rfl, rfl⟩
theorem Sm.cell {w W : World} (h : Sm w W) (a : Addr) : W.cell? a = w.cell? a := by simp [World.cell?, h.heap]
theorem Sm.frozen {w W : World} (h : Sm w W) (a : Addr) : W.frozen? a = w.frozen? a := by simp [World.frozen?, h.heap]
theorem Sm.below {w W : World} (h : Sm w W) (B : Nat) : Below B w W := ⟨h.os, h.tape, h.output, by rw [h.heap]; exact Nat.le_refl _, fun k _ => by rw [h.heap]⟩
theorem no_way {p : Prop} (h : false = true) : p := by cases h
theorem dep_of {l : List Edge} {d : Nat → Bool} (h : ∀ e ∈ l, Region.binds .any e = true → d e.on = true) (j : Nat) (hj : l.any (fun e => Region.binds .any e && e.on == j) = true) : d j = true := by
  obtain ⟨e, he, h2⟩ := List.any_eq_true.1 hj
  simp only [Bool.and_eq_true, beq_iff_eq] at h2
  rw [← h2.2]; exact h e he h2.1
theorem no_later {d : Nat → Bool} {i j : Nat} (h : d j = true → d i = true) (hi : d i = false) : d j = false := by
  cases e : d j with
  | false => rfl
  | true => rw [h e] at hi; cases hi
end Go.Proofs.Ytlmlkpdppkgenaa.Pk

namespace Go.Proofs.Ytlmlkpdppkgenaa.Pk
open Go.RowKit

/-- One operation, wherever it comes up. -/
def StepAt (P : Program) (ops : Array Oper) (Q : Exit → Act → World → Prop) (I : (Nat → Bool) → Act → World → Prop) (i : Nat) (o : Oper) : Prop :=
  ∀ d a w, I d a w → d i = false → (∀ e ∈ o.after.toList, Region.binds .any e = true → d e.on = true) →
    ∀ K : Act → World → Prop, Shut (∀ a' w', I (fun j => if j = i then true else d j) a' w' → K a' w') → if Region.wanted o (yielded ops a.tmps) = true then Oper.wp P o a w K Q else K (a.put o.dst undef) w
/-- All of them. -/
def StepAll (P : Program) (ops : Array Oper) (Q : Exit → Act → World → Prop) (I : (Nat → Bool) → Act → World → Prop) : Nat → List Oper → Prop
  | _, [] => True
  | i, o :: l => StepAt P ops Q I i o ∧ StepAll P ops Q I (i + 1) l
theorem StepAll.at {P : Program} {ops : Array Oper} {Q : Exit → Act → World → Prop} {I : (Nat → Bool) → Act → World → Prop} : ∀ {l : List Oper} {i : Nat}, StepAll P ops Q I i l → ∀ {j : Nat} {o : Oper}, l[j]? = some o → StepAt P ops Q I (i + j) o
  | [], _, _, _, _, h => by simp at h
  | x :: l, i, hs, 0, o, h => by
    simp at h; subst h
    exact hs.1
  | x :: l, i, hs, j + 1, o, h => by
    have := StepAll.at (l := l) (i := i + 1) hs.2 (j := j) (o := o) (by simpa using h)
    rwa [show i + 1 + j = i + (j + 1) by omega] at this
/-- Each operation waits for elder ones alone. -/
def backB (ops : List Oper) : Bool := (List.range ops.length).all fun i => match ops[i]? with | some o => o.after.toList.all (fun e => decide (e.on < i)) | none => true
def left (n : Nat) (listed : Array Bool) : Nat := ((List.range n).filter fun i => !listed.getD i true).length
theorem filter_drop {p q : Nat → Bool} : ∀ {l : List Nat} {i : Nat}, i ∈ l → p i = true → q i = false → (∀ j, q j = true → p j = true) → (l.filter q).length < (l.filter p).length
  | x :: l, i, hm, hp, hq, hi => by
    have hle : ∀ l : List Nat, (l.filter q).length ≤ (l.filter p).length := fun l => by
      induction l with
      | nil => simp
      | cons y l ih =>
        by_cases h : q y = true
        · simp [h, hi y h]; exact ih
        · simp only [List.filter_cons, h]
          by_cases h2 : p y = true
          · simp [h2]; omega
          · simp [h2]; exact ih
    rcases List.mem_cons.1 hm with rfl | hm
    · simp only [List.filter_cons, hp, hq, if_true, List.length_cons]
      have := hle l
      simp; omega
    · have ih := filter_drop hm hp hq hi
      by_cases h : q x = true
      · simp [h, hi x h]; exact ih
      · simp only [List.filter_cons, h]
        by_cases h2 : p x = true
        · simp [h2]; omega
        · simp [h2]; exact ih
theorem left_set {n i : Nat} {listed : Array Bool} (hi : i < n) (h : listed.getD i true = false) : left n (listed.setIfInBounds i true) < left n listed := by
  have hs : i < listed.size := by
    rcases Nat.lt_or_ge i listed.size with h' | h'
    · exact h'
    · simp [Array.getElem?_eq_none h'] at h
  refine filter_drop (List.mem_range.2 hi) (by simp only [h]; rfl) (by simp [hs]) fun j hj => ?_
  by_cases e : i = j
  · subst e; simp [hs] at hj
  · rwa [getD_set_ne true e] at hj
theorem done_of_ready {ops : Array Oper} {listed : Array Bool} (hB : backB ops.toList = true) (hsz : listed.size = ops.size) (h : Region.ready .any ops listed = []) : ∀ i, i < ops.size → listed.getD i false = true := by
  intro i
  induction i using Nat.strongRecOn with
  | ind i ih =>
    intro hi
    cases hl : listed.getD i true with
    | true => simpa [hsz, hi] using hl
    | false =>
      exfalso
      have hm : i ∈ Region.ready .any ops listed := by
        rw [mem_ready]
        refine ⟨hl, ops[i], by simp [hi], fun e he hb => ?_⟩
        have h1 := List.all_eq_true.1 hB i (List.mem_range.2 (by simpa using hi))
        simp only [Array.length_toList, hi, List.getElem?_eq_getElem, Array.getElem_toList] at h1
        have h2 := List.all_eq_true.1 h1 e (by simpa using he)
        have h3 : e.on < i := by simpa using h2
        exact ih e.on h3 (by omega)
      rw [h] at hm; cases hm
theorem wpAny_inv {P : Program} {ops : Array Oper} {Q : Exit → Act → World → Prop} {I : (Nat → Bool) → Act → World → Prop} (hB : backB ops.toList = true) (hS : StepAll P ops Q I 0 ops.toList) (hE : ∀ d a w, I d a w → (∀ i, i < ops.size → d i = true) → Q .normal a w) :
    ∀ (fuel : Nat) (listed : Array Bool) (a : Act) (w : World), listed.size = ops.size → left ops.size listed ≤ fuel → I (fun i => listed.getD i false) a w → wpAny P .any ops Q fuel listed a w
  | 0, listed, a, w, hsz, hl, hI => by
    have hr : Region.ready .any ops listed = [] := by
      refine List.eq_nil_iff_forall_not_mem.2 fun i hi => ?_
      have h1 := mem_ready.1 hi
      obtain ⟨h2, o, ho, _⟩ := h1
      have := left_set (listed := listed) (Array.getElem?_eq_some_iff.1 ho).1 h2
      omega
    exact ⟨hr, hE _ _ _ hI (done_of_ready hB hsz hr)⟩
  | fuel + 1, listed, a, w, hsz, hl, hI => by
    refine ⟨fun hr => hE _ _ _ hI (done_of_ready hB hsz hr), fun i hi => ?_⟩
    obtain ⟨h2, o, ho, hdep⟩ := mem_ready.1 hi
    have hlt : i < ops.size := (Array.getElem?_eq_some_iff.1 ho).1
    have hst := StepAll.at hS (j := i) (o := o) (by simpa using ho)
    rw [Nat.zero_add] at hst
    have h2' : listed.getD i false = false := by simpa [hsz, hlt] using h2
    refine wpOp_step ho fun K hK => ?_
    refine hst _ a w hI h2' (fun e he hb => hdep e (by simpa using he) hb) K fun a' w' hI' => hK a' w' ?_
    refine wpAny_inv hB hS hE fuel _ a' w' (by simpa using hsz) (by have := left_set (n := ops.size) hlt h2; omega) ?_
    have : (fun j => (listed.setIfInBounds i true).getD j false) = fun j => if j = i then true else listed.getD j false := by
      funext j
      by_cases e : j = i
      · subst e; simp [hsz, hlt]
      · rw [if_neg e, getD_set_ne false (Ne.symm e)]
    rw [this]; exact hI'
theorem wp_region_inv {P : Program} {id : Nat} {l : List Oper} {Q : Exit → Act → World → Prop} {a : Act} {w : World} (hm : P.follows .mixedOrders = true) (I : Act → (Nat → Bool) → Act → World → Prop) (hB : backB l = true) (h0 : I a (fun _ => false) a w.drew)
    (hS : StepAll P l.toArray Q (I a) 0 l) (hE : ∀ d a' w', I a d a' w' → (∀ i, i < l.length → d i = true) → Q .normal a' w') : (Code.region id l.toArray true).wp P Q a w := by
  refine wp_region_any hm ?_
  refine wpAny_inv (I := I a) (by simpa using hB) (by simpa using hS) (by simpa using hE) _ _ a _ (by simp) ?_ ?_
  · unfold left
    have := List.length_filter_le (fun i => !(Array.replicate l.toArray.size false).getD i true) (List.range l.toArray.size)
    simpa using this
  · have : (fun i => (Array.replicate l.toArray.size false).getD i false) = fun _ => false := by
      funext i
      by_cases h : i < l.toArray.size
      · simp at h; simp [h]
      · simp at h; simp [h]
    rw [this]; exact h0
end Go.Proofs.Ytlmlkpdppkgenaa.Pk

namespace Go.Proofs.Ytlmlkpdppkgenaa.Pk
open Go.RowKit

/-- Each operation waits for elder ones alone, as far as an edge binds. -/
def backF (ops : List Oper) : Bool := (List.range ops.length).all fun i => match ops[i]? with | some o => o.after.toList.all (fun e => !Region.binds .any e || decide (e.on < i)) | none => true
theorem ready_done {ops : Array Oper} {listed : Array Bool} (hB : backF ops.toList = true) (hsz : listed.size = ops.size) (h : Region.ready .any ops listed = []) : ∀ i, i < ops.size → listed.getD i false = true := by
  intro i
  induction i using Nat.strongRecOn with
  | ind i ih =>
    intro hi
    cases hl : listed.getD i true with
    | true => simpa [hsz, hi] using hl
    | false =>
      exfalso
      have hm : i ∈ Region.ready .any ops listed := by
        rw [mem_ready]
        refine ⟨hl, ops[i], by simp [hi], fun e he hb => ?_⟩
        have h1 := List.all_eq_true.1 hB i (List.mem_range.2 (by simpa using hi))
        simp only [Array.length_toList, hi, List.getElem?_eq_getElem, Array.getElem_toList] at h1
        have h2 := List.all_eq_true.1 h1 e (by simpa using he)
        rw [hb] at h2
        have h3 : e.on < i := by simpa using h2
        exact ih e.on h3 (by omega)
      rw [h] at hm; cases hm
theorem wpAny_free {P : Program} {ops : Array Oper} {Q : Exit → Act → World → Prop} {I : (Nat → Bool) → Act → World → Prop} (hB : backF ops.toList = true) (hS : StepAll P ops Q I 0 ops.toList) (hE : ∀ d a w, I d a w → (∀ i, i < ops.size → d i = true) → Q .normal a w) :
    ∀ (fuel : Nat) (listed : Array Bool) (a : Act) (w : World), listed.size = ops.size → left ops.size listed ≤ fuel → I (fun i => listed.getD i false) a w → wpAny P .any ops Q fuel listed a w
  | 0, listed, a, w, hsz, hl, hI => by
    have hr : Region.ready .any ops listed = [] := by
      refine List.eq_nil_iff_forall_not_mem.2 fun i hi => ?_
      have h1 := mem_ready.1 hi
      obtain ⟨h2, o, ho, _⟩ := h1
      have := left_set (listed := listed) (Array.getElem?_eq_some_iff.1 ho).1 h2
      omega
    exact ⟨hr, hE _ _ _ hI (ready_done hB hsz hr)⟩
  | fuel + 1, listed, a, w, hsz, hl, hI => by
    refine ⟨fun hr => hE _ _ _ hI (ready_done hB hsz hr), fun i hi => ?_⟩
    obtain ⟨h2, o, ho, hdep⟩ := mem_ready.1 hi
    have hlt : i < ops.size := (Array.getElem?_eq_some_iff.1 ho).1
    have hst := StepAll.at hS (j := i) (o := o) (by simpa using ho)
    rw [Nat.zero_add] at hst
    have h2' : listed.getD i false = false := by simpa [hsz, hlt] using h2
    refine wpOp_step ho fun K hK => ?_
    refine hst _ a w hI h2' (fun e he hb => hdep e (by simpa using he) hb) K fun a' w' hI' => hK a' w' ?_
    refine wpAny_free hB hS hE fuel _ a' w' (by simpa using hsz) (by have := left_set (n := ops.size) hlt h2; omega) ?_
    have : (fun j => (listed.setIfInBounds i true).getD j false) = fun j => if j = i then true else listed.getD j false := by
      funext j
      by_cases e : j = i
      · subst e; simp [hsz, hlt]
      · rw [if_neg e, getD_set_ne false (Ne.symm e)]
    rw [this]; exact hI'
theorem wp_region_free {P : Program} {id : Nat} {l : List Oper} {Q : Exit → Act → World → Prop} {a : Act} {w : World} (hm : P.follows .mixedOrders = true) (I : Act → (Nat → Bool) → Act → World → Prop) (hB : backF l = true) (h0 : I a (fun _ => false) a w.drew)
    (hS : StepAll P l.toArray Q (I a) 0 l) (hE : ∀ d a' w', I a d a' w' → (∀ i, i < l.length → d i = true) → Q .normal a' w') : (Code.region id l.toArray true).wp P Q a w := by
  refine wp_region_any hm ?_
  refine wpAny_free (I := I a) (by simpa using hB) (by simpa using hS) (by simpa using hE) _ _ a _ (by simp) ?_ ?_
  · unfold left
    have := List.length_filter_le (fun i => !(Array.replicate l.toArray.size false).getD i true) (List.range l.toArray.size)
    simpa using this
  · have : (fun i => (Array.replicate l.toArray.size false).getD i false) = fun _ => false := by
      funext i
      by_cases h : i < l.toArray.size
      · simp at h; simp [h]
      · simp at h; simp [h]
    rw [this]; exact h0
end Go.Proofs.Ytlmlkpdppkgenaa.Pk

namespace Go.Proofs.Ytlmlkpdppkgenaa.Pk
open Go.RowKit

variable {P : Program} {ops : Array Oper} {md : Region.Mode} {C : World → Prop} {LE : Array Bool} {QQ : Act → Prop}

end Go.Proofs.Ytlmlkpdppkgenaa.Pk
