/-
  The plain mathematics of automata: which are right, and where a text leads. What an automaton is that is handed in: its rows of 256 numbers, its tags. No function is walked here. The contracts of package dfa's Check, Run, Tag and of what they call, for whatever automaton and text. The contract of dfa.areStates: it answers whether each number of these rows is none or a state's. The contracts of dfa.Check, dfa.run, dfa.Run and dfa.Tag.
-/
import Derived.Test.YtlmlkpdppkgenaaRows
import Derived.WalkKit
import Derived.ProofKit
import Derived.OpenShut
import Derived.Carry
import Derived.Below
import Derived.Deep.Slices
import Derived.Deep.Strs
import Derived.Lib.SmallJoins
import Derived.Deep.MidRow
import Derived.Deep.WholeRow
import Derived.OwnWalk
import Derived.Deep.QuietTactic
import Derived.BigQuiet
import Derived.WalkSmall
namespace Go.Proofs.Ytlmlkpdppkgenaa.Df.Dfa

/-- Is a number none, or a state's? -/
def numOk (n : Nat) (x : Int) : Bool := decide (-1 ≤ x) && decide (x < (n : Int))
def rowOk (n : Nat) (f : Nat → Int) : Bool := (List.range 256).all fun j => numOk n (f j)
def rowsOk (n : Nat) (R : Nat → Nat → Int) : Bool := (List.range n).all fun i => rowOk n (R i)
def tagOk (x : Int) : Bool := decide (-1 ≤ x) && decide (x < 20)
def tagsOk (m : Nat) (T : Nat → Int) : Bool := (List.range m).all fun i => tagOk (T i)
/-- What Check answers. -/
def chk (n m : Nat) (R : Nat → Nat → Int) (T : Nat → Int) : Int :=
  if 200 < n then 2 else if n = 0 ∨ m ≠ n then 1 else if rowsOk n R = true ∧ tagsOk m T = true then 0 else 1

theorem all_true {n : Nat} {p : Nat → Bool} (h : ∀ i, i < n → p i = true) : (List.range n).all p = true := by
  rw [List.all_eq_true]; intro x hx; exact h x (by simpa using hx)
theorem all_false {n : Nat} {p : Nat → Bool} {i : Nat} (hi : i < n) (h : p i = false) : (List.range n).all p = false := by
  rw [List.all_eq_false]; exact ⟨i, by simpa using hi, by simp [h]⟩
theorem all_at {n : Nat} {p : Nat → Bool} (h : (List.range n).all p = true) (i : Nat) (hi : i < n) : p i = true := by
  rw [List.all_eq_true] at h; exact h i (by simpa using hi)

/-- One byte on. -/
def step (R : Nat → Nat → Int) (s : Int) (b : UInt8) : Int := if s < 0 then s else R s.toNat b.toNat
def goes (R : Nat → Nat → Int) (s : Int) (l : List UInt8) : Int := l.foldl (step R) s
theorem goes_append (R : Nat → Nat → Int) (s : Int) (l m : List UInt8) : goes R s (l ++ m) = goes R (goes R s l) m := by simp [goes]
theorem goes_neg (R : Nat → Nat → Int) (s : Int) (h : s < 0) (l : List UInt8) : goes R s l = s := by
  induction l with
  | nil => rfl
  | cons b l ih => simp only [goes, List.foldl_cons] at *; rw [show step R s b = s by simp [step, h]]; exact ih
theorem goes_snoc (R : Nat → Nat → Int) (s : Int) (l : List UInt8) (b : UInt8) : goes R s (l ++ [b]) = step R (goes R s l) b := by simp [goes]
/-- A state, or none. -/
def At (n : Nat) (s : Int) : Prop := -1 ≤ s ∧ s < (n : Int)
theorem at_step {n : Nat} {R : Nat → Nat → Int} (h : rowsOk n R = true) {s : Int} (hs : At n s) (b : UInt8) : At n (step R s b) := by
  unfold step
  split
  · exact hs
  · have hb := b.toNat_lt
    have h1 := all_at (all_at h s.toNat (by have := hs.2; omega)) b.toNat (by omega)
    simp only [numOk, Bool.and_eq_true, decide_eq_true_eq] at h1
    exact h1
theorem at_goes {n : Nat} {R : Nat → Nat → Int} (h : rowsOk n R = true) (l : List UInt8) : ∀ {s : Int}, At n s → At n (goes R s l) := by
  induction l with
  | nil => intro s hs; exact hs
  | cons b l ih => intro s hs; exact ih (at_step h hs b)
/-- The Tag of a state. -/
def tagOf (T : Nat → Int) (s : Int) : Int := if s < 0 then -1 else T s.toNat
theorem chk_zero {n m : Nat} {R : Nat → Nat → Int} {T : Nat → Int} (h : chk n m R T = 0) : 0 < n ∧ n ≤ 200 ∧ m = n ∧ rowsOk n R = true ∧ tagsOk m T = true := by
  unfold chk at h
  split at h
  · omega
  · split at h
    · omega
    · split at h
      · refine ⟨by omega, by omega, by omega, ?_, ?_⟩ <;> simp_all
      · omega
theorem chk_cases (n m : Nat) (R : Nat → Nat → Int) (T : Nat → Int) : chk n m R T = 0 ∨ chk n m R T = 1 ∨ chk n m R T = 2 := by
  unfold chk
  split
  · simp
  · split
    · simp
    · split <;> simp
/-- What Run answers, and what Tag does. -/
def runAns (n m : Nat) (R : Nat → Nat → Int) (T : Nat → Int) (l : List UInt8) : Int := if chk n m R T = 0 then goes R 0 l else 0
def tagAns (n m : Nat) (R : Nat → Nat → Int) (T : Nat → Int) (l : List UInt8) : Int := if chk n m R T = 0 then tagOf T (goes R 0 l) else 0
theorem runAns_ok {n m : Nat} {R : Nat → Nat → Int} {T : Nat → Int} (h : chk n m R T = 0) (l : List UInt8) : runAns n m R T l = goes R 0 l := by unfold runAns; rw [if_pos h]
theorem tagAns_ok {n m : Nat} {R : Nat → Nat → Int} {T : Nat → Int} (h : chk n m R T = 0) (l : List UInt8) : tagAns n m R T l = tagOf T (goes R 0 l) := by unfold tagAns; rw [if_pos h]
theorem runAns_bad {n m : Nat} {R : Nat → Nat → Int} {T : Nat → Int} (h : ¬ chk n m R T = 0) (l : List UInt8) : runAns n m R T l = 0 := by unfold runAns; rw [if_neg h]
theorem tagAns_bad {n m : Nat} {R : Nat → Nat → Int} {T : Nat → Int} (h : ¬ chk n m R T = 0) (l : List UInt8) : tagAns n m R T l = 0 := by unfold tagAns; rw [if_neg h]
end Go.Proofs.Ytlmlkpdppkgenaa.Df.Dfa

namespace Go.Proofs.Ytlmlkpdppkgenaa.Df
open Go.ChangeShapes Go.WideShapes Go.ChangeAt Go.RowKit
open Dfa

theorem cells72 : Try.prog.cellsOf 72 = 256 := by kernel_rfl
theorem cells70 : Try.prog.cellsOf 70 = 1 := by kernel_rfl
theorem cells30 : Try.prog.cellsOf 30 = 2 := by kernel_rfl
theorem cells3 : Try.prog.cellsOf 3 = 1 := by kernel_rfl
theorem size35 : (Try.prog.info? 72).map (·.size) = some 256 := by kernel_rfl

variable {H : Type} {enc : TypeId × Value → H}

/-- A value is a slice that holds these rows. -/
def Rw (w : World) (v : Value) (n : Nat) (R : Nat → Nat → Int) : Prop :=
  ∃ ao cap, v = .slice ao n cap ∧ n ≤ 9223372036854775807 ∧ (∀ i j, -32768 ≤ R i j ∧ R i j ≤ 32767) ∧ (n = 0 ∨ ∃ b o, ao = some ⟨b, o, none⟩ ∧ b < w.heap.size ∧
    ∀ i, i < n → ∀ j, j < 256 → w.cell? ⟨b, o + i * 256 + j, none⟩ = some (.int .i16 (R i j)))
/-- A value is a slice that holds these numbers. -/
def Ts (w : World) (v : Value) (n : Nat) (T : Nat → Int) : Prop :=
  ∃ ao cap, v = .slice ao n cap ∧ n ≤ 9223372036854775807 ∧ (∀ i, -9223372036854775808 ≤ T i ∧ T i ≤ 9223372036854775807) ∧ (n = 0 ∨ ∃ b o, ao = some ⟨b, o, none⟩ ∧ b < w.heap.size ∧
    ∀ i, i < n → w.cell? ⟨b, o + i, none⟩ = some (.int .i64 (T i)))
theorem Rw.below {w w' : World} {v : Value} {n : Nat} {R : Nat → Nat → Int} (h : Rw w v n R) {B : Nat} (hb : Below B w w') (hB : w.heap.size ≤ B) : Rw w' v n R := by
  obtain ⟨ao, cap, hv, hm, hw, h | ⟨b, o, h1, h2, h3⟩⟩ := h
  · exact ⟨ao, cap, hv, hm, hw, Or.inl h⟩
  · exact ⟨ao, cap, hv, hm, hw, Or.inr ⟨b, o, h1, Nat.lt_of_lt_of_le h2 hb.size, fun i hi j hj => (hb.cell (p := ⟨b, o + i * 256 + j, none⟩) (by simp; omega)).trans (h3 i hi j hj)⟩⟩
theorem Ts.below {w w' : World} {v : Value} {n : Nat} {T : Nat → Int} (h : Ts w v n T) {B : Nat} (hb : Below B w w') (hB : w.heap.size ≤ B) : Ts w' v n T := by
  obtain ⟨ao, cap, hv, hm, hw, h | ⟨b, o, h1, h2, h3⟩⟩ := h
  · exact ⟨ao, cap, hv, hm, hw, Or.inl h⟩
  · exact ⟨ao, cap, hv, hm, hw, Or.inr ⟨b, o, h1, Nat.lt_of_lt_of_le h2 hb.size, fun i hi => (hb.cell (p := ⟨b, o + i, none⟩) (by simp; omega)).trans (h3 i hi)⟩⟩

theorem open_row {W : World} {base m : Nat} {spare : Nat → Bool} {held : Bool} {cs : List Value} {y : DataW H × List MemPlace} (h : DataW.trod enc Try.prog W base spare held m 72 cs = some y) :
    ∃ f : Nat → Int, (∀ j, -32768 ≤ f j ∧ f j ≤ 32767) ∧ ∀ j, j < 256 → cs[j]? = some (.int .i16 (f j)) := by
  obtain ⟨xs, k, _, _, hl, hn, hf⟩ := DataW.trod_array Try.underlying72 h
  rw [cells72] at hl
  simp only [cells70] at hf
  have hE : ∀ j, ∃ z : Int, (-32768 ≤ z ∧ z ≤ 32767) ∧ (j < 256 → cs[j]? = some (.int .i16 z)) := by
    intro j
    by_cases hj : j < 256
    · have h0 := hf j (by omega)
      rw [List.getElem?_eq_getElem (by omega)] at h0
      obtain ⟨z, e0, _, hw⟩ := DataW.trod_int Try.underlying70 h0
      refine ⟨z, by simpa [Lit.wf, IntKind.min, IntKind.max, IntKind.signed, IntKind.bits] using hw, fun _ => ?_⟩
      have e1 : ((cs.drop (j * 1)).take 1)[0]? = some (.int .i16 z) := by rw [e0]; rfl
      simpa [List.getElem?_take, List.getElem?_drop] using e1
    · exact ⟨0, by omega, fun h => absurd h hj⟩
  obtain ⟨F, hF⟩ := Classical.axiomOfChoice hE
  exact ⟨F, fun j => (hF j).1, fun j hj => (hF j).2 hj⟩

theorem open_rows {W : World} {fuel : Nat} {v : List Value} {y : DataW H × List MemPlace} (ao : Option Addr) (n cap : Nat) (hv : v = [.slice ao n cap]) (hf : DataW.trod enc Try.prog W 0 (fun _ => true) true fuel 28 v = some y) :
    ∃ R, Rw W (.slice ao n cap) n R := by
  subst hv
  rcases Go.Deep.open_slice Try.underlying28 hf with ⟨hcs, hx⟩ | ⟨a', len', cap', m, k, D, Pl, hcs, hb, hl, hm, hmm, hx, hel⟩
  · simp at hcs
    obtain ⟨rfl, rfl, rfl⟩ := hcs
    exact ⟨fun _ _ => 0, none, 0, rfl, by omega, fun _ _ => by simp, Or.inl rfl⟩
  · simp at hcs
    obtain ⟨rfl, rfl, rfl⟩ := hcs
    simp only [if_true] at hmm
    subst hmm
    rw [cells72] at hel hx
    have hE : ∀ i, ∃ f : Nat → Int, (∀ j, -32768 ≤ f j ∧ f j ≤ 32767) ∧ (i < n → ∀ j, j < 256 → W.cell? ((a'.add (i * 256)).add j) = some (.int .i16 (f j))) := by
      intro i
      by_cases hi : i < n
      · obtain ⟨cs', hc, ht⟩ := hel i (by omega)
        obtain ⟨_, hlen, hat⟩ := World.cells?_some hc
        obtain ⟨f, h1, h2⟩ := open_row ht
        refine ⟨f, h1, fun _ j hj => ?_⟩
        rw [hat j (by omega)]
        exact h2 j hj
      · exact ⟨fun _ => 0, fun _ => by simp, fun h => absurd h hi⟩
    obtain ⟨F, hF⟩ := Classical.axiomOfChoice hE
    refine ⟨F, some a', _, rfl, by unfold maxLen at hm; omega, fun i j => (hF i).1 j, ?_⟩
    by_cases h0 : n = 0
    · left; exact h0
    · right
      obtain ⟨b, off, spot⟩ := a'
      have hspot : spot = none := by simpa [Addr.add] using World.cell?_spot ((hF 0).2 (by omega) 0 (by omega))
      subst hspot
      have e : ∀ i j, ((⟨b, off, none⟩ : Addr).add (i * 256)).add j = ⟨b, off + i * 256 + j, none⟩ := fun i j => by rw [Go.WideShapes.add_plain, Go.WideShapes.add_plain]
      refine ⟨b, off, rfl, ?_, fun i hi j hj => ?_⟩
      · rcases Nat.lt_or_ge b W.heap.size with h' | h'
        · exact h'
        · have := (hF 0).2 (by omega) 0 (by omega)
          rw [e] at this
          simp [World.cell?, Array.getElem?_eq_none h'] at this
      · have := (hF i).2 hi j hj
        rw [e] at this
        exact this
theorem open_tags {W : World} {fuel : Nat} {v : List Value} {y : DataW H × List MemPlace} (ao : Option Addr) (n cap : Nat) (hv : v = [.slice ao n cap]) (hf : DataW.trod enc Try.prog W 0 (fun _ => true) true fuel 23 v = some y) :
    ∃ T, Ts W (.slice ao n cap) n T := by
  subst hv
  rcases open_ints Try.underlying23 Try.underlying3 cells3 hf with ⟨hcs, hx⟩ | ⟨a', len', cap', zs, hcs, hb, hl, hm, hz, hx, hcell, hwf⟩
  · simp at hcs
    obtain ⟨rfl, rfl, rfl⟩ := hcs
    exact ⟨fun _ => 0, none, 0, rfl, by omega, fun _ => by simp, Or.inl rfl⟩
  · simp at hcs
    obtain ⟨rfl, rfl, rfl⟩ := hcs
    simp only [if_true] at hz
    refine ⟨fun i => zs.getD i 0, some a', cap, rfl, by unfold maxLen at hm; omega, fun i => ?_, ?_⟩
    · show -9223372036854775808 ≤ zs.getD i 0 ∧ zs.getD i 0 ≤ 9223372036854775807
      rw [List.getD_eq_getElem?_getD]
      by_cases hi : i < zs.length
      · rw [List.getElem?_eq_getElem hi]
        have := hwf zs[i] (List.getElem_mem hi)
        simpa [Lit.wf, IntKind.min, IntKind.max, IntKind.signed, IntKind.bits] using this
      · rw [List.getElem?_eq_none (by omega)]; exact by simp
    · by_cases h0 : n = 0
      · left; exact h0
      · right
        obtain ⟨b, off, spot⟩ := a'
        have hspot : spot = none := by simpa [Addr.add] using World.cell?_spot (hcell 0 (by omega))
        subst hspot
        have hplain : ∀ j, j < zs.length → W.cell? ⟨b, off + j, none⟩ = some (.int .i64 (zs.getD j 0)) := fun j hj => by rw [← Go.WideShapes.add_plain]; exact hcell j hj
        refine ⟨b, off, rfl, ?_, fun i hi => hplain i (by omega)⟩
        rcases Nat.lt_or_ge b W.heap.size with h' | h'
        · exact h'
        · have := hplain 0 (by omega)
          simp [World.cell?, Array.getElem?_eq_none h'] at this
set_option maxRecDepth 20000 in
theorem open_dfa {W : World} {r : Reach} {b0 : Nat} {v : Value} {d : DataW H} {p : List MemPlace} (hv : Value.okWide Try.prog W r b0 30 v) (h : DataW.Trod enc Try.prog W 0 (fun _ => true) true 30 v d p) :
    ∃ rv tv n m R T, v = .agg #[rv, tv] ∧ Rw W rv n R ∧ Ts W tv m T := by
  obtain ⟨c0, c1, y0, y1, k, rfl, rfl, rfl, h0, h1⟩ := Go.Joins.open_agg2 Try.underlying30 (by kernel_rfl) cells30 hv h
  obtain ⟨a, n, cap, rfl⟩ : ∃ a n cap, c0 = .slice a n cap := by
    rcases Go.Deep.open_slice Try.underlying28 h0 with ⟨hcs, hx⟩ | ⟨a', len', cap', m, k, D, Pl, hcs, _⟩
    · simp at hcs; exact ⟨_, _, _, hcs⟩
    · simp at hcs; exact ⟨_, _, _, hcs⟩
  obtain ⟨a1, n1, cap1, rfl⟩ : ∃ a n cap, c1 = .slice a n cap := by
    rcases Go.Deep.open_slice Try.underlying23 h1 with ⟨hcs, hx⟩ | ⟨a', len', cap', m, k, D, Pl, hcs, _⟩
    · simp at hcs; exact ⟨_, _, _, hcs⟩
    · simp at hcs; exact ⟨_, _, _, hcs⟩
  obtain ⟨R, hR⟩ := open_rows a n cap rfl h0
  obtain ⟨T, hT⟩ := open_tags a1 n1 cap1 rfl h1
  exact ⟨_, _, n, n1, R, T, rfl, hR, hT⟩
end Go.Proofs.Ytlmlkpdppkgenaa.Df

namespace Go.Proofs.Ytlmlkpdppkgenaa.Df
open Go.RowKit
open Dfa

set_option maxHeartbeats 1600000 in
set_option maxRecDepth 20000 in
theorem areTags_any (tv : Value) (m : Nat) (T : Nat → Int) (w : World) (ht : Ts w tv m T) :
    Calls Try.prog 65 #[tv] w fun e w' => e = .returned (.bool (tagsOk m T)) ∧ w' = w := by
  obtain ⟨ao, cap, rfl, hm, hwf, hcs⟩ := ht
  have HW : Hid (∀ i, -9223372036854775808 ≤ T i ∧ T i ≤ 9223372036854775807) := hwf
  clear hwf
  go_enter Try.func65, Try.ntmps65
  go_wp2_with fail
  go_loopw [7] (fun i wr => ∃ k : Nat, k ≤ m ∧ i = .int .i64 (k : Int) ∧ Hid (∀ i, i < k → tagOk (T i) = true) ∧ wr = w) (fun i _ => m - (intOf i).toNat)
  case atStart => exact ⟨0, by omega, rfl, fun i hi => by omega, rfl⟩
  case round =>
    obtain ⟨k, hk, rfl, HA, rfl⟩ := hrel
    by_cases hlt : k < m
    · obtain ⟨b, o, rfl, hb, hc⟩ := hcs.resolve_left (by omega)
      have c0 := hc k hlt
      have hzk := HW.out k
      obtain ⟨z, HZ⟩ : ∃ z, Hid (T k = z) := ⟨_, (rfl : T k = T k)⟩
      rw [HZ.out] at c0 hzk
      have hk0 : (0 : Int) ≤ (k : Int) := by omega
      have hk1 : (k : Int) < (m : Int) := by omega
      clear hcs hc
      by_cases h1 : z < -1
      · go_wp2_with fail
        go_ret
        refine ⟨?_, rfl⟩
        rw [show tagsOk m T = false from all_false hlt (by unfold tagOk; rw [HZ.out]; simp; omega)]
        rfl
      · by_cases h2 : 20 ≤ z
        · go_wp2_with fail
          go_ret
          refine ⟨?_, rfl⟩
          rw [show tagsOk m T = false from all_false hlt (by unfold tagOk; rw [HZ.out]; simp; omega)]
          rfl
        · go_wp2_with fail
          go_roundw
          case rel =>
            refine ⟨k + 1, by omega, by go_num, fun i hi => ?_, by trivial⟩
            by_cases e : i = k
            · subst e; unfold tagOk; rw [HZ.out]; simp; omega
            · exact HA.out i (by omega)
          case measure => simp [intOf]; omega
    · go_wp2_with fail
      go_ret
      refine ⟨?_, rfl⟩
      rw [show tagsOk m T = true from all_true fun i hi => HA.out i (by omega)]
      rfl
end Go.Proofs.Ytlmlkpdppkgenaa.Df

namespace Go.Proofs.Ytlmlkpdppkgenaa.Df
open Go.RowKit
open Dfa

theorem wrap_small {z : Int} (h : -32768 ≤ z ∧ z ≤ 32767) : IntKind.i64.wrap z = z := by
  unfold IntKind.wrap
  simp [IntKind.bits, IntKind.signed]
  omega
/-- The cells of a row. -/
def rl (f : Nat → Int) : List Value := (List.range 256).map fun j => Value.int .i16 (f j)
theorem rl_length (f : Nat → Int) : (rl f).length = 256 := by simp [rl]
theorem rl_at (f : Nat → Int) (j : Nat) (hj : j < 256) : (rl f)[j]? = some (.int .i16 (f j)) := by simp [rl, hj]
theorem rl_one (f : Nat → Int) : (rl f).toArray.all (·.oneCell') = true := all_oneCell_toArray fun v hv => by
  simp only [rl, List.mem_map] at hv
  obtain ⟨j, _, rfl⟩ := hv
  rfl
theorem range_of_cells {w : World} {b o : Nat} {f : Nat → Int} (h : ∀ j, j < 256 → w.cell? ⟨b, o + j, none⟩ = some (.int .i16 (f j))) : w.rangeAt b o (rl f) := fun j v hv => by
  have hj : j < 256 := by have := (List.getElem?_eq_some_iff.1 hv).1; rwa [rl_length] at this
  rw [rl_at f j hj] at hv
  rw [h j hj, hv]
theorem range_new (w : World) (f : Nat → Int) : (w.alloc (.cells (rl f).toArray 72)).rangeAt w.heap.size 0 (rl f) := fun j v hv => by
  rw [Nat.zero_add, cell_of_row _ _ j (rl f).toArray 72 (0, 0) (heap_alloc_last w _)]
  simpa using hv
theorem index_row (f : Nat → Int) (j : Nat) (hj : j < 256) (w : World) : (Instr.index 72 (.agg (rl f).toArray) (.int .i64 (j : Int))).run Try.prog w = .ok (.int .i16 (f j)) w := by
  have h1 : (0 : Int) ≤ (j : Int) ∧ (j : Int) < (256 : Nat) := by omega
  have h2 := rl_at f j hj
  have h3 := rl_length f
  simp [Instr.index, run_underlying Try.underlying72, asIntOf, h1, go_sem, h3, hj]
  rw [List.getElem?_eq_getElem (by omega)] at h2
  exact Option.some.inj h2
theorem wpList_store_new {ops : Array Oper} {rest : List Oper} {op : Oper} {a : Act} {w : World} {Q : Exit → Act → World → Prop} (hgd : op.guard = none) (x y : Operand) (ho : op.op = .store 72 x y)
    (c c' : Array Value) (hx : a.eval x = .pointer (some ⟨w.heap.size, 0, none⟩)) (hy : a.eval y = .agg c') (hc : c.size = 256) (hc' : c'.size = 256) (h1 : c'.all (·.oneCell') = true)
    (h : wpList Try.prog ops Q rest (a.put op.dst undef) (w.alloc (.cells c' 72))) : wpList Try.prog ops Q (op :: rest) a (w.alloc (.cells c 72)) :=
  wpList_plain hgd fun K hK => by
    unfold Oper.wp execOp
    simp only [ho, hx, hy, Sem.run_bind, run_storeAt_new w 72 c c' (by rw [hc']; exact size35) (by omega) h1, Result.andThen_ok]
    exact hK _ _ h
theorem zero35 : ∃ zs : Array Value, (∀ w, (zeroValue 72).run Try.prog w = .ok (.agg zs) w) ∧ zs.size = 256 :=
  ⟨_, (zero_of_info (P := Try.prog) (t := 72) (v := .agg (Array.replicate 256 (.int .i16 0))) (n := 256) (by kernel_rfl)).1, by simp⟩

set_option maxHeartbeats 1600000 in
set_option maxRecDepth 20000 in
theorem areStates_any (rv : Value) (n : Nat) (R : Nat → Nat → Int) (w : World) (hr : Rw w rv n R) :
    Calls Try.prog 64 #[rv] w fun e w' => e = .returned (.bool (rowsOk n R)) ∧ Below w.heap.size w w' := by
  obtain ⟨ao, cap, rfl, hm, hwf, hcs⟩ := hr
  have HW : Hid (∀ i j, -32768 ≤ R i j ∧ R i j ≤ 32767) := hwf
  clear hwf
  obtain ⟨zs, hz35, hzs⟩ := zero35
  have HZ : Hid (zs.size = 256) := hzs
  clear hzs
  go_enter Try.func64, Try.ntmps64
  go_wp2_with fail
  go_loopw [9] (fun i wr => ∃ k : Nat, k ≤ n ∧ i = .int .i64 (k : Int) ∧ Hid (∀ i, i < k → rowOk n (R i) = true) ∧ Below w.heap.size w wr) (fun i _ => n - (intOf i).toNat)
  case atStart => exact ⟨0, by omega, rfl, fun i hi => by omega, Below.refl _ _⟩
  case round =>
    obtain ⟨k, hk, rfl, HA, hbel⟩ := hrel
    have hsb := hbel.size
    by_cases hlt : k < n
    · obtain ⟨b, o, rfl, hb, hc⟩ := hcs.resolve_left (by omega)
      have HC : Hid (wr.rangeAt b (o + k * 256) (rl (R k))) := range_of_cells fun j hj => (hbel.cell (p := ⟨b, o + k * 256 + j, none⟩) hb).trans (hc k hlt j hj)
      have hk0 : (0 : Int) ≤ (k : Int) := by omega
      have hk1 : (k : Int) < (n : Int) := by omega
      clear hcs hc
      go_wp2_with (first | refine wpList_load_mid rfl 72 _ rfl b (o + k * 256) rfl (rl (R k)) _ HC.out Try.underlying72 rfl (by rw [rl_length]; exact size35) ?_ | refine wpList_store_new rfl _ _ rfl _ (rl (R k)).toArray rfl rfl HZ.out (by simp [rl_length]) (rl_one _) ?_ | refine wpList_load_mid rfl 72 _ rfl wr.heap.size 0 rfl (rl (R k)) _ (range_new wr (R k)) Try.underlying72 rfl (by rw [rl_length]; exact size35) ?_)
      go_loopw [14] (fun i wx => ∃ j : Nat, j ≤ 256 ∧ i = .int .i64 (j : Int) ∧ Hid (∀ i, i < j → numOk n (R k i) = true) ∧ Below w.heap.size w wx) (fun i _ => 256 - (intOf i).toNat)
      case atStart => exact ⟨0, by omega, rfl, fun i hi => by omega, hbel.alloc hsb _⟩
      case round =>
        obtain ⟨j, hj, rfl, HB, hbel2⟩ := hrel
        by_cases hjt : j < 256
        · have hj0 : (0 : Int) ≤ (j : Int) := by omega
          have hj1 : (j : Int) < 256 := by omega
          have hix := index_row (R k) j hjt
          have hzk := HW.out k j
          obtain ⟨z, HX⟩ : ∃ z, Hid (R k j = z) := ⟨_, (rfl : R k j = R k j)⟩
          rw [HX.out] at hix hzk
          by_cases h1 : z < -1
          · go_wp2_with fail
            go_ret
            refine ⟨?_, hbel2⟩
            rw [show rowsOk n R = false from all_false hlt (all_false hjt (by unfold numOk; rw [HX.out]; simp; omega))]
            rfl
          · have hwr := wrap_small hzk
            by_cases h2 : (n : Int) ≤ z
            · go_wp2_with fail
              go_ret
              refine ⟨?_, hbel2⟩
              rw [show rowsOk n R = false from all_false hlt (all_false hjt (by unfold numOk; rw [HX.out]; simp; omega))]
              rfl
            · go_wp2_with fail
              go_roundw
              case rel =>
                refine ⟨j + 1, by omega, by go_num, fun i hi => ?_, hbel2⟩
                by_cases e : i = j
                · subst e; unfold numOk; rw [HX.out]; simp; omega
                · exact HB.out i (by omega)
              case measure => simp [intOf]; omega
        · go_wp2_with fail
          go_roundw
          case rel =>
            refine ⟨k + 1, by omega, by go_num, fun i hi => ?_, hbel2⟩
            by_cases e : i = k
            · subst e; exact all_true fun i hi => HB.out i (by omega)
            · exact HA.out i (by omega)
          case measure => simp [intOf]; omega
    · go_wp2_with fail
      go_ret
      refine ⟨?_, hbel⟩
      rw [show rowsOk n R = true from all_true fun i hi => HA.out i (by omega)]
      rfl
end Go.Proofs.Ytlmlkpdppkgenaa.Df

namespace Go.Proofs.Ytlmlkpdppkgenaa.Df
open Go.RowKit
open Dfa

set_option maxHeartbeats 1600000 in
set_option maxRecDepth 20000 in
theorem check_any (rv tv : Value) (n m : Nat) (R : Nat → Nat → Int) (T : Nat → Int) (w : World) (hr : Rw w rv n R) (ht : Ts w tv m T) :
    Calls Try.prog 39 #[.agg #[rv, tv]] w fun e w' => e = .returned (.int .i64 (chk n m R T)) ∧ Below w.heap.size w w' := by
  have HR : Hid (Rw w rv n R) := hr
  have HT : Hid (Ts w tv m T) := ht
  obtain ⟨ao, cap, rfl, hn, hwf, -⟩ := hr
  obtain ⟨ao', cap', rfl, hm, hwf', -⟩ := ht
  clear hwf hwf'
  go_enter Try.func39, Try.ntmps39
  by_cases h1 : 200 < n
  · have h1' : (200 : Int) < (n : Int) := by omega
    go_wp2_with fail
    go_ret
    exact ⟨by unfold chk; rw [if_pos h1]; rfl, (Below.refl _ _).alloc (Nat.le_refl _) _⟩
  · by_cases h2 : n = 0 ∨ m ≠ n
    · have E : Hid (chk n m R T = 1) := by show _ = _; unfold chk; rw [if_neg h1, if_pos h2]
      by_cases h3 : n = 0
      · subst h3
        go_wp2_with fail
        go_ret
        exact ⟨by rw [E.out]; rfl, (Below.refl _ _).alloc (Nat.le_refl _) _⟩
      · have h4 : m ≠ n := by omega
        have h5 : ((m : Int) != (n : Int)) = true := by simp; omega
        have h6 : ((n : Int) == 0) = false := by simp; omega
        go_wp2_with fail
        go_ret
        exact ⟨by rw [E.out]; rfl, (Below.refl _ _).alloc (Nat.le_refl _) _⟩
    · obtain rfl : m = n := by omega
      have h6 : ¬ ((m : Int) = 0) := by omega
      go_wp2_with fail
      have B0 : Below w.heap.size w (w.alloc (Obj.cells #[Value.slice ao m cap, Value.slice ao' m cap'] 30)) := (Below.refl _ _).alloc (Nat.le_refl _) _
      refine (areStates_any _ m R _ (HR.out.below B0 (Nat.le_refl _))).mono ?_
      rintro _ w1 ⟨rfl, hb1⟩
      have c0 : w1.cell? ⟨w.heap.size, 0, none⟩ = some (Value.slice ao m cap) := (hb1.cell (by simp)).trans (by simp)
      have c1 : w1.cell? ⟨w.heap.size, 1, none⟩ = some (Value.slice ao' m cap') := (hb1.cell (by simp)).trans (by simp)
      have B1 : Below w.heap.size w w1 := B0.trans (hb1.mono (by simp))
      have E : Hid (chk m m R T = if rowsOk m R = true ∧ tagsOk m T = true then 0 else 1) := by show _ = _; unfold chk; rw [if_neg h1, if_neg h2]
      rcases hrs : rowsOk m R with _ | _
      · go_wp2_with fail
        go_ret
        exact ⟨by rw [E.out, hrs]; rfl, B1⟩
      · go_wp2_with fail
        refine (areTags_any _ m T w1 (HT.out.below B1 (Nat.le_refl _))).mono ?_
        rintro _ w2 ⟨rfl, rfl⟩
        rcases hts : tagsOk m T with _ | _
        · go_wp2_with fail
          go_ret
          exact ⟨by rw [E.out, hrs, hts]; rfl, B1⟩
        · go_wp2_with fail
          go_ret
          exact ⟨by rw [E.out, hrs, hts]; rfl, B1⟩

/-- A byte of a text. -/
theorem byte_run (s : ByteArray) (k : Nat) (h : k < s.size) (w : World) : (Instr.index 9 (.string s) (.int .i64 (k : Int))).run Try.prog w = .ok (.int .u8 (s[k].toNat : Int)) w := by
  rw [run_index_string (h := Try.underlying9)]
  simp [h]
theorem data_size (s : ByteArray) : s.data.toList.length = s.size := by rw [Array.length_toList]; rfl
theorem take_snoc (s : ByteArray) (k : Nat) (h : k < s.size) : s.data.toList.take (k + 1) = s.data.toList.take k ++ [s[k]] := by
  rw [List.take_succ_eq_append_getElem (by rw [data_size]; exact h)]; rfl
theorem take_all (s : ByteArray) (k : Nat) (h : s.size ≤ k) : s.data.toList.take k = s.data.toList := List.take_of_length_le (by rw [data_size]; exact h)

set_option maxHeartbeats 1600000 in
set_option maxRecDepth 20000 in
theorem run_any (rv tv : Value) (n : Nat) (R : Nat → Nat → Int) (s : ByteArray) (w : World) (hr : Rw w rv n R) (h0 : 0 < n) (hok : rowsOk n R = true) (hs : s.size ≤ 9223372036854775807) :
    Calls Try.prog 40 #[.agg #[rv, tv], .string s] w fun e w' => e = .returned (.int .i64 (goes R 0 s.data.toList)) ∧ Below w.heap.size w w' := by
  obtain ⟨ao, cap, rfl, hn, hwf, hcs⟩ := hr
  have HW : Hid (∀ i j, -32768 ≤ R i j ∧ R i j ≤ 32767) := hwf
  have HO : Hid (rowsOk n R = true) := hok
  obtain ⟨b, o, rfl, hb, hc⟩ := hcs.resolve_left (by omega)
  have HC : Hid (∀ i, i < n → ∀ j, j < 256 → w.cell? ⟨b, o + i * 256 + j, none⟩ = some (.int .i16 (R i j))) := hc
  clear hwf hok hcs hc
  go_enter Try.func40, Try.ntmps40
  go_wp2_with fail
  go_loopw [6, 5] (fun i z wr => ∃ (k : Nat) (q : Int), k ≤ s.size ∧ i = .int .i64 (k : Int) ∧ z = .int .i64 q ∧ At n q ∧ Hid (goes R 0 (s.data.toList.take k) = q) ∧ wr.cell? ⟨w.heap.size, 0, none⟩ = some (.slice (some ⟨b, o, none⟩) n cap) ∧ Below w.heap.size w wr) (fun i _ _ => s.size - (intOf i).toNat)
  case atStart => exact ⟨0, 0, by omega, rfl, rfl, ⟨by omega, by omega⟩, rfl, by simp, (Below.refl _ _).alloc (Nat.le_refl _) _⟩
  case round =>
    obtain ⟨k, q, hk, rfl, rfl, ⟨hq1, hq2⟩, HG, hcell, hbel⟩ := hrel
    have hsb := hbel.size
    by_cases hlt : k < s.size
    · have hk1 : (k : Int) < (s.size : Int) := by omega
      by_cases hq : q = -1
      · have HQ : Hid (q = -1) := hq
        subst hq
        go_wp2_with fail
        go_ret
        refine ⟨?_, hbel⟩
        have : goes R 0 s.data.toList = -1 := by
          rw [← List.take_append_drop k s.data.toList, goes_append, HG.out, goes_neg _ _ (by omega)]
        rw [this]; rfl
      · obtain ⟨p, rfl⟩ : ∃ p : Nat, q = (p : Int) := ⟨q.toNat, by omega⟩
        have hp : p < n := by omega
        have hp1 : (p : Int) < (n : Int) := by omega
        have hbr := byte_run s k hlt
        obtain ⟨x, HX⟩ : ∃ x, Hid (s[k] = x) := ⟨_, (rfl : s[k] = s[k])⟩
        rw [HX.out] at hbr
        have hx : x.toNat < 256 := x.toNat_lt
        have hx1 : (x.toNat : Int) < 256 := by omega
        have c0 : wr.cell? ⟨b, o + p * 256 + x.toNat, none⟩ = some (.int .i16 (R p x.toNat)) := (hbel.cell (p := ⟨b, o + p * 256 + x.toNat, none⟩) hb).trans (HC.out p hp x.toNat hx)
        have hz := HW.out p x.toNat
        have HS : Hid (goes R 0 (s.data.toList.take (k + 1)) = R p x.toNat) := by
          show _ = _
          rw [take_snoc s k hlt, goes_snoc, HG.out, HX.out]
          unfold Dfa.step
          rw [if_neg (by omega)]
          rfl
        have hat : At n (R p x.toNat) := by rw [← HS.out]; exact at_goes HO.out _ ⟨by omega, by omega⟩
        obtain ⟨z, HZ⟩ : ∃ z, Hid (R p x.toNat = z) := ⟨_, (rfl : R p x.toNat = R p x.toNat)⟩
        rw [HZ.out] at c0 hz hat
        have hwr := wrap_small hz
        go_wp2_with (go_quiet (fail))
        go_roundw
        case rel => exact ⟨k + 1, z, by omega, by go_num, rfl, hat, by show _ = _; rw [HS.out, HZ.out], by simpa using hcell, below_drewN hbel nq⟩
        case measure => simp [intOf]; omega
    · go_wp2_with fail
      go_ret
      refine ⟨?_, hbel⟩
      rw [← HG.out, take_all s k (by omega)]; rfl

set_option maxHeartbeats 1600000 in
set_option maxRecDepth 20000 in
theorem Tag_any (rv tv : Value) (n m : Nat) (R : Nat → Nat → Int) (T : Nat → Int) (s : ByteArray) (w : World) (hr : Rw w rv n R) (ht : Ts w tv m T) (hs : s.size ≤ 9223372036854775807) :
    Calls Try.prog 15 #[.agg #[rv, tv], .string s] w fun e w' => e = .returned (.tuple #[.int .i64 (tagAns n m R T s.data.toList), .int .i64 (chk n m R T)]) ∧ Below w.heap.size w w' := by
  have HR : Hid (Rw w rv n R) := hr
  have HT : Hid (Ts w tv m T) := ht
  obtain ⟨ao, cap, rfl, hn, hwf, -⟩ := hr
  obtain ⟨ao', cap', rfl, hm, hwf', hcs⟩ := ht
  have HCS : Hid (m = 0 ∨ ∃ b o, ao' = some ⟨b, o, none⟩ ∧ b < w.heap.size ∧ ∀ i, i < m → w.cell? ⟨b, o + i, none⟩ = some (.int .i64 (T i))) := hcs
  clear hwf hwf' hcs
  go_enter Try.func15, Try.ntmps15
  go_wp2_with fail
  have B0 : Below w.heap.size w (w.alloc (Obj.cells #[Value.slice ao n cap, Value.slice ao' m cap'] 30)) := (Below.refl _ _).alloc (Nat.le_refl _) _
  refine (check_any _ _ n m R T _ (HR.out.below B0 (Nat.le_refl _)) (HT.out.below B0 (Nat.le_refl _))).mono ?_
  rintro _ w1 ⟨rfl, hb1⟩
  have c0 : w1.cell? ⟨w.heap.size, 0, none⟩ = some (Value.slice ao n cap) := (hb1.cell (by simp)).trans (by simp)
  have c1 : w1.cell? ⟨w.heap.size, 1, none⟩ = some (Value.slice ao' m cap') := (hb1.cell (by simp)).trans (by simp)
  have B1 : Below w.heap.size w w1 := B0.trans (hb1.mono (by simp))
  have hl1 : w.heap.size < w1.heap.size := by have := hb1.size; simp at this; omega
  obtain ⟨c, HC⟩ : ∃ c, Hid (chk n m R T = c) := ⟨_, (rfl : chk n m R T = chk n m R T)⟩
  rw [HC.out]
  clear hb1
  by_cases h0 : c = 0
  · subst h0
    obtain ⟨g0, -, g2, g1, -⟩ := chk_zero HC.out
    have G2 : Hid (m = n) := g2
    clear g2
    go_wp2_with fail
    have hat : At n (goes R 0 s.data.toList) := at_goes g1 _ ⟨by omega, by omega⟩
    have hcall := run_any (.slice ao n cap) (.slice ao' m cap') n R s w1 (HR.out.below B1 (Nat.le_refl _)) g0 g1 hs
    obtain ⟨q, HQ⟩ : ∃ q, Hid (goes R 0 s.data.toList = q) := ⟨_, (rfl : goes R 0 s.data.toList = goes R 0 s.data.toList)⟩
    rw [HQ.out] at hat hcall
    refine hcall.mono ?_
    rintro _ w2 ⟨rfl, hb2⟩
    have B2 : Below w.heap.size w w2 := B1.trans (hb2.mono B1.size)
    have d1 : w2.cell? ⟨w.heap.size, 1, none⟩ = some (Value.slice ao' m cap') := (hb2.cell (p := ⟨w.heap.size, 1, none⟩) hl1).trans c1
    obtain ⟨hq1, hq2⟩ := hat
    clear c0 c1 hb2 g1
    by_cases hq : q = -1
    · subst hq
      go_wp2_with fail
      go_ret2
      exact ⟨by rw [tagAns_ok HC.out, HQ.out, HC.out]; rfl, B2⟩
    · obtain ⟨p, rfl⟩ : ∃ p : Nat, q = (p : Int) := ⟨q.toNat, by omega⟩
      obtain ⟨b, o, rfl, hb, hc⟩ := HCS.out.resolve_left (by have := G2.out; omega)
      have hp1 : (p : Int) < (m : Int) := by have := G2.out; omega
      have e0 : w2.cell? ⟨b, o + p, none⟩ = some (.int .i64 (T p)) := (B2.cell (p := ⟨b, o + p, none⟩) hb).trans (hc p (by omega))
      have hb0 : ((p : Int) == -1) = false := by simp
      clear hc
      go_wp2_with fail
      go_ret2
      exact ⟨by rw [tagAns_ok HC.out, HQ.out, HC.out]; unfold tagOf; rw [if_neg (by omega)]; rfl, B2⟩
  · have hb0 : (c != 0) = true := by simp; exact h0
    go_wp2_with fail
    go_ret2
    exact ⟨by rw [tagAns_bad (by rw [HC.out]; exact h0), HC.out]; rfl, B1⟩
end Go.Proofs.Ytlmlkpdppkgenaa.Df
