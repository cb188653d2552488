/-
  What an automaton is that is handed in: its rows of 256 numbers, its tags. No function is walked here.
-/
import Derived.Test.YtcdnbkfjiigdmaaRows
import Derived.Test.YtcdnbkfjiigdmaaMath
import Derived.WalkKit
import Derived.ProofKit
import Derived.OpenShut
import Derived.Carry
import Derived.Below
import Derived.Deep.Slices
import Derived.Deep.Strs
import Derived.Lib.SmallJoins
import Derived.Deep.MidRow
import Derived.Deep.WholeRow
import Derived.OwnWalk
namespace Go.Proofs.Ytcdnbkfjiigdmaa
open Go.ChangeShapes Go.WideShapes Go.ChangeAt Go.RowKit
open Dfa

theorem cells62 : Try.prog.cellsOf 62 = 256 := by kernel_rfl
theorem cells60 : Try.prog.cellsOf 60 = 1 := by kernel_rfl
theorem cells51 : Try.prog.cellsOf 51 = 2 := by kernel_rfl
theorem cells3 : Try.prog.cellsOf 3 = 1 := by kernel_rfl
theorem size62 : (Try.prog.info? 62).map (·.size) = some 256 := by kernel_rfl

variable {H : Type} {enc : TypeId × Value → H}

/-- A value is a slice that holds these rows. -/
def Rw (w : World) (v : Value) (n : Nat) (R : Nat → Nat → Int) : Prop :=
  ∃ ao cap, v = .slice ao n cap ∧ n ≤ 9223372036854775807 ∧ (∀ i j, -32768 ≤ R i j ∧ R i j ≤ 32767) ∧ (n = 0 ∨ ∃ b o, ao = some ⟨b, o, none⟩ ∧ b < w.heap.size ∧
    ∀ i, i < n → ∀ j, j < 256 → w.cell? ⟨b, o + i * 256 + j, none⟩ = some (.int .i16 (R i j)))
/-- A value is a slice that holds these numbers. -/
def Ts (w : World) (v : Value) (n : Nat) (T : Nat → Int) : Prop :=
  ∃ ao cap, v = .slice ao n cap ∧ n ≤ 9223372036854775807 ∧ (∀ i, -9223372036854775808 ≤ T i ∧ T i ≤ 9223372036854775807) ∧ (n = 0 ∨ ∃ b o, ao = some ⟨b, o, none⟩ ∧ b < w.heap.size ∧
    ∀ i, i < n → w.cell? ⟨b, o + i, none⟩ = some (.int .i64 (T i)))
theorem Rw.below {w w' : World} {v : Value} {n : Nat} {R : Nat → Nat → Int} (h : Rw w v n R) {B : Nat} (hb : Below B w w') (hB : w.heap.size ≤ B) : Rw w' v n R := by
  obtain ⟨ao, cap, hv, hm, hw, h | ⟨b, o, h1, h2, h3⟩⟩ := h
  · exact ⟨ao, cap, hv, hm, hw, Or.inl h⟩
  · exact ⟨ao, cap, hv, hm, hw, Or.inr ⟨b, o, h1, Nat.lt_of_lt_of_le h2 hb.size, fun i hi j hj => (hb.cell (p := ⟨b, o + i * 256 + j, none⟩) (by simp; omega)).trans (h3 i hi j hj)⟩⟩
theorem Ts.below {w w' : World} {v : Value} {n : Nat} {T : Nat → Int} (h : Ts w v n T) {B : Nat} (hb : Below B w w') (hB : w.heap.size ≤ B) : Ts w' v n T := by
  obtain ⟨ao, cap, hv, hm, hw, h | ⟨b, o, h1, h2, h3⟩⟩ := h
  · exact ⟨ao, cap, hv, hm, hw, Or.inl h⟩
  · exact ⟨ao, cap, hv, hm, hw, Or.inr ⟨b, o, h1, Nat.lt_of_lt_of_le h2 hb.size, fun i hi => (hb.cell (p := ⟨b, o + i, none⟩) (by simp; omega)).trans (h3 i hi)⟩⟩

theorem open_row {W : World} {base m : Nat} {spare : Nat → Bool} {held : Bool} {cs : List Value} {y : DataW H × List MemPlace} (h : DataW.trod enc Try.prog W base spare held m 62 cs = some y) :
    ∃ f : Nat → Int, (∀ j, -32768 ≤ f j ∧ f j ≤ 32767) ∧ ∀ j, j < 256 → cs[j]? = some (.int .i16 (f j)) := by
  obtain ⟨xs, k, _, _, hl, hn, hf⟩ := DataW.trod_array Try.underlying62 h
  rw [cells62] at hl
  simp only [cells60] at hf
  have hE : ∀ j, ∃ z : Int, (-32768 ≤ z ∧ z ≤ 32767) ∧ (j < 256 → cs[j]? = some (.int .i16 z)) := by
    intro j
    by_cases hj : j < 256
    · have h0 := hf j (by omega)
      rw [List.getElem?_eq_getElem (by omega)] at h0
      obtain ⟨z, e0, _, hw⟩ := DataW.trod_int Try.underlying60 h0
      refine ⟨z, by simpa [Lit.wf, IntKind.min, IntKind.max, IntKind.signed, IntKind.bits] using hw, fun _ => ?_⟩
      have e1 : ((cs.drop (j * 1)).take 1)[0]? = some (.int .i16 z) := by rw [e0]; rfl
      simpa [List.getElem?_take, List.getElem?_drop] using e1
    · exact ⟨0, by omega, fun h => absurd h hj⟩
  obtain ⟨F, hF⟩ := Classical.axiomOfChoice hE
  exact ⟨F, fun j => (hF j).1, fun j hj => (hF j).2 hj⟩

theorem open_rows {W : World} {fuel : Nat} {v : List Value} {y : DataW H × List MemPlace} (ao : Option Addr) (n cap : Nat) (hv : v = [.slice ao n cap]) (hf : DataW.trod enc Try.prog W 0 (fun _ => true) true fuel 49 v = some y) :
    ∃ R, Rw W (.slice ao n cap) n R := by
  subst hv
  rcases Go.Deep.open_slice Try.underlying49 hf with ⟨hcs, hx⟩ | ⟨a', len', cap', m, k, D, Pl, hcs, hb, hl, hm, hmm, hx, hel⟩
  · simp at hcs
    obtain ⟨rfl, rfl, rfl⟩ := hcs
    exact ⟨fun _ _ => 0, none, 0, rfl, by omega, fun _ _ => by simp, Or.inl rfl⟩
  · simp at hcs
    obtain ⟨rfl, rfl, rfl⟩ := hcs
    simp only [if_true] at hmm
    subst hmm
    rw [cells62] at hel hx
    have hE : ∀ i, ∃ f : Nat → Int, (∀ j, -32768 ≤ f j ∧ f j ≤ 32767) ∧ (i < n → ∀ j, j < 256 → W.cell? ((a'.add (i * 256)).add j) = some (.int .i16 (f j))) := by
      intro i
      by_cases hi : i < n
      · obtain ⟨cs', hc, ht⟩ := hel i (by omega)
        obtain ⟨_, hlen, hat⟩ := World.cells?_some hc
        obtain ⟨f, h1, h2⟩ := open_row ht
        refine ⟨f, h1, fun _ j hj => ?_⟩
        rw [hat j (by omega)]
        exact h2 j hj
      · exact ⟨fun _ => 0, fun _ => by simp, fun h => absurd h hi⟩
    obtain ⟨F, hF⟩ := Classical.axiomOfChoice hE
    refine ⟨F, some a', _, rfl, by unfold maxLen at hm; omega, fun i j => (hF i).1 j, ?_⟩
    by_cases h0 : n = 0
    · left; exact h0
    · right
      obtain ⟨b, off, spot⟩ := a'
      have hspot : spot = none := by simpa [Addr.add] using World.cell?_spot ((hF 0).2 (by omega) 0 (by omega))
      subst hspot
      have e : ∀ i j, ((⟨b, off, none⟩ : Addr).add (i * 256)).add j = ⟨b, off + i * 256 + j, none⟩ := fun i j => by rw [Go.WideShapes.add_plain, Go.WideShapes.add_plain]
      refine ⟨b, off, rfl, ?_, fun i hi j hj => ?_⟩
      · rcases Nat.lt_or_ge b W.heap.size with h' | h'
        · exact h'
        · have := (hF 0).2 (by omega) 0 (by omega)
          rw [e] at this
          simp [World.cell?, Array.getElem?_eq_none h'] at this
      · have := (hF i).2 hi j hj
        rw [e] at this
        exact this
theorem open_tags {W : World} {fuel : Nat} {v : List Value} {y : DataW H × List MemPlace} (ao : Option Addr) (n cap : Nat) (hv : v = [.slice ao n cap]) (hf : DataW.trod enc Try.prog W 0 (fun _ => true) true fuel 24 v = some y) :
    ∃ T, Ts W (.slice ao n cap) n T := by
  subst hv
  rcases open_ints Try.underlying24 Try.underlying3 cells3 hf with ⟨hcs, hx⟩ | ⟨a', len', cap', zs, hcs, hb, hl, hm, hz, hx, hcell, hwf⟩
  · simp at hcs
    obtain ⟨rfl, rfl, rfl⟩ := hcs
    exact ⟨fun _ => 0, none, 0, rfl, by omega, fun _ => by simp, Or.inl rfl⟩
  · simp at hcs
    obtain ⟨rfl, rfl, rfl⟩ := hcs
    simp only [if_true] at hz
    refine ⟨fun i => zs.getD i 0, some a', cap, rfl, by unfold maxLen at hm; omega, fun i => ?_, ?_⟩
    · show -9223372036854775808 ≤ zs.getD i 0 ∧ zs.getD i 0 ≤ 9223372036854775807
      rw [List.getD_eq_getElem?_getD]
      by_cases hi : i < zs.length
      · rw [List.getElem?_eq_getElem hi]
        have := hwf zs[i] (List.getElem_mem hi)
        simpa [Lit.wf, IntKind.min, IntKind.max, IntKind.signed, IntKind.bits] using this
      · rw [List.getElem?_eq_none (by omega)]; exact by simp
    · by_cases h0 : n = 0
      · left; exact h0
      · right
        obtain ⟨b, off, spot⟩ := a'
        have hspot : spot = none := by simpa [Addr.add] using World.cell?_spot (hcell 0 (by omega))
        subst hspot
        have hplain : ∀ j, j < zs.length → W.cell? ⟨b, off + j, none⟩ = some (.int .i64 (zs.getD j 0)) := fun j hj => by rw [← Go.WideShapes.add_plain]; exact hcell j hj
        refine ⟨b, off, rfl, ?_, fun i hi => hplain i (by omega)⟩
        rcases Nat.lt_or_ge b W.heap.size with h' | h'
        · exact h'
        · have := hplain 0 (by omega)
          simp [World.cell?, Array.getElem?_eq_none h'] at this
theorem open_dfa {W : World} {r : Reach} {b0 : Nat} {v : Value} {d : DataW H} {p : List MemPlace} (hv : Value.okWide Try.prog W r b0 51 v) (h : DataW.Trod enc Try.prog W 0 (fun _ => true) true 51 v d p) :
    ∃ rv tv n m R T, v = .agg #[rv, tv] ∧ Rw W rv n R ∧ Ts W tv m T := by
  obtain ⟨c0, c1, y0, y1, k, rfl, rfl, rfl, h0, h1⟩ := Go.Joins.open_agg2 Try.underlying51 (by kernel_rfl) cells51 hv h
  obtain ⟨a, n, cap, rfl⟩ : ∃ a n cap, c0 = .slice a n cap := by
    rcases Go.Deep.open_slice Try.underlying49 h0 with ⟨hcs, hx⟩ | ⟨a', len', cap', m, k, D, Pl, hcs, _⟩
    · simp at hcs; exact ⟨_, _, _, hcs⟩
    · simp at hcs; exact ⟨_, _, _, hcs⟩
  obtain ⟨a1, n1, cap1, rfl⟩ : ∃ a n cap, c1 = .slice a n cap := by
    rcases Go.Deep.open_slice Try.underlying24 h1 with ⟨hcs, hx⟩ | ⟨a', len', cap', m, k, D, Pl, hcs, _⟩
    · simp at hcs; exact ⟨_, _, _, hcs⟩
    · simp at hcs; exact ⟨_, _, _, hcs⟩
  obtain ⟨R, hR⟩ := open_rows a n cap rfl h0
  obtain ⟨T, hT⟩ := open_tags a1 n1 cap1 rfl h1
  exact ⟨_, _, n, n1, R, T, rfl, hR, hT⟩
end Go.Proofs.Ytcdnbkfjiigdmaa
