/-
  The contracts of small.tagOf and small.behind; what a walk is in memory.
-/
import Derived.Test.YtlgcggfenljdnaaFree
import Derived.Test.YtlgcggfenljdnaaPkTab
import Derived.Test.YtlgcggfenljdnaaApMath
import Derived.Deep.OwnRows
import Derived.Lib.SliceRun
namespace Go.Proofs.Ytlgcggfenljdnaa
open Go.RowKit
open Dfa

/-- Where a byte leads from a state, or from none. -/
def nx (R : Nat → Nat → Int) (x : Int) (j : Nat) : Int := if x < 0 then x else R x.toNat j
theorem nx_step (R : Nat → Nat → Int) (x : Int) (b : UInt8) : Dfa.step R x b = nx R x b.toNat := rfl

set_option maxHeartbeats 1600000 in
set_option maxRecDepth 20000 in
theorem tagOfP_any (rv tv : Value) (n m : Nat) (R : Nat → Nat → Int) (T : Nat → Int) (x : Int) (w : World) (hr : Rw w rv n R) (ht : Ts w tv m T) (hx : At m x) :
    Calls Try.prog 38 #[.agg #[rv, tv], .int .i16 x] w fun e w' => e = .returned (.int .i64 (tagOf T x)) ∧ Below w.heap.size w w' := by
  obtain ⟨ao, cap, rfl, hn, hwf, -⟩ := hr
  obtain ⟨ao', cap', rfl, hm, hwf', hcs⟩ := ht
  clear hwf hwf'
  obtain ⟨hx1, hx2⟩ := hx
  have B0 : Below w.heap.size w (w.alloc (Obj.cells #[Value.slice ao n cap, Value.slice ao' m cap'] 25)) := (Below.refl _ _).alloc (Nat.le_refl _) _
  go_enter Try.func38, Try.ntmps38
  by_cases hq : x = -1
  · subst hq
    clear hcs
    go_wp2_with fail
    go_ret
    exact ⟨rfl, B0⟩
  · obtain ⟨p, rfl⟩ : ∃ p : Nat, x = (p : Int) := ⟨x.toNat, by omega⟩
    obtain ⟨b, o, rfl, hb, hc⟩ := hcs.resolve_left (by omega)
    have hp1 : (p : Int) < (m : Int) := by omega
    have e0 : (w.alloc (Obj.cells #[Value.slice ao n cap, Value.slice (some ⟨b, o, none⟩) m cap'] 25)).cell? ⟨b, o + p, none⟩ = some (.int .i64 (T p)) := (B0.cell (p := ⟨b, o + p, none⟩) hb).trans (hc p (by omega))
    have hb0 : ((p : Int) == -1) = false := by simp
    have HT : Hid (tagOf T (p : Int) = T p) := by show _ = _; unfold tagOf; rw [if_neg (by omega)]; rfl
    clear hc hcs
    go_wp2_with fail
    go_ret
    exact ⟨by rw [HT.out]; rfl, B0⟩

set_option maxHeartbeats 1600000 in
set_option maxRecDepth 20000 in
theorem behindP_any (rv tv : Value) (n m : Nat) (R : Nat → Nat → Int) (T : Nat → Int) (x : Int) (j : Nat) (w : World) (hr : Rw w rv n R) (ht : Ts w tv m T) (hx : At n x) (hj : j < 256) :
    Calls Try.prog 41 #[.agg #[rv, tv], .int .i16 x, .int .i64 (j : Int)] w fun e w' => e = .returned (.int .i16 (nx R x j)) ∧ Below w.heap.size w w' := by
  obtain ⟨ao, cap, rfl, hn, hwf, hcs⟩ := hr
  obtain ⟨ao', cap', rfl, hm, hwf', -⟩ := ht
  clear hwf hwf'
  obtain ⟨hx1, hx2⟩ := hx
  have B0 : Below w.heap.size w (w.alloc (Obj.cells #[Value.slice ao n cap, Value.slice ao' m cap'] 25)) := (Below.refl _ _).alloc (Nat.le_refl _) _
  go_enter Try.func41, Try.ntmps41
  by_cases hq : x = -1
  · subst hq
    clear hcs
    go_wp2_with fail
    go_ret
    exact ⟨rfl, B0⟩
  · obtain ⟨p, rfl⟩ : ∃ p : Nat, x = (p : Int) := ⟨x.toNat, by omega⟩
    obtain ⟨b, o, rfl, hb, hc⟩ := hcs.resolve_left (by omega)
    have hp1 : (p : Int) < (n : Int) := by omega
    have hj1 : (j : Int) < 256 := by omega
    have e0 : (w.alloc (Obj.cells #[Value.slice (some ⟨b, o, none⟩) n cap, Value.slice ao' m cap'] 25)).cell? ⟨b, o + p * 256 + j, none⟩ = some (.int .i16 (R p j)) := (B0.cell (p := ⟨b, o + p * 256 + j, none⟩) hb).trans (hc p (by omega) j hj)
    have hb0 : ((p : Int) == -1) = false := by simp
    have HT : Hid (nx R (p : Int) j = R p j) := by show _ = _; unfold nx; rw [if_neg (by omega)]; rfl
    clear hc hcs
    go_wp2_with fail
    go_ret
    exact ⟨by rw [HT.out]; rfl, B0⟩

/-- Both automata at once. -/
def pr (RA RB : Nat → Nat → Int) (l : List UInt8) : Int × Int := (goes RA 0 l, goes RB 0 l)
theorem pr_snoc (RA RB : Nat → Nat → Int) (l : List UInt8) (b : UInt8) : pr RA RB (l ++ [b]) = (nx RA (pr RA RB l).1 b.toNat, nx RB (pr RA RB l).2 b.toNat) := by
  unfold pr; rw [goes_snoc, goes_snoc]; rfl
theorem pr_next (RA RB : Nat → Nat → Int) (u v : List UInt8) (b : UInt8) (h : pr RA RB u = pr RA RB v) : pr RA RB (u ++ [b]) = pr RA RB (v ++ [b]) := by
  rw [pr_snoc, pr_snoc, h]
/-- The cells of a stop. -/
def sc (RA RB : Nat → Nat → Int) (s : S) : List Value := [.int .i16 (pr RA RB s.wd).1, .int .i16 (pr RA RB s.wd).2, .int .i64 (s.fr : Int), .int .u8 (s.by_ : Int)]
def scs (RA RB : Nat → Nat → Int) (Q : List S) : List Value := Q.flatMap (sc RA RB)
theorem scs_snoc (RA RB : Nat → Nat → Int) (Q : List S) (s : S) : scs RA RB (Q ++ [s]) = scs RA RB Q ++ sc RA RB s := by simp [scs]
theorem scs_length (RA RB : Nat → Nat → Int) (Q : List S) : (scs RA RB Q).length = Q.length * 4 := by
  induction Q with
  | nil => rfl
  | cons s Q ih => simp only [scs, List.flatMap_cons, List.length_append, List.length_cons] at *; rw [ih]; simp [sc]; omega
theorem scs_at (RA RB : Nat → Nat → Int) : ∀ (Q : List S) (i j : Nat), i < Q.length → j < 4 → (scs RA RB Q)[i * 4 + j]? = (sc RA RB (g Q i))[j]?
  | [], i, j, h, _ => by simp at h
  | s :: Q, 0, j, _, hj => by
    simp only [scs, List.flatMap_cons, Nat.zero_mul, Nat.zero_add]
    rw [List.getElem?_append_left (by simpa [sc] using hj)]
    rfl
  | s :: Q, i + 1, j, h, hj => by
    have ih := scs_at RA RB Q i j (by simpa using h) hj
    simp only [scs, List.flatMap_cons] at *
    rw [List.getElem?_append_right (by simp [sc]; omega), show (i + 1) * 4 + j - (sc RA RB s).length = i * 4 + j by simp [sc]; omega, ih]
    rfl
/-- A walk in memory: the table at G, the walk at G + 1, the table's rows behind it. -/
structure Wk (RA RB : Nat → Nat → Int) (G n m : Nat) (F : Nat → Nat → Bool) (Q : List S) (sv : Value) (W : World) : Prop where
  top : W.rowIs G 96 (n + 1) (fun i => .slice (some ⟨G + 2 + i, 0, none⟩) (m + 1) (m + 1))
  rows : ∀ i, i < n + 1 → W.rowIs (G + 2 + i) 4 (m + 1) (fun j => .bool (F i j))
  box : W.rowIs (G + 1) 74 2 (fun i => if i = 0 then sv else .slice (some ⟨G, 0, none⟩) (n + 1) (n + 1))
  own : W.ownsRow (G + 3 + n) 76 4 sv Q.length (scs RA RB Q)
variable {RA RB : Nat → Nat → Int} {G n m : Nat} {F : Nat → Nat → Bool} {Q : List S} {sv : Value} {W W' : World}
theorem Wk.same (h : Wk RA RB G n m F Q sv W) (hs : ∀ k, k < W.heap.size → W'.heap[k]? = W.heap[k]?) : Wk RA RB G n m F Q sv W' :=
  ⟨h.top.of_block (hs _ h.top.lt), fun i hi => (h.rows i hi).of_block (hs _ (h.rows i hi).lt), h.box.of_block (hs _ h.box.lt), own_same h.own fun k hk => hs k (h.own.lt k hk).2⟩
theorem Wk.below (h : Wk RA RB G n m F Q sv W) (hb : Below W.heap.size W W') : Wk RA RB G n m F Q sv W' := h.same fun k hk => hb.block k hk
/-- The cells of a stop that was come to. -/
theorem Wk.stop (h : Wk RA RB G n m F Q sv W) (hq : 0 < Q.length) : ∃ gs cap, sv = .slice (some ⟨gs, 0, none⟩) Q.length cap ∧ G + 3 + n ≤ gs ∧ gs < W.heap.size ∧ ∀ i, i < Q.length → ∀ j, j < 4 → W.cell? ⟨gs, i * 4 + j, none⟩ = (sc RA RB (Dfa.g Q i))[j]? := by
  obtain ⟨hl, ⟨h1, h2⟩ | ⟨gs, cap, cur, hv, hg, hh, hnn, hc, hsz, ht⟩⟩ := h.own
  · omega
  · refine ⟨gs, cap, hv, hg, ?_, fun i hi j hj => ?_⟩
    · rcases Nat.lt_or_ge gs W.heap.size with h' | h'
      · exact h'
      · simp [Array.getElem?_eq_none h'] at hh
    · have e : W.cell? ⟨gs, i * 4 + j, none⟩ = cur[i * 4 + j]? := by simp [World.cell?, hh]
      have h2 : (cur.toList.take (Q.length * 4))[i * 4 + j]? = (scs RA RB Q)[i * 4 + j]? := by rw [ht]
      rw [List.getElem?_take_of_lt (by omega), scs_at RA RB Q i j hi hj] at h2
      rw [e, ← h2]; simp
end Go.Proofs.Ytlgcggfenljdnaa
