/-
  The document's own walk through two automata: what it is made of: the closures next and at; what it has in memory.
-/
import Derived.Test.YtcddomihkamhcaaApTold
namespace Go.Proofs.Ytcddomihkamhcaa
open Go.RowKit
open Dfa

set_option maxHeartbeats 1600000 in
set_option maxRecDepth 20000 in
theorem nextR_any (rv tv : Value) (n m : Nat) (R : Nat → Nat → Int) (T : Nat → Int) (x : Int) (j : Nat) (w : World) (hr : Rw w rv n R) (ht : Ts w tv m T) (hx : At n x) (hj : j < 256) :
    Calls Try.prog 15 #[.agg #[rv, tv], .int .i64 x, .int .i64 (j : Int)] w fun e w' => e = .returned (.int .i64 (nx R x j)) ∧ Below w.heap.size w w' := by
  obtain ⟨ao, cap, rfl, hn, hwf, hcs⟩ := hr
  obtain ⟨ao', cap', rfl, hm, hwf', -⟩ := ht
  clear hwf'
  obtain ⟨hx1, hx2⟩ := hx
  have B0 : Below w.heap.size w (w.alloc (Obj.cells #[Value.slice ao n cap, Value.slice ao' m cap'] 25)) := (Below.refl _ _).alloc (Nat.le_refl _) _
  go_enter Try.func15, Try.ntmps15
  by_cases hq : x = -1
  · subst hq
    clear hcs hwf
    go_wp2_with fail
    go_ret
    exact ⟨rfl, B0⟩
  · obtain ⟨p, rfl⟩ : ∃ p : Nat, x = (p : Int) := ⟨x.toNat, by omega⟩
    obtain ⟨b, o, rfl, hb, hc⟩ := hcs.resolve_left (by omega)
    have hp1 : (p : Int) < (n : Int) := by omega
    have hj1 : (j : Int) < 256 := by omega
    have e0 : (w.alloc (Obj.cells #[Value.slice (some ⟨b, o, none⟩) n cap, Value.slice ao' m cap'] 25)).cell? ⟨b, o + p * 256 + j, none⟩ = some (.int .i16 (R p j)) := (B0.cell (p := ⟨b, o + p * 256 + j, none⟩) hb).trans (hc p (by omega) j hj)
    have hb0 : ¬ ((p : Int) < 0) := by omega
    have HT : Hid (nx R (p : Int) j = R p j) := by show _ = _; unfold nx; rw [if_neg (by omega)]; rfl
    have hz := hwf p j
    obtain ⟨z, HZ⟩ : ∃ z, Hid (R p j = z) := ⟨_, (rfl : _ = _)⟩
    rw [HZ.out] at e0 hz HT
    have hwr := wrap_small hz
    clear hc hcs hwf
    go_wp2_with fail
    go_ret
    exact ⟨by rw [HT.out]; rfl, B0⟩

set_option maxHeartbeats 1600000 in
set_option maxRecDepth 20000 in
theorem atR_any (x y : Int) (w : World) (hx : -1 ≤ x ∧ x < 200) (hy : -1 ≤ y ∧ y < 200) :
    Calls Try.prog 16 #[.agg #[.int .i64 x, .int .i64 y]] w fun e w' => e = .returned (.int .i64 ((x + 1) * 201 + y + 1)) ∧ Below w.heap.size w w' := by
  have B0 : Below w.heap.size w (w.alloc (Obj.cells #[.int .i64 x, .int .i64 y] 52)) := (Below.refl _ _).alloc (Nat.le_refl _) _
  go_enter Try.func16, Try.ntmps16
  go_wp2_with fail
  go_ret
  exact ⟨rfl, B0⟩

/-- The cells of a pair; a text. -/
def pc (RA RB : Nat → Nat → Int) (s : S) : List Value := [.int .i64 (pr RA RB s.wd).1, .int .i64 (pr RA RB s.wd).2]
def pcs (RA RB : Nat → Nat → Int) (Q : List S) : List Value := Q.flatMap (pc RA RB)
def txs (Q : List S) : List Value := Q.map fun s => Value.string ⟨s.wd.toArray⟩
theorem pcs_snoc (RA RB : Nat → Nat → Int) (Q : List S) (s : S) : pcs RA RB (Q ++ [s]) = pcs RA RB Q ++ pc RA RB s := by simp [pcs]
theorem txs_snoc (Q : List S) (s : S) : txs (Q ++ [s]) = txs Q ++ [.string ⟨s.wd.toArray⟩] := by simp [txs]
theorem pcs_at (RA RB : Nat → Nat → Int) : ∀ (Q : List S) (i j : Nat), i < Q.length → j < 2 → (pcs RA RB Q)[i * 2 + j]? = (pc RA RB (g Q i))[j]?
  | [], i, j, h, _ => by simp at h
  | s :: Q, 0, j, _, hj => by
    simp only [pcs, List.flatMap_cons, Nat.zero_mul, Nat.zero_add]
    rw [List.getElem?_append_left (by simpa [pc] using hj)]
    rfl
  | s :: Q, i + 1, j, h, hj => by
    have ih := pcs_at RA RB Q i j (by simpa using h) hj
    simp only [pcs, List.flatMap_cons] at *
    rw [List.getElem?_append_right (by simp [pc]; omega), show (i + 1) * 2 + j - (pc RA RB s).length = i * 2 + j by simp [pc]; omega, ih]
    rfl
theorem txs_at (Q : List S) (i : Nat) (h : i < Q.length) : (txs Q)[i]? = some (.string ⟨(g Q i).wd.toArray⟩) := by
  simp [txs, g, List.getD_eq_getElem?_getD, List.getElem?_eq_getElem h]
theorem g_drop (Q : List S) (lo i : Nat) : g (Q.drop lo) i = g Q (lo + i) := by simp [g, List.getD_eq_getElem?_getD]
/-- From a row of one's own to its cells. -/
theorem own_cells {w : World} {base e size n : Nat} {v : Value} {xs : List Value} (h : w.ownsRow base e size v n xs) (h0 : 0 < n) : ∃ gv cap, v = .slice (some ⟨gv, 0, none⟩) n cap ∧ base ≤ gv ∧ gv < w.heap.size ∧ ∀ i u, xs[i]? = some u → w.cell? ⟨gv, i, none⟩ = some u := by
  obtain ⟨hl, ⟨h1, h2⟩ | ⟨gv, cap, cur, hv, hg, hh, hn, hc, hs, ht⟩⟩ := h
  · omega
  · refine ⟨gv, cap, hv, hg, ?_, fun i u hu => ?_⟩
    · rcases Nat.lt_or_ge gv w.heap.size with h' | h'
      · exact h'
      · simp [Array.getElem?_eq_none h'] at hh
    · have e : w.cell? ⟨gv, i, none⟩ = cur[i]? := by simp [World.cell?, hh]
      rw [e]
      have hi : i < xs.length := (List.getElem?_eq_some_iff.1 hu).1
      have h2 : (cur.toList.take (n * size))[i]? = xs[i]? := by rw [ht]
      rw [List.getElem?_take_of_lt (by omega), hu] at h2
      simpa using h2
/-- The walk can go on: one more stop is done. -/
theorem Dfa.Inv.go_on {pair : List UInt8 → Int × Int} {Q : List S} {a : Nat} (h : Inv pair Q a 0) (ha : a < Q.length) : ∃ Q', Inv pair (Q ++ Q') (a + 1) 0 := by
  have hb : ∀ b, b ≤ 256 → ∃ Q', Inv pair (Q ++ Q') a b := by
    intro b
    induction b with
    | zero => intro _; exact ⟨[], by simpa using h⟩
    | succ b ih =>
      intro hb
      obtain ⟨Q', h'⟩ := ih (by omega)
      have ha' : a < (Q ++ Q').length := by simp; omega
      rcases Classical.em (∃ k, k < (Q ++ Q').length ∧ pair (g (Q ++ Q') k).wd = pair ((g (Q ++ Q') a).wd ++ [UInt8.ofNat b])) with hs | hs
      · exact ⟨Q', h'.seen ha' (by omega) hs⟩
      · have := h'.new ha' (by omega) hs
        rw [List.append_assoc] at this
        exact ⟨_, this⟩
  obtain ⟨Q', h'⟩ := hb 256 (by omega)
  exact ⟨Q', h'.next⟩
theorem g_app (Q Q' : List S) (i : Nat) (h : i < Q.length) : g (Q ++ Q') i = g Q i := by simp [g, List.getD_eq_getElem?_getD, List.getElem?_append_left h]
theorem Dfa.Inv.go_to {pair : List UInt8 → Int × Int} {Q : List S} {a : Nat} (h : Inv pair Q a 0) : ∀ k, a + k ≤ Q.length → ∃ Q', Inv pair (Q ++ Q') (a + k) 0 := by
  intro k
  induction k with
  | zero => intro _; exact ⟨[], by simpa using h⟩
  | succ k ih =>
    intro hk
    obtain ⟨Q', h'⟩ := ih (by omega)
    obtain ⟨Q2, h2⟩ := h'.go_on (by simp; omega)
    rw [List.append_assoc] at h2
    exact ⟨_, h2⟩
/-- The first of those that are there now of which it holds is the first of all. -/
theorem Dfa.Inv.first {pair : List UInt8 → Int × Int} {Q : List S} {a : Nat} (h : Inv pair Q a 0) (hp : ∀ u v b, pair u = pair v → pair (u ++ [b]) = pair (v ++ [b])) (D : Int × Int → Prop) (k : Nat) (hk : a + k ≤ Q.length) (hn : ∀ i, i < a + k → ¬ D (pair (g Q i).wd)) (v : List UInt8) (hv : D (pair v)) :
    (a + k < Q.length → key (g Q (a + k)).wd ≤ key v) := by
  obtain ⟨Q', h'⟩ := h.go_to k hk
  intro hlt
  have := (h'.least hp D (fun i hi hl => by rw [g_app _ _ _ (by omega)]; exact hn i hi) v hv).2
  rwa [g_app _ _ _ hlt] at this
end Go.Proofs.Ytcddomihkamhcaa
