/-
  The contract of lexer.Lex.
-/
import Derived.Test.YtcdnbkfjiigdmaaLxLong
import Derived.Deep.AppendLies
namespace Go.Proofs.Ytcdnbkfjiigdmaa
open Go.RowKit
open Dfa

theorem info37 : (Try.prog.info? 37).map (fun i => (i.zero, i.size, i.bytes)) = some (some (.agg #[.int .i64 0, .int .i64 0, .int .i64 0]), 3, 24) := by kernel_rfl
/-- The cells of tokens. -/
def tc (t : Int × Nat × Nat) : List Value := [.int .i64 t.1, .int .i64 (t.2.1 : Int), .int .i64 (t.2.2 : Int)]
def tcs (ts : List (Int × Nat × Nat)) : List Value := ts.flatMap tc
theorem tcs_length (ts : List (Int × Nat × Nat)) : (tcs ts).length = ts.length * 3 := by
  induction ts with
  | nil => rfl
  | cons f fs ih => simp only [tcs, List.flatMap_cons, List.length_append, List.length_cons] at ih ⊢; rw [ih]; simp [tc]; omega
theorem tcs_append (fs gs : List (Int × Nat × Nat)) : tcs (fs ++ gs) = tcs fs ++ tcs gs := by simp [tcs]
theorem tcs_at (fs : List (Int × Nat × Nat)) (i : Nat) (hi : i < fs.length) : (tcs fs)[i * 3]? = some (.int .i64 fs[i].1) ∧ (tcs fs)[i * 3 + 1]? = some (.int .i64 (fs[i].2.1 : Int)) ∧ (tcs fs)[i * 3 + 2]? = some (.int .i64 (fs[i].2.2 : Int)) := by
  have e : fs = fs.take i ++ fs[i] :: fs.drop (i + 1) := by rw [List.getElem_cons_drop, List.take_append_drop]
  have hl : (tcs (fs.take i)).length = i * 3 := by rw [tcs_length, List.length_take]; rw [Nat.min_eq_left (by omega)]
  have hc : ∀ j, j < 3 → (tcs fs)[i * 3 + j]? = (tc fs[i])[j]? := fun j hj => by
    conv => lhs; rw [e]
    rw [tcs_append, List.getElem?_append_right (by omega), hl, Nat.add_sub_cancel_left]
    show (tc fs[i] ++ tcs (fs.drop (i + 1)))[j]? = _
    rw [List.getElem?_append_left (by simp [tc]; omega)]
  exact ⟨hc 0 (by omega), hc 1 (by omega), hc 2 (by omega)⟩
theorem tcs_snoc (fs : List (Int × Nat × Nat)) (t : Int × Nat × Nat) : tcs (fs ++ [t]) = tcs fs ++ [.int .i64 t.1, .int .i64 (t.2.1 : Int), .int .i64 (t.2.2 : Int)] := by rw [tcs_append]; rfl
theorem own_ge {w : World} {base e size n : Nat} {v : Value} {xs : List Value} (h : w.ownsRow base e size v n xs) : ∀ k, v.ownBlock = some k → base ≤ k := fun k hk => (h.lt k hk).1
theorem own_less {w : World} {base base' e size n : Nat} {v : Value} {xs : List Value} (h : w.ownsRow base e size v n xs) (hb : base' ≤ base) : w.ownsRow base' e size v n xs := by
  obtain ⟨h1, h2 | ⟨g, cap, cur, hv, hg, h3⟩⟩ := h
  · exact ⟨h1, Or.inl h2⟩
  · exact ⟨h1, Or.inr ⟨g, cap, cur, hv, by omega, h3⟩⟩
theorem own_below {w w' : World} {base e size n : Nat} {v : Value} {xs : List Value} (h : w.ownsRow base e size v n xs) {B : Nat} (hb : Below B w w') (hB : w.heap.size ≤ B) : w'.ownsRow base e size v n xs :=
  own_same h fun k hk => hb.block k (Nat.lt_of_lt_of_le (h.lt k hk).2 hB)
theorem own_form {w : World} {base e size n : Nat} {v : Value} {xs : List Value} (h : w.ownsRow base e size v n xs) : ∃ ao c, v = .slice ao n c := by
  rcases h.2 with ⟨hv, h0⟩ | ⟨g, cap, cur, hv, _⟩
  · exact ⟨none, 0, by rw [hv, h0]⟩
  · exact ⟨_, _, hv⟩

end Go.Proofs.Ytcdnbkfjiigdmaa
