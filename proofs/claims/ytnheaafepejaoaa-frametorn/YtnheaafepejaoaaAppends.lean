/-
  'append(a, b...)' where both are slices of the call's own memory (either may be nil): one law for the walk. And the bookkeeping of a stream that comes in pieces. No function is walked here.
-/
import Derived.Test.YtnheaafepejaoaaPieces
import Derived.Test.YtnheaafepejaoaaEquals
import Derived.Laws.AppendOwnNone
namespace Go.Proofs.Ytnheaafepejaoaa
open Go.RowKit
open Frm Crc

theorem wpList_append_both {P : Program} {w : World} {ops : Array Oper} {rest : List Oper} {o : Oper} {a : Act} {Q : Exit → Act → World → Prop} (hgd : o.guard = none) (s x : Operand) (t : TypeId)
    (ho : o.op = .call { callee := .builtin .append, args := #[s, x], argTypes := #[t, t] })
    (base : Nat) (e : TypeId) (i : TypeInfo) (z : Value) (size bytes : Nat) (ht : P.underlying t = some (.slice e)) (hi : P.info? e = some i) (hz : i.zero = some z)
    (hsize : i.size = size) (hby : i.bytes = bytes) (hzs : z.cells.size = size) (hsz : 0 < size)
    (v : Value) (n : Nat) (xs : List Value) (hs : a.eval s = v) (hown : w.ownsRow base e size v n xs)
    (base2 : Nat) (v2 : Value) (m : Nat) (news : List Value) (hx : a.eval x = v2) (hown2 : w.ownsRow base2 e size v2 m news) (h1 : ∀ u ∈ news, u.oneCell' = true)
    (h63 : n + m ≤ maxLen) (hbytes : (n + m) * bytes ≤ 140737488355328) (hbase : base ≤ w.heap.size)
    (h : ∀ v' w', w'.ownsRow base e size v' (n + m) (xs ++ news) → w.grownBy w' v.ownBlock → wpList P ops Q rest (a.put o.dst v') w') : wpList P ops Q (o :: rest) a w := by
  have hl := hown2.1
  rcases hown2.2 with ⟨hv, hm⟩ | ⟨g, cap, cur, hv, hg, hh, h2⟩
  · subst hm
    have hn : news = [] := List.length_eq_zero_iff.1 (by simpa using hl)
    subst hn
    refine wpList_append_own_none hgd s x t ho base e i size ht hi v n xs hs hown (hx.trans hv) (h v w ?_ ⟨rfl, rfl, rfl, Nat.le_refl _, fun _ _ _ => rfl⟩)
    simpa using hown
  · have hc := hown2.cells (g := g) (by rw [hv]; rfl)
    exact wpList_append_own w hgd s x t ho base e i z size bytes ht hi hz hsize hby hzs hsz v n xs hs hown ⟨g, 0, none⟩ m cap news (hx.trans hv) hl hc h1 h63 hbytes hbase fun v' w' a1 a2 _ => h v' w' a1 a2

/-- One more piece of a stream. -/
theorem joined_take (ls : List ByteArray) (k : Nat) (h : k < ls.length) : joined (ls.take (k + 1)) = joined (ls.take k) ++ (ls.getD k ByteArray.empty).data.toList := by
  rw [List.take_succ_eq_append_getElem h, joined_append, joined_one]
  simp [List.getD, List.getElem?_eq_getElem h]
theorem joined_rest (ls : List ByteArray) (k : Nat) : joined ls = joined (ls.take k) ++ joined (ls.drop k) := by rw [← joined_append, List.take_append_drop]
theorem piece_next (ls : List ByteArray) (k : Nat) (h : k < ls.length) (fs : List Fr) (R : List UInt8) (hf : ff (joined (ls.take k)) = (fs, R, 0)) :
    ff (joined (ls.take (k + 1))) = Frm.ahead fs (ff (R ++ (ls.getD k ByteArray.empty).data.toList)) := by
  rw [joined_take ls k h, ff_cut _ _ _ (Nat.le_refl _) (by rw [hf]), hf]
theorem piece_over (ls : List ByteArray) (k : Nat) (h : (ff (joined (ls.take k))).2.2 ≠ 0) : ff (joined ls) = ff (joined (ls.take k)) := by
  rw [joined_rest ls k, ff_over _ _ _ (Nat.le_refl _) h]
/-- How long what waits, with the next piece behind it, can be. -/
theorem piece_size (ls : List ByteArray) (k : Nat) (h : k < ls.length) (fs : List Fr) (R : List UInt8) (hf : ff (joined (ls.take k)) = (fs, R, 0)) :
    8 * fs.length + R.length + (ls.getD k ByteArray.empty).size ≤ (joined ls).length := by
  have h1 := ff_size _ (joined (ls.take k)) (Nat.le_refl _)
  rw [hf] at h1
  simp only at h1
  have h2 := congrArg List.length (joined_rest ls (k + 1))
  rw [joined_take ls k h, List.length_append, List.length_append, len_list] at h2
  omega
end Go.Proofs.Ytnheaafepejaoaa
