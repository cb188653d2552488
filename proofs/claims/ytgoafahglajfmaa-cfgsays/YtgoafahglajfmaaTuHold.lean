/-
  What pushref.Turned holds in memory, and its region that draws its order. No function is walked here.
-/
import Derived.Test.YtgoafahglajfmaaMirror
import Derived.Deep.AppendLies
namespace Go.Proofs.Ytgoafahglajfmaa
open Go.RowKit
open Cg

theorem step_call_append {P : Program} {ops : Array Oper} {o : Oper} {a : Act} {K : Act → World → Prop} {Q : Exit → Act → World → Prop} {E : Prop} {W W1 : World} {v sv xv : Value} (hgd : o.guard = none) (s x : Operand) (t : TypeId) (ho : o.op = .call { callee := .builtin .append, args := #[s, x], argTypes := #[t, t] })
    (hs : a.eval s = sv) (hx : a.eval x = xv) (hr : (Builtin.append_ #[t, t] o.type #[sv, xv]).run P W = .ok v W1) (h : K (a.put o.dst v) W1) : if Region.wanted o (yielded ops a.tmps) = true then Oper.wp P o a W K Q else E := by
  have hw : Region.wanted o (yielded ops a.tmps) = true := by simp [Region.wanted, hgd]
  rw [if_pos hw]
  unfold Oper.wp
  simp [execOp, ho, resolve, invoke, builtin, hs, hx, hr, Result.andThen]
  exact h
theorem gb_alloc {w w' : World} {r : Option Nat} (h : w.grownBy w' r) (o : Obj) : w.grownBy (w'.alloc o) r :=
  ⟨h.os, h.tape, h.output, Nat.le_trans h.size (by simp), fun k hk hn => by
    have := h.block k hk hn
    have h2 := h.size
    simp only [World.alloc]
    rw [Array.getElem?_push_lt (by omega)]
    rw [← this, Array.getElem?_eq_getElem (by omega)]⟩
theorem gb_then {w w' w'' : World} {r : Option Nat} (h : w.grownBy w' r) (k : w'.grownBy w'' r) : w.grownBy w'' r :=
  ⟨k.os.trans h.os, k.tape.trans h.tape, k.output.trans h.output, Nat.le_trans h.size k.size, fun i hi hn => (k.block i (Nat.lt_of_lt_of_le hi h.size) hn).trans (h.block i hi hn)⟩
theorem gb_old {w w' : World} {r : Option Nat} (h : w.grownBy w' r) {p : Addr} (hp : p.block < w.heap.size) (hn : some p.block ≠ r) : w'.cell? p = w.cell? p := World.cell?_of_block (h.block _ hp hn)
theorem gb_drew {w w' : World} {r : Option Nat} (h : w.grownBy w' r) : w.grownBy w'.drew r := ⟨h.os, h.tape, h.output, h.size, h.block⟩
/-- The cells that the region reads, and where they lie. -/
structure TC (w9 : World) (pb gx m np q nl k b o b2 o2 pc bc uc : Nat) (ba : Option Addr) (s0 s1 : Int) : Prop where
  k1 : w9.cell? ⟨pb, 1, none⟩ = some (.slice ba m bc)
  k2 : w9.cell? ⟨gx, 2, none⟩ = some (.slice (some ⟨b, o, none⟩) np pc)
  k3 : w9.cell? ⟨b, o + q * 2 + 1, none⟩ = some (.slice (some ⟨b2, o2, none⟩) nl uc)
  k4 : w9.cell? ⟨b2, o2 + k * 2, none⟩ = some (.int .i64 s0)
  k5 : w9.cell? ⟨b2, o2 + k * 2 + 1, none⟩ = some (.int .i64 s1)
structure TB (w9 : World) (pb gx b b2 : Nat) (r : Option Nat) : Prop where
  k1 : pb < w9.heap.size ∧ some pb ≠ r
  k2 : gx < w9.heap.size ∧ some gx ≠ r
  k3 : b < w9.heap.size ∧ some b ≠ r
  k4 : b2 < w9.heap.size ∧ some b2 ≠ r
  k5 : b2 < w9.heap.size ∧ some b2 ≠ r
structure RTu (w9 : World) (B pb gx m np q nl k b o b2 o2 pc bc uc : Nat) (ba : Option Addr) (x s0 s1 : Int) (xs : List Value) (gb : Nat) (gr : Nat) (cr : Nat) (d : Nat → Bool) (x38 x39 x40 x41 x42 x43 x44 x45 x46 x47 x48 x49 x50 x51 : Value) (W : World) : Prop where
  f0 : d 0 = true → x38 = (.pointer (some ⟨pb, 1, none⟩))
  f1 : d 1 = true → x39 = (.slice ba m bc)
  f2 : d 2 = true → x40 = (.pointer (some ⟨gx, 2, none⟩))
  f3 : d 3 = true → x41 = (.slice (some ⟨b, o, none⟩) np pc)
  f4 : d 4 = true → x42 = (.int .i64 (q : Int))
  f5 : d 5 = true → x43 = (.pointer (some ⟨b, o + q * 2, none⟩))
  f6 : d 6 = true → x44 = (.pointer (some ⟨b, o + q * 2 + 1, none⟩))
  f7 : d 7 = true → x45 = (.slice (some ⟨b2, o2, none⟩) nl uc)
  f8 : d 8 = true → x46 = (.int .i64 (k : Int))
  f9 : d 9 = true → x47 = (.pointer (some ⟨b2, o2 + k * 2, none⟩))
  f10 : d 10 = true → x48 = (.agg #[.int .i64 s0, .int .i64 s1])
  f11 : d 11 = true → x49 = (.slice (some ⟨gb, 0, none⟩) 1 1)
  f12 : d 12 = true → x50 = (.slice (some ⟨gr, 0, none⟩) (m + 1) cr)
  f13 : d 13 = true → x51 = (.pointer (some ⟨pb, 1, none⟩))
  f14 : d 14 = true → True
  o14 : ∀ i, i < 14 → d 14 = true → d i = true
  c12 : d 12 = true → d 11 = true
  kp : d 14 = false → w9.grownBy W (Value.ownBlock (.slice ba m bc))
  r0 : d 12 = false → W.ownsRow B 44 2 (.slice ba m bc) m xs
  b0 : d 11 = true → d 12 = false → W.heap[gb]? = some (.cells #[.int .i64 s0, .int .i64 s1] 44)
  r1 : d 12 = true → d 14 = false → W.ownsRow B 44 2 (.slice (some ⟨gr, 0, none⟩) (m + 1) cr) (m + 1) (xs ++ [.int .i64 s0, .int .i64 s1])
  fin : d 14 = true → ∃ V, w9.grownBy V (Value.ownBlock (.slice ba m bc)) ∧ V.ownsRow B 44 2 (.slice (some ⟨gr, 0, none⟩) (m + 1) cr) (m + 1) (xs ++ [.int .i64 s0, .int .i64 s1]) ∧ W = V.setCell ⟨pb, 1, none⟩ (.slice (some ⟨gr, 0, none⟩) (m + 1) cr)

/-- The cells of symbols in a row. -/
def scs (l : List Sy) : List Value := l.flatMap fun s => [.int .i64 s.1, .int .i64 s.2]
theorem scs_append (l m : List Sy) : scs (l ++ m) = scs l ++ scs m := by simp [scs]
theorem scs_len (l : List Sy) : (scs l).length = l.length * 2 := by
  induction l with
  | nil => rfl
  | cons s l ih => simp only [scs, List.flatMap_cons, List.length_append, List.length_cons, List.length_nil] at ih ⊢; omega
theorem scs_at (l : List Sy) (i : Nat) (hi : i < l.length) : (scs l)[i * 2]? = some (.int .i64 l[i].1) ∧ (scs l)[i * 2 + 1]? = some (.int .i64 l[i].2) := by
  have e : l = l.take i ++ l[i] :: l.drop (i + 1) := by rw [List.getElem_cons_drop, List.take_append_drop]
  have hl : (scs (l.take i)).length = i * 2 := by rw [scs_len, List.length_take, Nat.min_eq_left (by omega)]
  have hc : ∀ j, j < 2 → (scs l)[i * 2 + j]? = ([.int .i64 l[i].1, .int .i64 l[i].2] : List Value)[j]? := fun j hj => by
    conv => lhs; rw [e]
    rw [scs_append, List.getElem?_append_right (by omega), hl, Nat.add_sub_cancel_left]
    show ([.int .i64 l[i].1, .int .i64 l[i].2] ++ scs (l.drop (i + 1)))[j]? = _
    rw [List.getElem?_append_left (by simp; omega)]
  exact ⟨hc 0 (by omega), hc 1 (by omega)⟩
theorem syms_of_own {w : World} {base : Nat} {v : Value} {l : List Sy} (h : w.ownsRow base 44 2 v l.length (scs l)) (hm : l.length ≤ 9223372036854775807) : Syms w v l := by
  obtain ⟨hl, ⟨h1, h2⟩ | ⟨g, cap, cur, hv, hg, hh, hn, hc, hs, ht⟩⟩ := h
  · exact ⟨none, 0, by rw [h1, h2], hm, Or.inl (List.length_eq_zero_iff.1 h2)⟩
  · refine ⟨some ⟨g, 0, none⟩, cap, hv, hm, Or.inr ⟨g, 0, rfl, ?_, fun i hi => ?_⟩⟩
    · rcases Nat.lt_or_ge g w.heap.size with h' | h'
      · exact h'
      · simp [Array.getElem?_eq_none h'] at hh
    · obtain ⟨f0, f1⟩ := scs_at l i hi
      have e : ∀ j, j < 2 → w.cell? ⟨g, 0 + i * 2 + j, none⟩ = (scs l)[i * 2 + j]? := fun j hj => by
        have e1 : w.cell? ⟨g, 0 + i * 2 + j, none⟩ = cur[i * 2 + j]? := by simp [World.cell?, hh]
        rw [e1, ← ht, List.getElem?_take_of_lt (by omega)]; simp
      exact ⟨(e 0 (by omega)).trans f0, (e 1 (by omega)).trans f1⟩
end Go.Proofs.Ytgoafahglajfmaa
