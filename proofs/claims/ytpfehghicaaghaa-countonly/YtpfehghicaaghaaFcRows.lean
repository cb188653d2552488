/-
  Rows of truth values and of sets in memory; what a call may change. No function is walked here.
-/
import Derived.Test.YtpfehghicaaghaaFcMath
import Derived.Test.YtpfehghicaaghaaTails
import Derived.Test.YtpfehghicaaghaaFree
import Derived.Test.YtpfehghicaaghaaCheck
import Derived.Laws.BitsAllLaws
import Derived.WalkLawsBesides
import Derived.WalkSpells
import Derived.Deep.OwnRows
import Derived.Deep.Cut
namespace Go.Proofs.Ytpfehghicaaghaa
open Go.RowKit
open Cg

theorem or64 (a b : Wd) : bits .or .u64 (a.toNat : Int) (b.toNat : Int) = ((a ||| b).toNat : Int) := by
  rw [u64_or_nat _ _ a.isLt b.isLt, BitVec.toNat_or]
theorem shl_one (m : Nat) (h : m < 64) : IntKind.u64.wrap ((2 : Int) ^ m) = ((1#64 <<< m).toNat : Int) := by
  have h2 : (2 : Nat) ^ m < 18446744073709551616 := Nat.pow_lt_pow_right (a := 2) (by omega) h
  have e : (1#64 <<< m).toNat = 2 ^ m := by
    rw [BitVec.toNat_shiftLeft, Nat.shiftLeft_eq]; simp; omega
  have hw : ∀ n : Int, IntKind.u64.wrap n = n % 18446744073709551616 := fun n => by simp [IntKind.wrap, IntKind.bits, IntKind.signed]
  rw [e, hw, show ((2 : Int) ^ m) = ((2 ^ m : Nat) : Int) by simp]
  omega
def Rb (w : World) (b n : Nat) (is : Nat → Bool) : Prop := w.rowIs b 4 n (fun i => .bool (is i))
def Rw (w : World) (b n : Nat) (F : Nat → Wd) : Prop := w.rowIs b 131 n (fun i => .int .u64 ((F i).toNat : Int))
theorem Rb.of {w w' : World} {b n : Nat} {is : Nat → Bool} (h : Rb w b n is) (e : w'.heap[b]? = w.heap[b]?) : Rb w' b n is := World.rowIs.of_block h e
theorem Rw.of {w w' : World} {b n : Nat} {F : Nat → Wd} (h : Rw w b n F) (e : w'.heap[b]? = w.heap[b]?) : Rw w' b n F := World.rowIs.of_block h e
theorem Rb.lt {w : World} {b n : Nat} {is : Nat → Bool} (h : Rb w b n is) : b < w.heap.size := World.rowIs.lt h
theorem Rw.lt {w : World} {b n : Nat} {F : Nat → Wd} (h : Rw w b n F) : b < w.heap.size := World.rowIs.lt h
theorem Rb.next {w w' : World} {b n : Nat} {is : Nat → Bool} (h : Rb w b n is) (hb : Below w.heap.size w w') : Rb w' b n is := h.of (hb.block b h.lt)
theorem Rw.next {w w' : World} {b n : Nat} {F : Nat → Wd} (h : Rw w b n F) (hb : Below w.heap.size w w') : Rw w' b n F := h.of (hb.block b h.lt)
theorem Rb.cell {w : World} {b n i : Nat} {is : Nat → Bool} (h : Rb w b n is) (hi : i < n) : w.cell? ⟨b, i, none⟩ = some (.bool (is i)) := World.rowIs.cell h hi
theorem Rw.cell {w : World} {b n i : Nat} {F : Nat → Wd} (h : Rw w b n F) (hi : i < n) : w.cell? ⟨b, i, none⟩ = some (.int .u64 ((F i).toNat : Int)) := World.rowIs.cell h hi
theorem Rb.set {w : World} {b n : Nat} {is : Nat → Bool} (h : Rb w b n is) (i : Nat) (v : Bool) : Rb (w.setCell ⟨b, i, none⟩ (.bool v)) b n (upd is i v) := by
  refine World.rowIs.congr (World.rowIs.set h i (.bool v)) fun j _ => ?_
  unfold upd; split <;> rfl
theorem Rw.set {w : World} {b n : Nat} {F : Nat → Wd} (h : Rw w b n F) (i : Nat) (v : Wd) : Rw (w.setCell ⟨b, i, none⟩ (.int .u64 (v.toNat : Int))) b n (upd F i v) := by
  refine World.rowIs.congr (World.rowIs.set h i (.int .u64 (v.toNat : Int))) fun j _ => ?_
  unfold upd; split <;> rfl
theorem Rb.congr {w : World} {b n : Nat} {is js : Nat → Bool} (h : Rb w b n is) (e : ∀ i, i < n → is i = js i) : Rb w b n js := World.rowIs.congr h fun i hi => by rw [e i hi]
/-- All blocks but those of X stay. -/
structure Fm (X : Nat → Prop) (W W' : World) : Prop where
  os : W'.os = W.os
  tape : W'.tape = W.tape
  output : W'.output = W.output
  size : W.heap.size ≤ W'.heap.size
  block : ∀ k, k < W.heap.size → ¬ X k → W'.heap[k]? = W.heap[k]?
theorem Fm.refl (X : Nat → Prop) (W : World) : Fm X W W := ⟨rfl, rfl, rfl, Nat.le_refl _, fun _ _ _ => rfl⟩
theorem Fm.trans {X Y : Nat → Prop} {W W' W'' : World} (h : Fm X W W') (k : Fm Y W' W'') (hy : ∀ q, q < W.heap.size → Y q → X q) : Fm X W W'' :=
  ⟨k.os.trans h.os, k.tape.trans h.tape, k.output.trans h.output, Nat.le_trans h.size k.size, fun q hq hx => (k.block q (Nat.lt_of_lt_of_le hq h.size) fun e => hx (hy q hq e)).trans (h.block q hq hx)⟩
theorem Fm.of {X : Nat → Prop} {W W' : World} (h : Below W.heap.size W W') : Fm X W W' := ⟨h.os, h.tape, h.output, h.size, fun k hk _ => h.block k hk⟩
theorem Fm.cell {X : Nat → Prop} {W W' : World} (h : Fm X W W') {p : Addr} (hp : p.block < W.heap.size) (hx : ¬ X p.block) : W'.cell? p = W.cell? p := World.cell?_of_block (w := W) (h.block _ hp hx)
theorem Fm.below {X : Nat → Prop} {W W' : World} (h : Fm X W W') {B : Nat} (hB : B ≤ W.heap.size) (hx : ∀ k, X k → B ≤ k) : Below B W W' :=
  ⟨h.os, h.tape, h.output, h.size, fun k hk => h.block k (by omega) fun e => by have := hx k e; omega⟩
theorem Fm.set {X : Nat → Prop} {W : World} {b i : Nat} (v : Value) (hx : X b) : Fm X W (W.setCell ⟨b, i, none⟩ v) :=
  ⟨rfl, rfl, rfl, by simp, fun k _ hk => Go.Deep.blk_setCell_other _ _ _ _ fun e => hk (by rw [e]; exact hx)⟩
theorem Fm.mono {X Y : Nat → Prop} {W W' : World} (h : Fm X W W') (hy : ∀ q, X q → Y q) : Fm Y W W' := ⟨h.os, h.tape, h.output, h.size, fun k hk hx => h.block k hk fun e => hx (hy k e)⟩
/-- The symbols are right. -/
def OkL (t : Int) (n : Nat) (l : List Sy) : Prop := ∀ s ∈ l, (s.1 = 1 ∧ 0 ≤ s.2 ∧ s.2 < t) ∨ (s.1 = 2 ∧ 0 ≤ s.2 ∧ s.2 < (n : Int))
theorem okL_of {t : Int} {n : Nat} {l : List Sy} (h : l.all (okSy t n) = true) : OkL t n l := fun s hs => by
  have h1 := List.all_eq_true.1 h s hs
  unfold okSy at h1
  split at h1
  · rename_i e; have := okN_le h1; exact Or.inl ⟨e, this⟩
  · split at h1
    · rename_i e; have := okN_le h1; exact Or.inr ⟨e, this⟩
    · cases h1
theorem OkL.drop {t : Int} {n : Nat} {l : List Sy} (h : OkL t n l) (k : Nat) : OkL t n (l.drop k) := fun s hs => h s (List.mem_of_mem_drop hs)
/-- A symbol's form: a kind, and a Nat. -/
theorem OkL.at {t : Int} {n : Nat} {l : List Sy} (h : OkL t n l) {q : Nat} (hq : q < l.length) : ∃ (kd : Int) (m : Nat), l[q].1 = kd ∧ l[q].2 = (m : Int) ∧ l[q].2.toNat = m ∧ ((kd = 1 ∧ (m : Int) < t) ∨ (kd = 2 ∧ m < n)) := by
  rcases h l[q] (List.getElem_mem hq) with ⟨h1, h2, h3⟩ | ⟨h1, h2, h3⟩
  · exact ⟨1, l[q].2.toNat, h1, by omega, rfl, Or.inl ⟨rfl, by omega⟩⟩
  · exact ⟨2, l[q].2.toNat, h1, by omega, rfl, Or.inr ⟨rfl, by omega⟩⟩
theorem info4 : (Try.prog.info? 4).map (fun i => (i.zero, i.size, i.bytes)) = some (some (.bool false), 1, 1) := by kernel_rfl
theorem info131 : (Try.prog.info? 131).map (fun i => (i.zero, i.size, i.bytes)) = some (some (.int .u64 0), 1, 8) := by kernel_rfl
theorem exists_least {P : Nat → Prop} (h : ∃ n, P n) : ∃ n, P n ∧ ∀ m, P m → n ≤ m := by
  obtain ⟨n, hn⟩ := h
  induction n using Nat.strongRecOn with
  | _ n ih =>
    by_cases h : ∃ m, m < n ∧ P m
    · obtain ⟨m, h1, h2⟩ := h
      exact ih m h1 h2
    · exact ⟨n, hn, fun m hm => Nat.le_of_not_lt fun hl => h ⟨m, hl, hm⟩⟩
open Classical in
/-- The least number of which it holds, for a loop whose measure is not read off the world. -/
noncomputable def leastOf (P : Nat → Prop) : Nat := if h : ∃ n, P n then Classical.choose (exists_least h) else 0
theorem leastOf_holds {P : Nat → Prop} (h : ∃ n, P n) : P (leastOf P) := by
  unfold leastOf; rw [dif_pos h]; exact (Classical.choose_spec (exists_least h)).1
theorem leastOf_le {P : Nat → Prop} {n : Nat} (h : P n) : leastOf P ≤ n := by
  have h' : ∃ n, P n := ⟨n, h⟩
  unfold leastOf; rw [dif_pos h']; exact (Classical.choose_spec (exists_least h')).2 n h
end Go.Proofs.Ytpfehghicaaghaa
