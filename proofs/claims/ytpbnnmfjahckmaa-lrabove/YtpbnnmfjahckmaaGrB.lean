/-
  Rows of truth values and of sets in memory; what a call may change. No function is walked here. Items in memory; items that are handed in: which are right. No function is walked here. The contracts of facts.allMade, facts.begin and facts.widen. The contract of facts.settle, whatever closure is handed to it. The contracts of the closure of facts.made and of facts.made. A region that draws its order, whose first operations only read (their callees leave what is held of the world) and lead on to the last ones, which come one behind the other: one walk in the order of the text serves. No function is walked here. The contracts of the closure of facts.beginnings and of facts.beginnings.
-/
import Derived.Test.YtpbnnmfjahckmaaGrA
import Derived.Laws.BitsAllLaws
import Derived.WalkLawsBesides
import Derived.WalkSpells
import Derived.Deep.OwnRows
import Derived.Deep.Cut
import Derived.Lib.OwnKind
import Derived.Shelf.Abstract
namespace Go.Proofs.Ytpbnnmfjahckmaa
open Go.RowKit
open Cg

theorem or64 (a b : Wd) : bits .or .u64 (a.toNat : Int) (b.toNat : Int) = ((a ||| b).toNat : Int) := by
  rw [u64_or_nat _ _ a.isLt b.isLt, BitVec.toNat_or]
theorem shl_one (m : Nat) (h : m < 64) : IntKind.u64.wrap ((2 : Int) ^ m) = ((1#64 <<< m).toNat : Int) := by
  have h2 : (2 : Nat) ^ m < 18446744073709551616 := Nat.pow_lt_pow_right (a := 2) (by omega) h
  have e : (1#64 <<< m).toNat = 2 ^ m := by
    rw [BitVec.toNat_shiftLeft, Nat.shiftLeft_eq]; simp; omega
  have hw : ∀ n : Int, IntKind.u64.wrap n = n % 18446744073709551616 := fun n => by simp [IntKind.wrap, IntKind.bits, IntKind.signed]
  rw [e, hw, show ((2 : Int) ^ m) = ((2 ^ m : Nat) : Int) by simp]
  omega
def Rb (w : World) (b n : Nat) (is : Nat → Bool) : Prop := w.rowIs b 4 n (fun i => .bool (is i))
def Rw (w : World) (b n : Nat) (F : Nat → Wd) : Prop := w.rowIs b 130 n (fun i => .int .u64 ((F i).toNat : Int))
theorem Rb.of {w w' : World} {b n : Nat} {is : Nat → Bool} (h : Rb w b n is) (e : w'.heap[b]? = w.heap[b]?) : Rb w' b n is := World.rowIs.of_block h e
theorem Rw.of {w w' : World} {b n : Nat} {F : Nat → Wd} (h : Rw w b n F) (e : w'.heap[b]? = w.heap[b]?) : Rw w' b n F := World.rowIs.of_block h e
theorem Rb.lt {w : World} {b n : Nat} {is : Nat → Bool} (h : Rb w b n is) : b < w.heap.size := World.rowIs.lt h
theorem Rw.lt {w : World} {b n : Nat} {F : Nat → Wd} (h : Rw w b n F) : b < w.heap.size := World.rowIs.lt h
theorem Rb.next {w w' : World} {b n : Nat} {is : Nat → Bool} (h : Rb w b n is) (hb : Below w.heap.size w w') : Rb w' b n is := h.of (hb.block b h.lt)
theorem Rw.next {w w' : World} {b n : Nat} {F : Nat → Wd} (h : Rw w b n F) (hb : Below w.heap.size w w') : Rw w' b n F := h.of (hb.block b h.lt)
theorem Rb.cell {w : World} {b n i : Nat} {is : Nat → Bool} (h : Rb w b n is) (hi : i < n) : w.cell? ⟨b, i, none⟩ = some (.bool (is i)) := World.rowIs.cell h hi
theorem Rw.cell {w : World} {b n i : Nat} {F : Nat → Wd} (h : Rw w b n F) (hi : i < n) : w.cell? ⟨b, i, none⟩ = some (.int .u64 ((F i).toNat : Int)) := World.rowIs.cell h hi
theorem Rb.set {w : World} {b n : Nat} {is : Nat → Bool} (h : Rb w b n is) (i : Nat) (v : Bool) : Rb (w.setCell ⟨b, i, none⟩ (.bool v)) b n (upd is i v) := by
  refine World.rowIs.congr (World.rowIs.set h i (.bool v)) fun j _ => ?_
  unfold upd; split <;> rfl
theorem Rw.set {w : World} {b n : Nat} {F : Nat → Wd} (h : Rw w b n F) (i : Nat) (v : Wd) : Rw (w.setCell ⟨b, i, none⟩ (.int .u64 (v.toNat : Int))) b n (upd F i v) := by
  refine World.rowIs.congr (World.rowIs.set h i (.int .u64 (v.toNat : Int))) fun j _ => ?_
  unfold upd; split <;> rfl
theorem Rb.congr {w : World} {b n : Nat} {is js : Nat → Bool} (h : Rb w b n is) (e : ∀ i, i < n → is i = js i) : Rb w b n js := World.rowIs.congr h fun i hi => by rw [e i hi]
/-- All blocks but those of X stay. -/
structure Fm (X : Nat → Prop) (W W' : World) : Prop where
  os : W'.os = W.os
  tape : W'.tape = W.tape
  output : W'.output = W.output
  size : W.heap.size ≤ W'.heap.size
  block : ∀ k, k < W.heap.size → ¬ X k → W'.heap[k]? = W.heap[k]?
theorem Fm.refl (X : Nat → Prop) (W : World) : Fm X W W := ⟨rfl, rfl, rfl, Nat.le_refl _, fun _ _ _ => rfl⟩
theorem Fm.trans {X Y : Nat → Prop} {W W' W'' : World} (h : Fm X W W') (k : Fm Y W' W'') (hy : ∀ q, q < W.heap.size → Y q → X q) : Fm X W W'' :=
  ⟨k.os.trans h.os, k.tape.trans h.tape, k.output.trans h.output, Nat.le_trans h.size k.size, fun q hq hx => (k.block q (Nat.lt_of_lt_of_le hq h.size) fun e => hx (hy q hq e)).trans (h.block q hq hx)⟩
theorem Fm.of {X : Nat → Prop} {W W' : World} (h : Below W.heap.size W W') : Fm X W W' := ⟨h.os, h.tape, h.output, h.size, fun k hk _ => h.block k hk⟩
theorem Fm.cell {X : Nat → Prop} {W W' : World} (h : Fm X W W') {p : Addr} (hp : p.block < W.heap.size) (hx : ¬ X p.block) : W'.cell? p = W.cell? p := World.cell?_of_block (w := W) (h.block _ hp hx)
theorem Fm.below {X : Nat → Prop} {W W' : World} (h : Fm X W W') {B : Nat} (hB : B ≤ W.heap.size) (hx : ∀ k, X k → B ≤ k) : Below B W W' :=
  ⟨h.os, h.tape, h.output, h.size, fun k hk => h.block k (by omega) fun e => by have := hx k e; omega⟩
theorem Fm.set {X : Nat → Prop} {W : World} {b i : Nat} (v : Value) (hx : X b) : Fm X W (W.setCell ⟨b, i, none⟩ v) :=
  ⟨rfl, rfl, rfl, by simp, fun k _ hk => Go.Deep.blk_setCell_other _ _ _ _ fun e => hk (by rw [e]; exact hx)⟩
theorem Fm.mono {X Y : Nat → Prop} {W W' : World} (h : Fm X W W') (hy : ∀ q, X q → Y q) : Fm Y W W' := ⟨h.os, h.tape, h.output, h.size, fun k hk hx => h.block k hk fun e => hx (hy k e)⟩
/-- The symbols are right. -/
def OkL (t : Int) (n : Nat) (l : List Sy) : Prop := ∀ s ∈ l, (s.1 = 1 ∧ 0 ≤ s.2 ∧ s.2 < t) ∨ (s.1 = 2 ∧ 0 ≤ s.2 ∧ s.2 < (n : Int))
theorem okL_of {t : Int} {n : Nat} {l : List Sy} (h : l.all (okSy t n) = true) : OkL t n l := fun s hs => by
  have h1 := List.all_eq_true.1 h s hs
  unfold okSy at h1
  split at h1
  · rename_i e; have := okN_le h1; exact Or.inl ⟨e, this⟩
  · split at h1
    · rename_i e; have := okN_le h1; exact Or.inr ⟨e, this⟩
    · cases h1
theorem OkL.drop {t : Int} {n : Nat} {l : List Sy} (h : OkL t n l) (k : Nat) : OkL t n (l.drop k) := fun s hs => h s (List.mem_of_mem_drop hs)
/-- A symbol's form: a kind, and a Nat. -/
theorem OkL.at {t : Int} {n : Nat} {l : List Sy} (h : OkL t n l) {q : Nat} (hq : q < l.length) : ∃ (kd : Int) (m : Nat), l[q].1 = kd ∧ l[q].2 = (m : Int) ∧ l[q].2.toNat = m ∧ ((kd = 1 ∧ (m : Int) < t) ∨ (kd = 2 ∧ m < n)) := by
  rcases h l[q] (List.getElem_mem hq) with ⟨h1, h2, h3⟩ | ⟨h1, h2, h3⟩
  · exact ⟨1, l[q].2.toNat, h1, by omega, rfl, Or.inl ⟨rfl, by omega⟩⟩
  · exact ⟨2, l[q].2.toNat, h1, by omega, rfl, Or.inr ⟨rfl, by omega⟩⟩
theorem info4 : (Try.prog.info? 4).map (fun i => (i.zero, i.size, i.bytes)) = some (some (.bool false), 1, 1) := by kernel_rfl
theorem info130 : (Try.prog.info? 130).map (fun i => (i.zero, i.size, i.bytes)) = some (some (.int .u64 0), 1, 8) := by kernel_rfl
theorem exists_least {P : Nat → Prop} (h : ∃ n, P n) : ∃ n, P n ∧ ∀ m, P m → n ≤ m := by
  obtain ⟨n, hn⟩ := h
  induction n using Nat.strongRecOn with
  | _ n ih =>
    by_cases h : ∃ m, m < n ∧ P m
    · obtain ⟨m, h1, h2⟩ := h
      exact ih m h1 h2
    · exact ⟨n, hn, fun m hm => Nat.le_of_not_lt fun hl => h ⟨m, hl, hm⟩⟩
open Classical in
/-- The least number of which it holds, for a loop whose measure is not read off the world. -/
noncomputable def leastOf (P : Nat → Prop) : Nat := if h : ∃ n, P n then Classical.choose (exists_least h) else 0
theorem leastOf_holds {P : Nat → Prop} (h : ∃ n, P n) : P (leastOf P) := by
  unfold leastOf; rw [dif_pos h]; exact (Classical.choose_spec (exists_least h)).1
theorem leastOf_le {P : Nat → Prop} {n : Nat} (h : P n) : leastOf P ≤ n := by
  have h' : ∃ n, P n := ⟨n, h⟩
  unfold leastOf; rw [dif_pos h']; exact (Classical.choose_spec (exists_least h')).2 n h
end Go.Proofs.Ytpbnnmfjahckmaa

namespace Go.Proofs.Ytpbnnmfjahckmaa
open Go.ChangeShapes Go.WideShapes Go.ChangeAt Go.RowKit
open Cg

theorem kcells145 : Try.prog.cellsOf 145 = 3 := by kernel_rfl
theorem info145 : (Try.prog.info? 145).map (fun i => (i.zero, i.size, i.bytes)) = some (some (.agg #[.int .i64 0, .int .i64 0, .int .i64 0]), 3, 24) := by kernel_rfl
abbrev Z3 := Int × Int × Int
def up (x : It) : Z3 := ((x.1 : Int), (x.2.1 : Int), (x.2.2 : Int))
/-- A value is a slice that holds these items, be they right or not. -/
def Itz (w : World) (v : Value) (l : List Z3) : Prop :=
  ∃ ao cap, v = .slice ao l.length cap ∧ (l.length ≤ 9223372036854775807 ∧ l.length ≤ cap) ∧ (l = [] ∨ ∃ b o, ao = some ⟨b, o, none⟩ ∧ b < w.heap.size ∧ ∀ i (hi : i < l.length), w.cell? ⟨b, o + i * 3, none⟩ = some (.int .i64 l[i].1) ∧ w.cell? ⟨b, o + i * 3 + 1, none⟩ = some (.int .i64 l[i].2.1) ∧ w.cell? ⟨b, o + i * 3 + 2, none⟩ = some (.int .i64 l[i].2.2))
theorem Itz.below {w w' : World} {v : Value} {l : List Z3} (h : Itz w v l) (hb : Below w.heap.size w w') : Itz w' v l := by
  obtain ⟨ao, cap, hv, hm, h | ⟨b, o, h1, h2, h3⟩⟩ := h
  · exact ⟨ao, cap, hv, hm, Or.inl h⟩
  · refine ⟨ao, cap, hv, hm, Or.inr ⟨b, o, h1, Nat.lt_of_lt_of_le h2 hb.size, fun i hi => ?_⟩⟩
    obtain ⟨g0, g1, g2⟩ := h3 i hi
    exact ⟨(hb.cell (p := ⟨b, o + i * 3, none⟩) h2).trans g0, (hb.cell (p := ⟨b, o + i * 3 + 1, none⟩) h2).trans g1, (hb.cell (p := ⟨b, o + i * 3 + 2, none⟩) h2).trans g2⟩
/-- .. these right ones. -/
def Its (w : World) (v : Value) (l : List It) : Prop := Itz w v (l.map up)
theorem Its.below {w w' : World} {v : Value} {l : List It} (h : Its w v l) (hb : Below w.heap.size w w') : Its w' v l := Itz.below h hb
/-- The cells of items. -/
def ics : List It → List Value
  | [] => []
  | x :: l => .int .i64 (x.1 : Int) :: .int .i64 (x.2.1 : Int) :: .int .i64 (x.2.2 : Int) :: ics l
theorem ics_app (l m : List It) : ics (l ++ m) = ics l ++ ics m := by
  induction l with
  | nil => rfl
  | cons c l ih => simp [ics, ih]
theorem ics_length (l : List It) : (ics l).length = l.length * 3 := by
  induction l with
  | nil => rfl
  | cons c l ih => simp [ics, ih]; omega
theorem ics_at (l : List It) (i : Nat) (hi : i < l.length) : (ics l)[i * 3]? = some (.int .i64 (l[i].1 : Int)) ∧ (ics l)[i * 3 + 1]? = some (.int .i64 (l[i].2.1 : Int)) ∧ (ics l)[i * 3 + 2]? = some (.int .i64 (l[i].2.2 : Int)) := by
  induction l generalizing i with
  | nil => simp at hi
  | cons c l ih =>
    cases i with
    | zero => exact ⟨rfl, rfl, rfl⟩
    | succ i =>
      obtain ⟨h0, h1, h2⟩ := ih i (by simpa using hi)
      have e : ∀ j, (ics (c :: l))[(i + 1) * 3 + j]? = (ics l)[i * 3 + j]? := fun j => by
        rw [show (i + 1) * 3 + j = i * 3 + j + 1 + 1 + 1 by omega]; rfl
      exact ⟨(e 0).trans h0, (e 1).trans h1, (e 2).trans h2⟩
theorem its_of_own {w : World} {base : Nat} {v : Value} {l : List It} (h : w.ownsRow base 145 3 v l.length (ics l)) (hm : l.length ≤ 9223372036854775807) : Its w v l := by
  obtain ⟨hl, ⟨h1, h2⟩ | ⟨g, cap, cur, hv, hg, hh, hn, hc, hs, ht⟩⟩ := h
  · have e : l = [] := List.length_eq_zero_iff.1 h2
    subst e
    exact ⟨none, 0, h1, by simp, Or.inl rfl⟩
  · refine ⟨some ⟨g, 0, none⟩, cap, by rw [hv]; simp, by simp; omega, Or.inr ⟨g, 0, rfl, ?_, fun i hi => ?_⟩⟩
    · rcases Nat.lt_or_ge g w.heap.size with h' | h'
      · exact h'
      · simp [Array.getElem?_eq_none h'] at hh
    · have hi' : i < l.length := by simpa using hi
      obtain ⟨f0, f1, f2⟩ := ics_at l i hi'
      have e : ∀ j, j < 3 → w.cell? ⟨g, 0 + i * 3 + j, none⟩ = (ics l)[i * 3 + j]? := fun j hj => by
        have e1 : w.cell? ⟨g, 0 + i * 3 + j, none⟩ = cur[i * 3 + j]? := by simp [World.cell?, hh]
        rw [e1, ← ht, List.getElem?_take_of_lt (by omega)]; simp
      rw [List.getElem_map]
      exact ⟨(e 0 (by omega)).trans f0, (e 1 (by omega)).trans f1, (e 2 (by omega)).trans f2⟩
/-! Which are right. -/
variable {H : Type} {enc : TypeId × Value → H}
end Go.Proofs.Ytpbnnmfjahckmaa

namespace Go.Proofs.Ytpbnnmfjahckmaa
open Go.RowKit
open Cg

set_option maxHeartbeats 3200000 in
set_option maxRecDepth 20000 in
theorem allMade_any (t : Int) (n b : Nat) (is : Nat → Bool) (terms : Bool) (v : Value) (l : List Sy) (w : World) (hv : Syms w v l) (hr : Rb w b n is) (ok : OkL t n l) :
    Calls Try.prog 63 #[v, .slice (some ⟨b, 0, none⟩) n n, .bool terms] w fun e w' => e = .returned (.bool (amk is terms l)) ∧ Below w.heap.size w w' := by
  obtain ⟨bo, bc, rfl, hm, hcs⟩ := hv
  obtain ⟨r, HR⟩ : ∃ r, Hid (amk is terms l = r) := ⟨_, (rfl : amk is terms l = amk is terms l)⟩
  rw [HR.out]
  have HRB : Hid (Rb w b n is) := hr
  have HOK : Hid (OkL t n l) := ok
  clear hr ok
  go_enter Try.func63, Try.ntmps63
  go_wp2_with fail
  go_loopw [11] (fun i wr => ∃ q : Nat, q ≤ l.length ∧ i = .int .i64 (q : Int) ∧ Hid (amk is terms (l.take q) = true) ∧ Below w.heap.size w wr) (fun i _ => l.length - (intOf i).toNat)
  case atStart => exact ⟨0, by omega, rfl, rfl, Below.refl _ _⟩
  case round =>
    obtain ⟨q, hq, rfl, HA, hbel⟩ := hrel
    by_cases hlt : q < l.length
    · obtain ⟨b2, o, rfl, hb, hc⟩ := hcs.resolve_left (by intro e; subst e; simp at hlt)
      obtain ⟨c0, c1⟩ := hc q hlt
      have HS : Hid (amk is terms (l.take (q + 1)) = mks is terms l[q]) := by
        show _ = _
        have := HA.out
        unfold amk at *
        rw [List.take_succ_eq_append_getElem hlt, List.all_append, this]; simp
      have HF : Hid (mks is terms l[q] = false → amk is terms l = false) := fun e => by
        unfold amk; rw [List.all_eq_false]; exact ⟨l[q], List.getElem_mem hlt, by simpa using e⟩
      obtain ⟨kd, m, e1, e2, e3, hk⟩ := HOK.out.at hlt
      rw [e1] at c0
      rw [e2] at c1
      have HM : Hid (mks is terms l[q] = !((kd == 1 && !terms) || (kd == 2 && !is m))) := by show _ = _; unfold mks; rw [e1, e3]
      clear e1 e2 e3 hc hcs
      generalize mks is terms l[q] = mm at HS HF HM
      replace c0 : wr.cell? ⟨b2, o + q * 2, none⟩ = _ := (hbel.cell (p := ⟨b2, o + q * 2, none⟩) hb).trans c0
      replace c1 : wr.cell? ⟨b2, o + q * 2 + 1, none⟩ = _ := (hbel.cell (p := ⟨b2, o + q * 2 + 1, none⟩) hb).trans c1
      have HB1 : Hid (Below w.heap.size w (wr.alloc (Obj.cells #[.int .i64 kd, .int .i64 (m : Int)] 80))) := hbel.alloc hbel.size _
      have HRW : Hid (Rb wr b n is) := HRB.out.next hbel
      have hk1 : (q : Int) < (l.length : Int) := by omega
      clear hbel
      rcases hk with ⟨rfl, hk⟩ | ⟨rfl, hk⟩
      · cases terms with
        | true =>
          obtain rfl : mm = true := by rw [HM.out]; rfl
          go_wp2_with fail
          go_roundw
          case rel => exact ⟨q + 1, by omega, by go_num, HS.out, HB1.out⟩
          case measure => simp [intOf]; omega
        | false =>
          obtain rfl : mm = false := by rw [HM.out]; rfl
          obtain rfl : r = false := by rw [← HR.out, HF.out rfl]
          go_wp2_with fail
          go_ret
          exact ⟨by simp, HB1.out⟩
      · have d0 : (wr.alloc (Obj.cells #[.int .i64 2, .int .i64 (m : Int)] 80)).cell? ⟨b, m, none⟩ = some (.bool (is m)) := (HRW.out.next (below_alloc _ _)).cell hk
        have hk2 : (m : Int) < (n : Int) := by omega
        generalize is m = im at HM d0
        cases im with
        | true =>
          obtain rfl : mm = true := by rw [HM.out]; rfl
          go_wp2_with fail
          go_roundw
          case rel => exact ⟨q + 1, by omega, by go_num, HS.out, HB1.out⟩
          case measure => simp [intOf]; omega
        | false =>
          obtain rfl : mm = false := by rw [HM.out]; rfl
          obtain rfl : r = false := by rw [← HR.out, HF.out rfl]
          go_wp2_with fail
          go_ret
          exact ⟨by simp, HB1.out⟩
    · obtain rfl : r = true := by rw [← HR.out, ← HA.out, List.take_of_length_le (by omega)]
      go_wp2_with fail
      go_ret
      exact ⟨by simp, hbel⟩

set_option maxHeartbeats 3200000 in
set_option maxRecDepth 20000 in
theorem widen_any (n b : Nat) (F : Nat → Wd) (m : Nat) (x : Wd) (w : World) (hr : Rw w b n F) (hm : m < n) :
    Calls Try.prog 64 #[.slice (some ⟨b, 0, none⟩) n n, .int .i64 (m : Int), .int .u64 (x.toNat : Int)] w fun e w' => e = .returned (.bool (F m ||| x != F m)) ∧ w' = w.setCell ⟨b, m, none⟩ (.int .u64 ((F m ||| x).toNat : Int)) := by
  have c0 := hr.cell hm
  have c1 := World.rowIs.frozen hr m
  have d0 := (hr.set m (F m ||| x)).cell hm
  rw [upd_at] at d0
  have hl := hr.lt
  have hm2 : (m : Int) < (n : Int) := by omega
  have ho := or64 (F m) x
  have HE : Hid ((F m ||| x != F m) = (((F m ||| x).toNat : Int) != ((F m).toNat : Int))) := by
    show _ = _
    by_cases e : F m ||| x = F m
    · rw [e]; simp
    · have : (F m ||| x).toNat ≠ (F m).toNat := fun h => e (BitVec.eq_of_toNat_eq h)
      have h2 : (((F m ||| x).toNat : Int) != ((F m).toNat : Int)) = true := bne_iff_ne.2 fun h => this (Int.ofNat.inj h)
      rw [h2]; simpa using e
  rw [HE.out]
  clear hr HE
  generalize (F m ||| x).toNat = y at ho d0 ⊢
  generalize (F m).toNat = z at ho c0 d0 ⊢
  generalize x.toNat = u at ho d0 ⊢
  go_enter Try.func64, Try.ntmps64
  go_wp2_with fail
  go_ret
  exact ⟨by simp, rfl⟩

set_option maxHeartbeats 3200000 in
set_option maxRecDepth 20000 in
theorem begin_any (t : Int) (n be bf : Nat) (E : Nat → Bool) (F : Nat → Wd) (v2 v3 v4 : Value) (v : Value) (l : List Sy) (x : Wd) (w : World) (hv : Syms w v l) (he : Rb w be n E) (hf : Rw w bf n F) (ok : OkL t n l) (ht : t ≤ 30) :
    Calls Try.prog 65 #[.agg #[.slice (some ⟨be, 0, none⟩) n n, .slice (some ⟨bf, 0, none⟩) n n, v2, v3, v4], v, .int .u64 (x.toNat : Int)] w fun e w' => e = .returned (.int .u64 ((bg E F l x).toNat : Int)) ∧ Below w.heap.size w w' := by
  obtain ⟨bo, bc, rfl, hm, hcs⟩ := hv
  obtain ⟨r, HR⟩ : ∃ r, Hid (bg E F l x = r) := ⟨_, (rfl : bg E F l x = bg E F l x)⟩
  rw [HR.out]
  obtain ⟨wb, HWB⟩ : ∃ wb, Hid (w.alloc (Obj.cells #[.slice (some ⟨be, 0, none⟩) n n, .slice (some ⟨bf, 0, none⟩) n n, v2, v3, v4] 52) = wb) := ⟨_, (rfl : _ = _)⟩
  have g0 := cell_new w #[.slice (some ⟨be, 0, none⟩) n n, .slice (some ⟨bf, 0, none⟩) n n, v2, v3, v4] 52
  have hb0 := below_alloc w (Obj.cells #[.slice (some ⟨be, 0, none⟩) n n, .slice (some ⟨bf, 0, none⟩) n n, v2, v3, v4] 52)
  rw [HWB.out] at g0 hb0
  have HRE : Hid (Rb wb be n E) := he.next hb0
  have HRF : Hid (Rw wb bf n F) := hf.next hb0
  have HOK : Hid (OkL t n l) := ok
  have HSZ : Hid (w.heap.size < wb.heap.size) := by show _ < _; rw [← HWB.out]; simp
  have y0 : wb.cell? ⟨w.heap.size, 0, none⟩ = some (.slice (some ⟨be, 0, none⟩) n n) := g0 0
  have y1 : wb.cell? ⟨w.heap.size, 1, none⟩ = some (.slice (some ⟨bf, 0, none⟩) n n) := g0 1
  have HBB : Hid (Below w.heap.size w wb) := hb0
  have HBX : Hid (∀ w', Below wb.heap.size wb w' → Below w.heap.size w w') := fun w' h => hb0.trans (h.mono hb0.size)
  clear he hf ok g0 hb0
  go_enter Try.func65, Try.ntmps65
  go_wp2_with fail
  rw [HWB.out]
  clear HWB
  obtain ⟨g, HG⟩ : ∃ g, Hid (w.heap.size = g) := ⟨_, (rfl : w.heap.size = w.heap.size)⟩
  rw [HG.out] at y0 y1 HSZ HBB ⊢
  go_loopw [7, 12] (fun a i wr => ∃ (q : Nat) (z : Wd), q ≤ l.length ∧ i = .int .i64 (q : Int) ∧ a = .int .u64 (z.toNat : Int) ∧ Hid (z ||| bg E F (l.drop q) x = r) ∧ Below wb.heap.size wb wr) (fun _ i _ => l.length - (intOf i).toNat)
  case atStart => exact ⟨0, 0#64, by omega, rfl, rfl, by show _ = _; rw [List.drop_zero, HR.out]; simp, Below.refl _ _⟩
  case round =>
    obtain ⟨q, z, hq, rfl, rfl, HA, hbel⟩ := hrel
    by_cases hlt : q < l.length
    · obtain ⟨b2, o, rfl, hb, hc⟩ := hcs.resolve_left (by intro e; subst e; simp at hlt)
      obtain ⟨c0, c1⟩ := hc q hlt
      obtain ⟨kd, m, e1, e2, e3, hk⟩ := HOK.out.at hlt
      have HS : Hid (bg E F (l.drop q) x = if kd = 1 then 1#64 <<< m else F m ||| (if E m = true then bg E F (l.drop (q + 1)) x else 0#64)) := by
        show _ = _
        rw [← List.getElem_cons_drop hlt]
        conv => lhs; unfold bg
        rw [e1, e3]
      rw [e1] at c0
      rw [e2] at c1
      clear e1 e2 e3 hc hcs
      have hbw : Below g w wr := HBB.out.trans (hbel.mono (Nat.le_of_lt HSZ.out))
      replace hb : b2 < g := by rw [← HG.out]; exact hb
      replace c0 : wr.cell? ⟨b2, o + q * 2, none⟩ = _ := (hbw.cell (p := ⟨b2, o + q * 2, none⟩) hb).trans c0
      replace c1 : wr.cell? ⟨b2, o + q * 2 + 1, none⟩ = _ := (hbw.cell (p := ⟨b2, o + q * 2 + 1, none⟩) hb).trans c1
      have hbA : Below wb.heap.size wb (wr.alloc (Obj.cells #[.int .i64 kd, .int .i64 (m : Int)] 80)) := hbel.alloc hbel.size _
      have z0 : (wr.alloc (Obj.cells #[.int .i64 kd, .int .i64 (m : Int)] 80)).cell? ⟨g, 0, none⟩ = _ := (hbA.cell (p := ⟨g, 0, none⟩) HSZ.out).trans y0
      have z1 : (wr.alloc (Obj.cells #[.int .i64 kd, .int .i64 (m : Int)] 80)).cell? ⟨g, 1, none⟩ = _ := (hbA.cell (p := ⟨g, 1, none⟩) HSZ.out).trans y1
      have HB1 : Hid (Below wb.heap.size wb (wr.alloc (Obj.cells #[.int .i64 kd, .int .i64 (m : Int)] 80))) := hbA
      have HE1 : Hid (Rb (wr.alloc (Obj.cells #[.int .i64 kd, .int .i64 (m : Int)] 80)) be n E) := HRE.out.next hbA
      have HF1 : Hid (Rw (wr.alloc (Obj.cells #[.int .i64 kd, .int .i64 (m : Int)] 80)) bf n F) := HRF.out.next hbA
      have hk1 : (q : Int) < (l.length : Int) := by omega
      clear hbel hbw hbA y0 y1
      rcases hk with ⟨rfl, hk⟩ | ⟨rfl, hk⟩
      · have hm64 : m < 64 := by omega
        have hs := shl_one m hm64
        rw [if_pos rfl] at HS
        generalize 1#64 <<< m = sv at HS hs
        obtain rfl : r = z ||| sv := by rw [← HA.out, HS.out]
        have ho := or64 z sv
        obtain ⟨zz, HZ⟩ : ∃ zz, Hid (z ||| sv = zz) := ⟨_, (rfl : z ||| sv = z ||| sv)⟩
        rw [HZ.out] at ho ⊢
        go_wp2_with fail
        go_ret
        exact ⟨by rw [← HZ.out]; simp, HBX.out _ HB1.out⟩
      · have HS2 : Hid (z ||| (F m ||| (if E m = true then bg E F (l.drop (q + 1)) x else 0#64)) = r) := by show _ = _; rw [← HA.out, HS.out, if_neg (by omega : ¬ ((2 : Int) = 1))]
        have d0 := HE1.out.cell hk
        have d1 := HF1.out.cell hk
        have hk2 : (m : Int) < (n : Int) := by omega
        have ho := or64 z (F m)
        generalize E m = im at HS2 d0
        generalize F m = fm at HS2 d1 ho
        obtain ⟨zz, HZ⟩ : ∃ zz, Hid (z ||| fm = zz) := ⟨_, (rfl : z ||| fm = z ||| fm)⟩
        rw [HZ.out] at ho
        cases im with
        | true =>
          go_wp2_with fail
          go_roundw
          case rel => exact ⟨q + 1, zz, by omega, by go_num, rfl, by show _ = _; rw [← HZ.out, ← HS2.out, if_pos rfl, BitVec.or_assoc], HB1.out⟩
          case measure => simp [intOf]; omega
        | false =>
          obtain rfl : r = zz := by rw [← HS2.out, if_neg (by decide), ← HZ.out]; simp
          go_wp2_with fail
          go_ret
          exact ⟨by simp, HBX.out _ HB1.out⟩
    · obtain rfl : r = z ||| x := by rw [← HA.out, List.drop_of_length_le (by omega)]; rfl
      have ho := or64 z x
      obtain ⟨zz, HZ⟩ : ∃ zz, Hid (z ||| x = zz) := ⟨_, (rfl : z ||| x = z ||| x)⟩
      rw [HZ.out] at ho ⊢
      have HB1 : Hid (Below wb.heap.size wb wr) := hbel
      clear hbel
      go_wp2_with fail
      go_ret
      exact ⟨by rw [← HZ.out]; simp, HBX.out _ HB1.out⟩
end Go.Proofs.Ytpbnnmfjahckmaa

namespace Go.Proofs.Ytpbnnmfjahckmaa
open Go.RowKit
open Cg

def SG {σ : Type} (I : σ → World → Prop) (X : Nat → Prop) (μ : σ → Nat) (Cl : Pd → σ → Prop) (ps : List Pd) (wb : World) (mv : Value) (wr : World) (m : Nat) : Prop :=
  ∃ (b : Bool) (s : σ), mv = .bool b ∧ I s wr ∧ Fm X wb wr ∧ (b = false → ∀ p ∈ ps, Cl p s) ∧ m = 2 * μ s + (if b = true then 1 else 0)
/-- What a round leaves. -/
def SI {σ : Type} (I : σ → World → Prop) (X : Nat → Prop) (μ : σ → Nat) (Cl : Pd → σ → Prop) (ps : List Pd) (wb : World) (s : σ) (q : Nat) (b : Bool) (wr : World) : Prop :=
  ∃ s' : σ, I s' wr ∧ Fm X wb wr ∧ (b = true → μ s' < μ s) ∧ (b = false → s' = s ∧ ∀ j (hj : j < ps.length), j < q → Cl ps[j] s)
set_option maxHeartbeats 3200000 in
set_option maxRecDepth 20000 in
theorem settle_any {σ : Type} (N : Nat) (caps : Array Value) (he : Enters Try.prog N) (I : σ → World → Prop) (X : Nat → Prop) (μ : σ → Nat) (Cl : Pd → σ → Prop) (t n : Int) (pv : Value) (ps : List Pd) (W0 w : World) (hp : Pds W0 pv ps) (hw : Below W0.heap.size W0 w) (hX : ∀ k, X k → W0.heap.size ≤ k ∧ k < w.heap.size)
    (hI : ∀ s W W', I s W → Below W.heap.size W W' → I s W')
    (hst : ∀ s W q (hq : q < ps.length) u, I s W → Below W0.heap.size W0 W → Syms W0 u ps[q].2 → Calls Try.prog N (#[.agg #[.int .i64 ps[q].1, u]] ++ caps) W fun e W' => ∃ b, e = .returned (.bool b) ∧ ∃ s', I s' W' ∧ Fm X W W' ∧ (b = true → μ s' < μ s) ∧ (b = false → s' = s ∧ Cl ps[q] s))
    (s0 : σ) (h0 : I s0 w) :
    Calls Try.prog 61 #[.agg #[.int .i64 t, .int .i64 n, pv], .func (.func N) #[] caps] w fun e w' => e = .returned (.tuple #[]) ∧ Fm X w w' ∧ ∃ s', I s' w' ∧ ∀ p ∈ ps, Cl p s' := by
  obtain ⟨ao, c, rfl, hm, hcs⟩ := hp
  obtain ⟨wb, HWB⟩ : ∃ wb, Hid (w.alloc (Obj.cells #[.int .i64 t, .int .i64 n, .slice ao ps.length c] 24) = wb) := ⟨_, (rfl : _ = _)⟩
  have g0 := cell_new w #[.int .i64 t, .int .i64 n, .slice ao ps.length c] 24
  have hb0 := below_alloc w (Obj.cells #[.int .i64 t, .int .i64 n, .slice ao ps.length c] 24)
  rw [HWB.out] at g0 hb0
  have y2 : wb.cell? ⟨w.heap.size, 2, none⟩ = some (.slice ao ps.length c) := g0 2
  have HI0 : Hid (I s0 wb) := hI _ _ _ h0 hb0
  have HSZ : Hid (w.heap.size < wb.heap.size) := by show _ < _; rw [← HWB.out]; simp
  have HFX : Hid (∀ w', Fm X wb w' → Fm X w w') := fun w' h => (Fm.of hb0).trans h (fun _ _ e => e)
  have HNX : Hid (∀ w', Fm X wb w' → Below W0.heap.size W0 w') := fun w' h => (hw.trans (hb0.mono hw.size)).trans (h.below (Nat.le_trans hw.size hb0.size) fun k hk => (hX k hk).1)
  have HXG : Hid (¬ X w.heap.size) := fun e => by have := (hX _ e).2; omega
  have HST : Hid (∀ s W q (hq : q < ps.length) u, I s W → Below W0.heap.size W0 W → Syms W0 u ps[q].2 → Calls Try.prog N (#[.agg #[.int .i64 ps[q].1, u]] ++ caps) W fun e W' => ∃ b, e = .returned (.bool b) ∧ ∃ s', I s' W' ∧ Fm X W W' ∧ (b = true → μ s' < μ s) ∧ (b = false → s' = s ∧ Cl ps[q] s)) := hst
  have HI : Hid (∀ s W W', I s W → Below W.heap.size W W' → I s W') := hI
  have HCS : Hid (ps = [] ∨ _) := hcs
  clear hst hI hcs g0 hb0 hX hw h0
  go_enter Try.func61, Try.ntmps61
  go_wp2_with fail
  rw [HWB.out]
  clear HWB
  obtain ⟨g, HG⟩ : ∃ g, Hid (w.heap.size = g) := ⟨_, (rfl : w.heap.size = w.heap.size)⟩
  rw [HG.out] at y2 HSZ HXG ⊢
  go_loopw [4] (fun v wr => ∃ m, SG I X μ Cl ps wb v wr m) (fun v wr => leastOf (SG I X μ Cl ps wb v wr))
  case atStart => exact ⟨_, true, s0, rfl, HI0.out, Fm.refl _ _, fun e => (by cases e), rfl⟩
  case round =>
    obtain ⟨b, s, rfl, hi, hf, hc, HM⟩ := leastOf_holds hrel
    cases b with
    | false =>
      have HFIN : Hid (Fm X w wr ∧ ∃ s', I s' wr ∧ ∀ p ∈ ps, Cl p s') := ⟨HFX.out _ hf, s, hi, hc rfl⟩
      clear hf hi hc HM hrel
      go_wp2_with fail
      refine bodyPost_end (v := .tuple #[]) (by simp [results, Try.results61, go_sem]) rfl ⟨rfl, HFIN.out⟩
    | true =>
      have HMM : Hid (leastOf (SG I X μ Cl ps wb (.bool true) wr) = 2 * μ s + 1) := HM
      have k2 : wr.cell? ⟨g, 2, none⟩ = some (.slice ao ps.length c) := (hf.cell (p := ⟨g, 2, none⟩) HSZ.out HXG.out).trans y2
      have HS0 : Hid (SI I X μ Cl ps wb s 0 false wr) := ⟨s, hi, hf, fun e => (by cases e), fun _ => ⟨rfl, fun j _ h => absurd h (Nat.not_lt_zero _)⟩⟩
      obtain ⟨mm, HMN⟩ : ∃ mm, Hid (leastOf (SG I X μ Cl ps wb (.bool true) wr) = mm) := ⟨_, (rfl : leastOf (SG I X μ Cl ps wb (.bool true) wr) = leastOf (SG I X μ Cl ps wb (.bool true) wr))⟩
      rw [HMN.out] at HMM
      clear hf hi hc HM hrel HI0
      obtain ⟨W1, rfl⟩ : ∃ W1, W1 = wr := ⟨_, rfl⟩
      go_wp2_with fail
      go_loopw [4, 11] (fun v i wr => ∃ (q : Nat) (b : Bool), q ≤ ps.length ∧ i = .int .i64 (q : Int) ∧ v = .bool b ∧ Hid (SI I X μ Cl ps wb s q b wr)) (fun _ i _ => ps.length - (intOf i).toNat)
      case atStart => exact ⟨0, false, by omega, rfl, rfl, HS0⟩
      case round =>
        obtain ⟨q, b, hq, rfl, rfl, HS⟩ := hrel
        clear HS0
        by_cases hlt : q < ps.length
        · obtain ⟨s1, hi, hf, hbt, hbf⟩ := HS.out
          have hbw := HNX.out _ hf
          obtain ⟨b2, o, rfl, hb, hcc⟩ := HCS.out.resolve_left (by intro e; subst e; simp at hlt)
          obtain ⟨c0, u, c1, hsy⟩ := hcc q hlt
          replace c0 : wr.cell? ⟨b2, o + q * 2, none⟩ = _ := (hbw.cell (p := ⟨b2, o + q * 2, none⟩) hb).trans c0
          replace c1 : wr.cell? ⟨b2, o + q * 2 + 1, none⟩ = _ := (hbw.cell (p := ⟨b2, o + q * 2 + 1, none⟩) hb).trans c1
          have hbA := below_alloc wr (Obj.cells #[.int .i64 ps[q].1, u] 79)
          have hcall := HST.out s1 _ q hlt u (HI.out _ _ _ hi hbA) (hbw.trans (hbA.mono hbw.size)) hsy
          have HFA : Hid (Fm X wb (wr.alloc (Obj.cells #[.int .i64 ps[q].1, u] 79))) := hf.trans (Fm.of (X := X) hbA) fun _ _ e => e
          have HBT : Hid (b = true → μ s1 < μ s) := hbt
          have HBF : Hid (b = false → s1 = s ∧ ∀ j (hj : j < ps.length), j < q → Cl ps[j] s) := hbf
          have HCL : Hid (Cl ps[q] s1 → b = false → ∀ j (hj : j < ps.length), j < q + 1 → Cl ps[j] s) := fun h1 h2 j hj h3 => by
            by_cases e : j = q
            · subst e; rw [← (hbf h2).1]; exact h1
            · exact (hbf h2).2 j hj (by omega)
          obtain ⟨uo, uk, uc, rfl⟩ : ∃ uo uk uc, u = .slice uo uk uc := by obtain ⟨uo, uc, e, _⟩ := hsy; exact ⟨_, _, _, e⟩
          generalize ps[q].1 = x at c0 hcall HFA
          have hk1 : (q : Int) < (ps.length : Int) := by omega
          clear hcc hsy hbA hbw hf hi hbt hbf HS HCS
          go_wp2_with fail
          rw [he, Oper.upon_enter]
          refine hcall.mono ?_
          rintro _ w1 ⟨b', rfl, s', h1, h2, h3, h4⟩
          have HN1 : Hid (b' = true → SI I X μ Cl ps wb s (q + 1) true w1) := fun e => by
            refine ⟨s', h1, HFA.out.trans h2 (fun _ _ e => e), fun _ => ?_, fun e => (by cases e)⟩
            have := h3 e
            cases b with
            | true => have := HBT.out rfl; omega
            | false => rw [← (HBF.out rfl).1]; exact this
          have HN2 : Hid (b' = false → SI I X μ Cl ps wb s (q + 1) b w1) := fun e => by
            obtain ⟨rfl, h5⟩ := h4 e
            exact ⟨s', h1, HFA.out.trans h2 (fun _ _ e => e), HBT.out, fun e2 => ⟨(HBF.out e2).1, HCL.out h5 e2⟩⟩
          clear h1 h2 h3 h4 hcall c0 c1
          cases b' with
          | true =>
            go_wp2_with fail
            go_roundw
            case rel => exact ⟨q + 1, true, by omega, by go_num, rfl, HN1.out (by trivial)⟩
            case measure => simp [intOf]; omega
          | false =>
            go_wp2_with fail
            go_roundw
            case rel => exact ⟨q + 1, b, by omega, by go_num, rfl, HN2.out (by trivial)⟩
            case measure => simp [intOf]; omega
        · have hG : ∃ m, SG I X μ Cl ps wb (.bool b) wr m ∧ m < mm := by
            obtain ⟨s1, hi, hf, hbt, hbf⟩ := HS.out
            cases b with
            | true => exact ⟨_, ⟨true, s1, rfl, hi, hf, fun e => (by cases e), rfl⟩, by have := hbt rfl; rw [HMM.out]; simp; omega⟩
            | false =>
              obtain ⟨rfl, h5⟩ := hbf rfl
              refine ⟨_, ⟨false, s1, rfl, hi, hf, fun _ p hp => ?_, rfl⟩, by rw [HMM.out]; simp⟩
              obtain ⟨j, hj, rfl⟩ := List.getElem_of_mem hp
              exact h5 j hj (by omega)
          have HGG : Hid (∃ m, SG I X μ Cl ps wb (.bool b) wr m ∧ m < mm) := hG
          clear hG HS
          go_wp2_with fail
          go_roundw
          case rel => obtain ⟨m, h1, h2⟩ := HGG.out; exact ⟨m, h1⟩
          case measure => obtain ⟨m, h1, h2⟩ := HGG.out; exact Nat.lt_of_le_of_lt (leastOf_le h1) (Nat.lt_of_lt_of_eq h2 HMN.out.symm)
end Go.Proofs.Ytpbnnmfjahckmaa

namespace Go.Proofs.Ytpbnnmfjahckmaa
open Go.RowKit
open Cg

/-- A row's set at m is put, if it was not there. -/
def PutB (b n : Nat) (s : Nat → Bool) (m : Nat) (r : Bool) (W W' : World) : Prop := if r = true then Fm (fun k => k = b) W W' ∧ Rb W' b n (upd s m true) else Below W.heap.size W W'
set_option maxHeartbeats 3200000 in
set_option maxRecDepth 20000 in
theorem clos41_any (t : Int) (n b cb ct : Nat) (terms : Bool) (s : Nat → Bool) (m : Nat) (hmn : m < n) (u : Value) (l : List Sy) (ok : OkL t n l) (W : World) (hs : Syms W u l) (hr : Rb W b n s)
    (hc : W.cell? ⟨cb, 0, none⟩ = some (.slice (some ⟨b, 0, none⟩) n n)) (hct : W.cell? ⟨ct, 0, none⟩ = some (.bool terms)) (hcl : cb < W.heap.size) (hctl : ct < W.heap.size) :
    Calls Try.prog 81 #[.agg #[.int .i64 (m : Int), u], .pointer (some ⟨cb, 0, none⟩), .pointer (some ⟨ct, 0, none⟩)] W fun e W' => e = .returned (.bool (!s m && amk s terms l)) ∧ PutB b n s m (!s m && amk s terms l) W W' := by
  obtain ⟨r, HR⟩ : ∃ r, Hid ((!s m && amk s terms l) = r) := ⟨_, (rfl : (!s m && amk s terms l) = (!s m && amk s terms l))⟩
  rw [HR.out]
  have hs' := hs
  obtain ⟨uo, uc, rfl, hul, -⟩ := hs
  obtain ⟨wb, HWB⟩ : ∃ wb, Hid (W.alloc (Obj.cells #[.int .i64 (m : Int), .slice uo l.length uc] 79) = wb) := ⟨_, (rfl : _ = _)⟩
  have g0 := cell_new W #[.int .i64 (m : Int), .slice uo l.length uc] 79
  have hb0 := below_alloc W (Obj.cells #[.int .i64 (m : Int), .slice uo l.length uc] 79)
  rw [HWB.out] at g0 hb0
  have y0 : wb.cell? ⟨W.heap.size, 0, none⟩ = some (.int .i64 (m : Int)) := g0 0
  have y1 : wb.cell? ⟨W.heap.size, 1, none⟩ = some (.slice uo l.length uc) := g0 1
  have y2 : wb.cell? ⟨cb, 0, none⟩ = some (.slice (some ⟨b, 0, none⟩) n n) := (hb0.cell (p := ⟨cb, 0, none⟩) hcl).trans hc
  have y3 : wb.cell? ⟨ct, 0, none⟩ = some (.bool terms) := (hb0.cell (p := ⟨ct, 0, none⟩) hctl).trans hct
  have y4 : wb.cell? ⟨b, m, none⟩ = some (.bool (s m)) := (hr.next hb0).cell hmn
  have HSZ : Hid (W.heap.size < wb.heap.size ∧ cb < wb.heap.size) := ⟨by rw [← HWB.out]; simp, Nat.lt_of_lt_of_le hcl hb0.size⟩
  have HB0 : Hid (Below W.heap.size W wb) := hb0
  have hmn2 : (m : Int) < (n : Int) := by omega
  have HRB : Hid (Rb wb b n s) := hr.next hb0
  have HSY : Hid (Syms wb (.slice uo l.length uc) l) := hs'.below hb0
  have HWE := HWB.out
  subst HWE
  clear g0 hb0 hr hs' hc hct hcl hctl HWB
  by_cases hsm : s m = true
  · obtain rfl : r = false := by rw [← HR.out, hsm]; rfl
    rw [hsm] at y4
    clear hsm HR
    go_enter Try.func81, Try.ntmps81
    go_wp2_with fail
    go_ret
    exact ⟨by simp, by unfold PutB; rw [if_neg (by simp)]; exact HB0.out⟩
  · have hsm2 : s m = false := by simpa using hsm
    rw [hsm2] at y4
    have HA : Hid (amk s terms l = r) := by show _ = _; rw [← HR.out, hsm2]; rfl
    clear hsm hsm2 HR
    go_enter Try.func81, Try.ntmps81
    go_wp2_with fail
    have hcall := allMade_any t n b s terms (.slice uo l.length uc) l _ HSY.out HRB.out ok
    rw [HA.out] at hcall
    refine hcall.mono ?_
    rintro _ w1 ⟨rfl, hb1⟩
    have HB1 : Hid (Below W.heap.size W w1) := HB0.out.trans (hb1.mono HB0.out.size)
    cases r with
    | false =>
      clear hb1 hcall
      go_wp2_with fail
      go_ret
      exact ⟨by simp, by unfold PutB; rw [if_neg (by simp)]; exact HB1.out⟩
    | true =>
      have z0 : w1.cell? ⟨W.heap.size, 0, none⟩ = some (.int .i64 (m : Int)) := (hb1.cell (p := ⟨W.heap.size, 0, none⟩) HSZ.out.1).trans y0
      have z2 : w1.cell? ⟨cb, 0, none⟩ = some (.slice (some ⟨b, 0, none⟩) n n) := (hb1.cell (p := ⟨cb, 0, none⟩) HSZ.out.2).trans y2
      have hr1 := HRB.out.next hb1
      have z4 := hr1.cell hmn
      have z5 := World.rowIs.frozen hr1 m
      have HR1 : Hid (Rb w1 b n s) := hr1
      clear hb1 hcall hr1
      go_wp2_with fail
      go_ret
      exact ⟨by simp, by unfold PutB; rw [if_pos rfl]; exact ⟨(Fm.of (X := fun k => k = b) HB1.out).trans (Fm.set (X := fun k => k = b) (b := b) (i := m) _ rfl) (fun _ _ e => e), HR1.out.set m true⟩⟩

/-- What is held while made goes on. -/
structure Im (ps : List Pd) (terms : Bool) (n b cb ct : Nat) (s : Nat → Bool) (W : World) : Prop where
  c1 : W.cell? ⟨cb, 0, none⟩ = some (.slice (some ⟨b, 0, none⟩) n n)
  c2 : W.cell? ⟨ct, 0, none⟩ = some (.bool terms)
  lc : cb < W.heap.size
  lct : ct < W.heap.size
  row : Rb W b n s
  sn : SnM ps terms s
  nb : cb ≠ b
  nt : ct ≠ b
theorem Im.next {ps : List Pd} {terms : Bool} {n b cb ct : Nat} {s : Nat → Bool} {W W' : World} (h : Im ps terms n b cb ct s W) (hb : Below W.heap.size W W') : Im ps terms n b cb ct s W' :=
  ⟨(hb.cell (p := ⟨cb, 0, none⟩) h.lc).trans h.c1, (hb.cell (p := ⟨ct, 0, none⟩) h.lct).trans h.c2, Nat.lt_of_lt_of_le h.lc hb.size, Nat.lt_of_lt_of_le h.lct hb.size, h.row.next hb, h.sn, h.nb, h.nt⟩
theorem Im.put {ps : List Pd} {terms : Bool} {n b cb ct : Nat} {s s' : Nat → Bool} {W W' : World} (h : Im ps terms n b cb ct s W) (hf : Fm (fun k => k = b) W W') (hr : Rb W' b n s') (hn : SnM ps terms s') : Im ps terms n b cb ct s' W' :=
  ⟨(hf.cell (p := ⟨cb, 0, none⟩) h.lc h.nb).trans h.c1, (hf.cell (p := ⟨ct, 0, none⟩) h.lct h.nt).trans h.c2, Nat.lt_of_lt_of_le h.lc hf.size, Nat.lt_of_lt_of_le h.lct hf.size, hr, hn, h.nb, h.nt⟩
/-- A right grammar, as far as it is wanted here. -/
structure Rg (t : Int) (n : Nat) (ps : List Pd) : Prop where
  n1 : 1 ≤ n
  n2 : n ≤ 20
  t2 : t ≤ 30
  hd : ∀ q (hq : q < ps.length), ∃ m : Nat, ps[q].1 = (m : Int) ∧ ps[q].1.toNat = m ∧ m < n
  ok : ∀ q (hq : q < ps.length), OkL t n ps[q].2
  t0 : 0 ≤ t
  ln : ps.length ≤ 40
  lb : ∀ q (hq : q < ps.length), ps[q].2.length ≤ 8
theorem rg_of {t : Int} {n : Nat} {ps : List Pd} (h : chk t n ps = 0) : Rg t n ps := by
  obtain ⟨h0, h1, h2⟩ := chk_zero h
  have h3 := okTN_le h0
  refine ⟨by omega, by omega, by omega, fun q hq => ?_, fun q hq => okL_of (chkP_zero (h2 _ (List.getElem_mem hq))).2.2, by omega, h1, fun q hq => (chkP_zero (h2 _ (List.getElem_mem hq))).1⟩
  have h4 := okN_le (chkP_zero (h2 _ (List.getElem_mem hq))).2.1
  exact ⟨ps[q].1.toNat, by omega, rfl, by omega⟩
theorem im_start (ps : List Pd) (terms : Bool) (n : Nat) (w : World) (o1 : Obj) : Im ps terms n (w.heap.size + 1 + 1) (w.heap.size + 1 + 1 + 1) (w.heap.size + 1) (fun _ => false) ((((w.alloc o1).alloc (.cells #[.bool terms] 4)).alloc (.cells (madeCells #[.bool false] n) 4)).alloc (.cells #[.slice (some ⟨w.heap.size + 1 + 1, 0, none⟩) n n] 49)) := by
  have e1 : (w.alloc o1).heap.size = w.heap.size + 1 := by simp
  have e2 : ((w.alloc o1).alloc (.cells #[.bool terms] 4)).heap.size = w.heap.size + 1 + 1 := by simp
  have e3 : (((w.alloc o1).alloc (.cells #[.bool terms] 4)).alloc (.cells (madeCells #[.bool false] n) 4)).heap.size = w.heap.size + 1 + 1 + 1 := by simp
  refine ⟨?_, ?_, by simp, by simp, ?_, snM_zero _ _, by omega, by omega⟩
  · have := cell_new (((w.alloc o1).alloc (.cells #[.bool terms] 4)).alloc (.cells (madeCells #[.bool false] n) 4)) #[.slice (some ⟨w.heap.size + 1 + 1, 0, none⟩) n n] 49 0
    rw [e3] at this; exact this
  · have := cell_new (w.alloc o1) #[.bool terms] 4 0
    rw [e1] at this
    exact ((below_alloc2 _ _ _).cell (p := ⟨w.heap.size + 1, 0, none⟩) (by simp)).trans this
  · have := World.rowIs_made ((w.alloc o1).alloc (.cells #[.bool terms] 4)) (.bool false) n 4
    rw [e2] at this
    exact this.alloc _
theorem arr2 (a b c : Value) : (#[a] ++ #[b, c] : Array Value) = #[a, b, c] := by simp
theorem arr1 (a b : Value) : (#[a] ++ #[b] : Array Value) = #[a, b] := by simp
set_option maxHeartbeats 3200000 in
set_option maxRecDepth 20000 in
theorem made_any (t : Int) (n : Nat) (terms : Bool) (pv : Value) (ps : List Pd) (w : World) (hp : Pds w pv ps) (hg : Rg t n ps) :
    Calls Try.prog 60 #[.agg #[.int .i64 t, .int .i64 (n : Int), pv], .bool terms] w fun e w' => ∃ b, e = .returned (.slice (some ⟨b, 0, none⟩) n n) ∧ w.heap.size ≤ b ∧ Below w.heap.size w w' ∧ ∃ s, Rb w' b n s ∧ Mk ps terms s := by
  have HP : Hid (Pds w pv ps) := hp
  have HG : Hid (Rg t n ps) := hg
  obtain ⟨ao, c, rfl, hm, -⟩ := hp
  have hn1 := hg.n1
  have hn2 := hg.n2
  clear hg
  have he := enters_of Try.func81 (by kernel_rfl) rfl
  have hmk := run_make_row' (P := Try.prog) 49 4 (.bool false) 1 Try.underlying49 info4 rfl .i64 .i64 n (by omega) (by omega)
  go_enter Try.func60, Try.ntmps60
  go_wp2_with fail
  refine (settle_any 81 #[.pointer (some ⟨w.heap.size + 1 + 1 + 1, 0, none⟩), .pointer (some ⟨w.heap.size + 1, 0, none⟩)] he (Im ps terms n (w.heap.size + 1 + 1) (w.heap.size + 1 + 1 + 1) (w.heap.size + 1)) (fun k => k = w.heap.size + 1 + 1) (muB n) (fun p s => amk s terms p.2 = true → s p.1.toNat = true) t n _ ps w _ HP.out ?_ ?_ (fun _ _ _ h hb => h.next hb) ?_ (fun _ => false) (im_start ps terms n w _)).mono ?_
  · exact ((below_alloc2 w _ _).alloc (by simp; omega) _).alloc (by simp; omega) _
  · intro k hk; subst hk; simp; omega
  · intro s W q hq u hI hbV hsy0
    have hsy := hsy0.below hbV
    obtain ⟨m, e1, e2, hm⟩ := HG.out.hd q hq
    rw [arr2, e1]
    refine (clos41_any t n _ _ _ terms s m hm u ps[q].2 (HG.out.ok q hq) W hsy hI.row hI.c1 hI.c2 hI.lc hI.lct).mono ?_
    rintro _ W' ⟨rfl, hP⟩
    refine ⟨_, rfl, ?_⟩
    cases h1 : s m with
    | true =>
      rw [h1] at hP
      exact ⟨s, hI.next hP, Fm.of hP, fun e => (by cases e), fun _ => ⟨rfl, fun _ => by simpa using h1⟩⟩
    | false =>
      cases h2 : amk s terms ps[q].2 with
      | true =>
        rw [h1, h2] at hP
        have := snM_put (List.getElem_mem hq) hI.sn h2
        rw [e2] at this
        exact ⟨upd s m true, hI.put hP.1 hP.2 this, hP.1, fun _ => muB_put hm h1, fun e => (by cases e)⟩
      | false =>
        rw [h1, h2] at hP
        exact ⟨s, hI.next hP, Fm.of hP, fun e => (by cases e), fun _ => ⟨rfl, fun h => by cases h⟩⟩
  · rintro _ w1 ⟨rfl, hF, s, hI, hC⟩
    have z1 := hI.c1
    have HFIN : Hid (Below w.heap.size w w1 ∧ ∃ s, Rb w1 (w.heap.size + 1 + 1) n s ∧ Mk ps terms s) := by
      refine ⟨(((below_alloc2 w _ _).alloc (by simp; omega) _).alloc (by simp; omega) _).trans (hF.below (by simp; omega) fun k hk => by omega), s, hI.row, hC, hI.sn⟩
    clear hI hC hF hmk
    go_wp2_with fail
    go_ret
    exact ⟨_, by simp, by omega, HFIN.out⟩
end Go.Proofs.Ytpbnnmfjahckmaa

namespace Go.Proofs.Ytpbnnmfjahckmaa
open Go.RowKit

variable {P : Program} {ops : Array Oper} {C : World → Prop} {LE : Array Bool} {QQ : Act → Prop}

/-- What is listed waits for listed ones alone. -/
def Down (ops : Array Oper) (listed : Array Bool) : Prop := ∀ j oj, ops[j]? = some oj → listed.getD j false = true → ∀ e ∈ oj.after, Region.binds .any e = true → listed.getD e.on false = true
theorem getD_keep {listed : Array Bool} {x : Nat} (j : Nat) (h : listed.getD x false = true) : (listed.setIfInBounds j true).getD x false = true := by
  by_cases e : j = x
  · subst e
    rcases Nat.lt_or_ge j listed.size with h' | h'
    · simp [h']
    · simp [Array.getElem?_eq_none h'] at h
  · rw [getD_set_ne false e]; exact h
theorem Down.step {listed : Array Bool} {j : Nat} (h : Down ops listed) (hj : j ∈ Region.ready .any ops listed) : Down ops (listed.setIfInBounds j true) := by
  intro k ok hk hl e he hb
  obtain ⟨_, oj, hoj, hall⟩ := mem_ready.1 hj
  by_cases ejk : j = k
  · subst ejk
    rw [hk] at hoj
    cases hoj
    exact getD_keep j (hall e he hb)
  · rw [getD_set_ne false ejk] at hl
    exact getD_keep j (h k ok hk hl e he hb)
def leadsOn (ops : Array Oper) (t : Nat) : Bool := (List.range t).all fun i => (List.range (t + 1)).any fun j => decide (i < j) && (match ops[j]? with | some o => o.after.any (fun e => Region.binds .any e && e.on == i) | none => false)
theorem leadsOn_spec {t : Nat} (h : leadsOn ops t = true) (i : Nat) (hi : i < t) : ∃ j o, i < j ∧ j ≤ t ∧ ops[j]? = some o ∧ ∃ e ∈ o.after, Region.binds .any e = true ∧ e.on = i := by
  have h1 := List.all_eq_true.1 h i (List.mem_range.2 hi)
  obtain ⟨j, hj, h2⟩ := List.any_eq_true.1 h1
  simp only [Bool.and_eq_true, decide_eq_true_eq] at h2
  obtain ⟨h3, h4⟩ := h2
  cases ho : ops[j]? with
  | none => rw [ho] at h4; cases h4
  | some o =>
    rw [ho] at h4
    obtain ⟨e, he, h5⟩ := Array.any_eq_true'.1 h4
    simp only [Bool.and_eq_true, beq_iff_eq] at h5
    have := List.mem_range.1 hj
    exact ⟨j, o, h3, by omega, ho, e, he, h5.1, h5.2⟩

theorem wpC_first {t i : Nat} {oi : Oper} {v : Value} (hready : Region.ready .any ops LE = [t]) (hLE : ∀ j, j < t → LE.getD j false = true) (hit : i < t) (hlead : leadsOn ops t = true)
    (hi : ops[i]? = some oi) (hsel : ∀ (j : Nat) (o : Oper) cs b, ops[j]? = some o → o.op ≠ .select cs b) :
    ∀ (fuel : Nat) (listed : Array Bool) (a : Act), Down ops listed →
      (∀ j oj, ops[j]? = some oj → j ≠ i → listed.getD j true = false → (∀ e ∈ oj.after, Region.binds .any e = true → e.on ≠ i) → oi.apart ops oj = true) →
      i ∈ Region.ready .any ops listed → YieldsIn P ops C oi v a →
      wpT P .any ops C LE QQ fuel (listed.setIfInBounds i true) (a.put oi.dst v) → wpT P .any ops C LE QQ (fuel + 1) listed a := by
  intro fuel
  induction fuel with
  | zero =>
    intro listed a hdn _ hr hy H
    refine ⟨fun h => (by rw [h] at hr; cases hr), fun j hj => ?_⟩
    by_cases hji : j = i
    · subst hji; exact hy.qOp hi H
    · have hm := ready_mono hj hji
      rw [H.1, hready] at hm
      have ejt : j = t := by simpa using hm
      subst ejt
      obtain ⟨hjun, oj, hoj, hall⟩ := mem_ready.1 hj
      obtain ⟨k, ok, h1, h2, h3, e, he, hb, heq⟩ := leadsOn_spec hlead i hit
      have h0 := (mem_ready.1 hr).1
      have hyes : listed.getD i false = true := by
        by_cases ek : k = j
        · subst ek
          rw [hoj] at h3
          cases h3
          have := hall e he hb
          rw [heq] at this; exact this
        · have h4 : listed.getD k false = true := by
            have := hLE k (by omega)
            rw [← H.1, getD_set_ne false (by omega)] at this
            exact this
          have := hdn k ok h3 h4 e he hb
          rw [heq] at this; exact this
      rcases Nat.lt_or_ge i listed.size with h' | h'
      · simp [h'] at h0 hyes; rw [h0] at hyes; cases hyes
      · simp [Array.getElem?_eq_none h'] at hyes
  | succ fuel ih =>
    intro listed a hdn hfree hr hy H
    refine ⟨fun h => (by rw [h] at hr; cases hr), fun j hj => ?_⟩
    by_cases hji : j = i
    · subst hji; exact hy.qOp hi H
    · have h1 := H.2 j (ready_mono hj hji)
      obtain ⟨hjun, oj, hoj, hall⟩ := mem_ready.1 hj
      have hnot : ∀ e ∈ oj.after, Region.binds .any e = true → e.on ≠ i := fun e he hb heq => by
        have h1 := hall e he hb
        have h0 := (mem_ready.1 hr).1
        rw [heq] at h1
        rcases Nat.lt_or_ge i listed.size with h' | h'
        · simp [h'] at h0 h1; rw [h0] at h1; cases h1
        · simp [Array.getElem?_eq_none h'] at h1
      have h2 := qOp_put hoj (hfree j oj hoj hji hjun hnot) (fun cs b => hsel i oi cs b hi) (fun cs b => hsel j oj cs b hoj) hy h1
      have hfree' : ∀ k ok, ops[k]? = some ok → k ≠ i → (listed.setIfInBounds j true).getD k true = false →
          (∀ e ∈ ok.after, Region.binds .any e = true → e.on ≠ i) → oi.apart ops ok = true := fun k ok hk hki hun hno => by
        refine hfree k ok hk hki ?_ hno
        by_cases hjk : j = k
        · subst hjk; exact hjun
        · rw [getD_set_ne true hjk] at hun; exact hun
      refine qOp_mono (fun a' h3 => ih (listed.setIfInBounds j true) a' (hdn.step hj) hfree' (ready_mono hr (Ne.symm hji)) h3.1 ?_) h2
      rw [Array.setIfInBounds_comm _ _ hji]
      exact h3.2
theorem wpC_lex {t : Nat} (hs : Region.noSelect ops = true) (hready : Region.ready .any ops LE = [t]) (hLE : ∀ j, j < t → LE.getD j false = true) (hlead : leadsOn ops t = true) :
    ∀ (l : List Oper) (k : Nat) (listed : Array Bool) (a : Act), k + l.length = t → Down ops listed → (∀ j, j < l.length → l[j]? = ops[k + j]?) → lexPart .any ops l.length k listed = true → fillFrom l.length k listed = LE → wpQuiet P ops C QQ l a → wpT P .any ops C LE QQ l.length listed a
  | [], _, _, _, _, _, _, _, hL, h => ⟨hL, h⟩
  | o :: l, k, listed, a, hk, hdn, hl, hB, hL, h => by
    have h0 : ops[k]? = some o := by simpa using (hl 0 (by simp)).symm
    simp only [List.length_cons, lexPart, Bool.and_eq_true] at hB
    obtain ⟨⟨hr, hf⟩, hB'⟩ := hB
    have hr' : k ∈ Region.ready .any ops listed := by simpa using hr
    have hst : qOp P ops C k (wpQuiet P ops C QQ l) a := by unfold qOp; simp only [h0]; exact h
    obtain ⟨v, hy, hK⟩ := yieldsIn_of_qOp h0 hst
    exact wpC_first hready hLE (by simp at hk; omega) hlead h0 (Region.noSelect_spec hs) l.length listed a hdn (Region.free_spec h0 hf) hr' hy
      (wpC_lex hs hready hLE hlead l (k + 1) _ _ (by simp at hk; omega) (hdn.step hr') (fun j hj => by have := hl (j + 1) (by simp; omega); simpa [Nat.add_assoc, Nat.add_comm 1 j] using this) hB' hL hK)
/-- The last ones come one behind the other. -/
def chainReady (ops : Array Oper) : Nat → Nat → Array Bool → Bool
  | 0, _, listed => (Region.ready .any ops listed).isEmpty
  | n + 1, k, listed => (Region.ready .any ops listed == [k]) && chainReady ops n (k + 1) (listed.setIfInBounds k true)
theorem wpAny_chain {Q : Exit → Act → World → Prop} : ∀ (tl : List Oper) (k : Nat) (listed : Array Bool) (a : Act) (w : World), (∀ j, j < tl.length → tl[j]? = ops[k + j]?) → chainReady ops tl.length k listed = true → wpList P ops Q tl a w → wpAny P .any ops Q tl.length listed a w
  | [], k, listed, a, w, _, hc, h => by
    simp only [List.length_nil, chainReady, List.isEmpty_iff] at hc
    exact ⟨hc, h⟩
  | o :: tl, k, listed, a, w, hl, hc, h => by
    simp only [List.length_cons, chainReady, Bool.and_eq_true, beq_iff_eq] at hc
    obtain ⟨h1, h2⟩ := hc
    have h0 : ops[k]? = some o := by simpa using (hl 0 (by simp)).symm
    have hn : ∀ a' w', wpList P ops Q tl a' w' → wpAny P .any ops Q tl.length (listed.setIfInBounds k true) a' w' := fun a' w' h' =>
      wpAny_chain tl (k + 1) _ a' w' (fun j hj => by have := hl (j + 1) (by simp; omega); simpa [Nat.add_assoc, Nat.add_comm 1 j] using this) h2 h'
    refine ⟨fun e => (by rw [h1] at e; cases e), fun i hi => ?_⟩
    rw [h1] at hi
    have : i = k := by simpa using hi
    subst this
    unfold wpOp
    simp only [h0]
    unfold wpList at h
    split
    · rename_i hw
      rw [if_pos hw] at h
      rcases h with h | h
      · exact Or.inl (Oper.wp_mono hn h)
      · exact Or.inr h
    · rename_i hw
      rw [if_neg hw] at h
      exact hn _ _ h
def chainB (l tl : List Oper) : Bool :=
  Region.noSelect (l ++ tl).toArray && lexPart .any (l ++ tl).toArray l.length 0 (Array.replicate (l.length + tl.length) false) && leadsOn (l ++ tl).toArray l.length &&
  ((List.range l.length).all fun j => (fillFrom l.length 0 (Array.replicate (l.length + tl.length) false)).getD j false) &&
  (Region.ready .any (l ++ tl).toArray (fillFrom l.length 0 (Array.replicate (l.length + tl.length) false)) == [l.length]) &&
  chainReady (l ++ tl).toArray tl.length l.length (fillFrom l.length 0 (Array.replicate (l.length + tl.length) false))
theorem wp_region_chain {P : Program} {S : World → Prop} {id : Nat} {Q : Exit → Act → World → Prop} {a : Act} {w : World} (l tl : List Oper) (hm : P.follows .mixedOrders = true) (hB : chainB l tl = true) (h0 : S w.drew)
    (h : wpQuiet P (l ++ tl).toArray (fun w' => ∃ p : Kp S, w' = p.W) (fun a' => ∀ p : Kp S, wpList P (l ++ tl).toArray Q tl a' p.W) l a) : (Code.region id (l ++ tl).toArray true).wp P Q a w := by
  unfold chainB at hB
  simp only [Bool.and_eq_true, beq_iff_eq] at hB
  obtain ⟨⟨⟨⟨⟨h1, h2⟩, h3⟩, h6⟩, h4⟩, h5⟩ := hB
  refine wp_region_any hm ?_
  have hsz : (l ++ tl).toArray.size = l.length + tl.length := by simp
  rw [hsz]
  refine wpAny_of_T (C := fun w' => ∃ p : Kp S, w' = p.W) (LE := fillFrom l.length 0 (Array.replicate (l.length + tl.length) false)) (QQ := fun a' => ∀ p : Kp S, wpList P (l ++ tl).toArray Q tl a' p.W) ?_ l.length _ a _ ⟨⟨_, h0⟩, rfl⟩ ?_
  · rintro a' w' ⟨p, rfl⟩ hq
    exact wpAny_chain tl l.length _ a' p.W (fun j hj => by simp [List.getElem?_append_right]) h5 (hq p)
  · refine wpC_lex h1 h4 (fun j hj => List.all_eq_true.1 h6 j (List.mem_range.2 hj)) h3 l 0 _ a (by simp) ?_ (fun j hj => by simp [List.getElem?_append_left hj]) h2 rfl h
    intro j oj _ hl
    by_cases hj : j < l.length + tl.length
    · simp [hj] at hl
    · simp [hj] at hl
end Go.Proofs.Ytpbnnmfjahckmaa

namespace Go.Proofs.Ytpbnnmfjahckmaa
open Go.RowKit
open Cg

/-- A row of sets is widened at m. -/
def PutW (b n : Nat) (F : Nat → Wd) (m : Nat) (x : Wd) (W W' : World) : Prop := Fm (fun k => k = b) W W' ∧ Rw W' b n (upd F m (F m ||| x))
set_option maxHeartbeats 3200000 in
set_option maxRecDepth 20000 in
theorem clos34_any (t : Int) (ht : t ≤ 30) (n be bf bm cf : Nat) (E M : Nat → Bool) (F : Nat → Wd) (m : Nat) (hmn : m < n) (u : Value) (l : List Sy) (ok : OkL t n l) (W : World) (hs : Syms W u l) (hre : Rb W be n E) (hrf : Rw W bf n F) (hrm : Rb W bm n M)
    (h0 : W.cell? ⟨cf, 0, none⟩ = some (.slice (some ⟨be, 0, none⟩) n n)) (h1 : W.cell? ⟨cf, 1, none⟩ = some (.slice (some ⟨bf, 0, none⟩) n n)) (h2 : W.cell? ⟨cf, 2, none⟩ = some (.slice none 0 0)) (h3 : W.cell? ⟨cf, 3, none⟩ = some (.slice none 0 0)) (h4 : W.cell? ⟨cf, 4, none⟩ = some (.slice (some ⟨bm, 0, none⟩) n n)) (hcl : cf < W.heap.size) :
    Calls Try.prog 62 #[.agg #[.int .i64 (m : Int), u], .pointer (some ⟨cf, 0, none⟩)] W fun e W' => e = .returned (.bool (amk M true l && (F m ||| bg E F l 0#64 != F m))) ∧ (if amk M true l = true then PutW bf n F m (bg E F l 0#64) W W' else Below W.heap.size W W') := by
  obtain ⟨r, HR⟩ : ∃ r, Hid (amk M true l = r) := ⟨_, (rfl : amk M true l = amk M true l)⟩
  rw [HR.out]
  have hs' := hs
  obtain ⟨uo, uc, rfl, hul, -⟩ := hs
  obtain ⟨wb, HWB⟩ : ∃ wb, Hid (W.alloc (Obj.cells #[.int .i64 (m : Int), .slice uo l.length uc] 79) = wb) := ⟨_, (rfl : _ = _)⟩
  have g0 := cell_new W #[.int .i64 (m : Int), .slice uo l.length uc] 79
  have hb0 := below_alloc W (Obj.cells #[.int .i64 (m : Int), .slice uo l.length uc] 79)
  rw [HWB.out] at g0 hb0
  have HSZ : Hid (W.heap.size < wb.heap.size) := by show _ < _; rw [← HWB.out]; simp
  have HB0 : Hid (Below W.heap.size W wb) := hb0
  have hmn2 : (m : Int) < (n : Int) := by omega
  have HRE : Hid (Rb wb be n E) := hre.next hb0
  have HRM : Hid (Rb wb bm n M) := hrm.next hb0
  have HRF : Hid (Rw wb bf n F) := hrf.next hb0
  have HSY : Hid (Syms wb (.slice uo l.length uc) l) := hs'.below hb0
  have hne : Nonempty (Kp (Sb wb)) := ⟨⟨_, Sb.drew wb⟩⟩
  have y0 : ∀ p : Kp (Sb wb), p.W.cell? ⟨W.heap.size, 0, none⟩ = some (.int .i64 (m : Int)) := fun p => (Below.cell p.h (p := ⟨W.heap.size, 0, none⟩) HSZ.out).trans (g0 0)
  have y1 : ∀ p : Kp (Sb wb), p.W.cell? ⟨W.heap.size, 1, none⟩ = some (.slice uo l.length uc) := fun p => (Below.cell p.h (p := ⟨W.heap.size, 1, none⟩) HSZ.out).trans (g0 1)
  have hcl2 : cf < wb.heap.size := Nat.lt_of_lt_of_le hcl hb0.size
  have k0 : ∀ p : Kp (Sb wb), p.W.cell? ⟨cf, 0, none⟩ = some (.slice (some ⟨be, 0, none⟩) n n) := fun p => (Below.cell p.h (p := ⟨cf, 0, none⟩) hcl2).trans ((hb0.cell (p := ⟨cf, 0, none⟩) hcl).trans h0)
  have k1 : ∀ p : Kp (Sb wb), p.W.cell? ⟨cf, 1, none⟩ = some (.slice (some ⟨bf, 0, none⟩) n n) := fun p => (Below.cell p.h (p := ⟨cf, 1, none⟩) hcl2).trans ((hb0.cell (p := ⟨cf, 1, none⟩) hcl).trans h1)
  have k2 : ∀ p : Kp (Sb wb), p.W.cell? ⟨cf, 2, none⟩ = some (.slice none 0 0) := fun p => (Below.cell p.h (p := ⟨cf, 2, none⟩) hcl2).trans ((hb0.cell (p := ⟨cf, 2, none⟩) hcl).trans h2)
  have k3 : ∀ p : Kp (Sb wb), p.W.cell? ⟨cf, 3, none⟩ = some (.slice none 0 0) := fun p => (Below.cell p.h (p := ⟨cf, 3, none⟩) hcl2).trans ((hb0.cell (p := ⟨cf, 3, none⟩) hcl).trans h3)
  have k4 : ∀ p : Kp (Sb wb), p.W.cell? ⟨cf, 4, none⟩ = some (.slice (some ⟨bm, 0, none⟩) n n) := fun p => (Below.cell p.h (p := ⟨cf, 4, none⟩) hcl2).trans ((hb0.cell (p := ⟨cf, 4, none⟩) hcl).trans h4)
  have HC1 : Hid (∀ p : Kp (Sb wb), Calls Try.prog 63 #[.slice uo l.length uc, .slice (some ⟨bm, 0, none⟩) n n, .bool true] p.W fun e w'' => e = .returned (.bool r) ∧ ∃ q : Kp (Sb wb), w'' = q.W) := fun p => by
    have := allMade_any t n bm M true _ l p.W (HSY.out.below p.h) (HRM.out.next p.h) ok
    rw [HR.out] at this
    exact Kp.calls p Sb.next this
  obtain ⟨x, HX⟩ : ∃ x, Hid (bg E F l 0#64 = x) := ⟨_, (rfl : bg E F l 0#64 = bg E F l 0#64)⟩
  rw [HX.out]
  have HC2 : Hid (∀ p : Kp (Sb wb), Calls Try.prog 65 #[.agg #[.slice (some ⟨be, 0, none⟩) n n, .slice (some ⟨bf, 0, none⟩) n n, .slice none 0 0, .slice none 0 0, .slice (some ⟨bm, 0, none⟩) n n], .slice uo l.length uc, .int .u64 0] p.W fun e w'' => e = .returned (.int .u64 (x.toNat : Int)) ∧ ∃ q : Kp (Sb wb), w'' = q.W) := fun p => by
    have := begin_any t n be bf E F (.slice none 0 0) (.slice none 0 0) (.slice (some ⟨bm, 0, none⟩) n n) _ l 0#64 p.W (HSY.out.below p.h) (HRE.out.next p.h) (HRF.out.next p.h) ok ht
    rw [HX.out] at this
    exact Kp.calls p Sb.next this
  have HW : Hid (∀ p : Kp (Sb wb), Fm (fun k => k = bf) W (p.W.setCell ⟨bf, m, none⟩ (.int .u64 ((F m ||| x).toNat : Int))) ∧ Rw (p.W.setCell ⟨bf, m, none⟩ (.int .u64 ((F m ||| x).toNat : Int))) bf n (upd F m (F m ||| x))) := fun p =>
    ⟨(Fm.of (X := fun k => k = bf) (HB0.out.trans (Below.mono p.h HB0.out.size))).trans (Fm.set (X := fun k => k = bf) (b := bf) (i := m) _ rfl) (fun _ _ e => e), (HRF.out.next p.h).set m _⟩
  have HWD : Hid (∀ p : Kp (Sb wb), Calls Try.prog 64 #[.slice (some ⟨bf, 0, none⟩) n n, .int .i64 (m : Int), .int .u64 (x.toNat : Int)] p.W fun e w' => e = .returned (.bool (F m ||| x != F m)) ∧ w' = p.W.setCell ⟨bf, m, none⟩ (.int .u64 ((F m ||| x).toNat : Int))) := fun p => widen_any n bf F m x p.W (HRF.out.next p.h) hmn
  have HBF : Hid (∀ p : Kp (Sb wb), Below W.heap.size W p.W) := fun p => HB0.out.trans (Below.mono p.h HB0.out.size)
  clear hrf hre hrm h0 h1 h2 h3 h4 hcl hcl2 hb0 g0 hs' HRE HRM HRF HSY HX HR HB0
  cases r with
  | false =>
    simp only [Bool.false_eq_true, if_false, Bool.false_and]
    go_enter Try.func62, Try.ntmps62
    go_wp2_with fail
    rw [HWB.out]
    refine wp_region_kept mixed (by kernel_rfl) (Sb.drew wb) ?_
    repeat (go_big_quiet_step (first | (go_at_call 63; with_reducible exact HC1.out _)))
    refine wpQuiet_nil ?_
    intro W2 hw2
    obtain ⟨p2, rfl⟩ := hw2
    go_wp2_with fail
    go_ret
    exact ⟨by simp, HBF.out p2⟩
  | true =>
    simp only [if_true, Bool.true_and]
    obtain ⟨rr, HRR⟩ : ∃ rr, Hid ((F m ||| x != F m) = rr) := ⟨_, (rfl : (F m ||| x != F m) = (F m ||| x != F m))⟩
    rw [HRR.out] at HWD ⊢
    go_enter Try.func62, Try.ntmps62
    go_wp2_with fail
    rw [HWB.out]
    refine wp_region_chain (S := Sb wb) [_, _, _, _, _, _, _, _, _, _, _, _, _, _] [_, _, _] mixed (by kernel_rfl) (Sb.drew wb) ?_
    simp only [List.cons_append, List.nil_append]
    repeat (go_big_quiet_step (first | (go_at_call 63; with_reducible exact HC1.out _) | (go_at_call 65; with_reducible exact HC2.out _)))
    refine wpQuiet_nil ?_
    intro p
    go_wp2_with fail
    refine (HWD.out p).mono ?_
    rintro _ w3 ⟨rfl, hw3⟩
    have HW3 : Hid (Fm (fun k => k = bf) W w3 ∧ Rw w3 bf n (upd F m (F m ||| x))) := by rw [hw3]; exact HW.out p
    clear hw3
    go_wp2_with fail
    go_ret
    exact ⟨by simp, HW3.out⟩
end Go.Proofs.Ytpbnnmfjahckmaa
