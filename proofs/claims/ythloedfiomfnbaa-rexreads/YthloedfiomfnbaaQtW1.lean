/-
  The contracts of pushref's text.peek and digit; what a text that is read is in memory. The contracts of pushref's digit and sign. A text that is read by the document's own reader: what its functions hand on; chars, plainly. Two trees of which the checks say the same; what the document's own reader hands on; its pair. The contract of alt, of the document's own reader. The contract of cat, of the document's own reader. The contract of weight. The contract of rep, of the document's own reader. The contract of char, of the document's own reader.
-/
import Derived.Test.YthloedfiomfnbaaPaAll
import Derived.Test.YthloedfiomfnbaaPaTree
import Derived.Deep.OwnRows
import Derived.Deep.Cut
import Derived.Test.YthloedfiomfnbaaPaAlt
import Derived.Test.YthloedfiomfnbaaRxKeep
import Derived.Test.YthloedfiomfnbaaPaRep
import Derived.LoopN
namespace Go.Proofs.Ythloedfiomfnbaa
open Go.RowKit
open Cls Txt

/-- A text that is read, in memory. -/
def Pt (g : Nat) (s : ByteArray) (i : Nat) (k : Value) (W : World) : Prop := W.heap[g]? = some (.cells #[.string s, .int .i64 (i : Int), k] 56)
theorem Pt.cells {g : Nat} {s : ByteArray} {i : Nat} {k : Value} {W : World} (h : Pt g s i k W) : (W.cell? ⟨g, 0, none⟩ = some (.string s) ∧ W.cell? ⟨g, 1, none⟩ = some (.int .i64 (i : Int)) ∧ W.cell? ⟨g, 2, none⟩ = some k) ∧ W.frozen? ⟨g, 0, none⟩ = false ∧ W.frozen? ⟨g, 1, none⟩ = false ∧ W.frozen? ⟨g, 2, none⟩ = false := by
  unfold Pt at h
  refine ⟨⟨?_, ?_, ?_⟩, ?_, ?_, ?_⟩ <;> simp [World.cell?, World.frozen?, h]
theorem Pt.lt {g : Nat} {s : ByteArray} {i : Nat} {k : Value} {W : World} (h : Pt g s i k W) : g < W.heap.size := by
  unfold Pt at h
  exact (Array.getElem?_eq_some_iff.1 h).1
theorem Pt.next {g : Nat} {s : ByteArray} {i : Nat} {k : Value} {W W' : World} (h : Pt g s i k W) (hb : Below W.heap.size W W') : Pt g s i k W' := (hb.block g h.lt).trans h
theorem Pt.set1 {g : Nat} {s : ByteArray} {i : Nat} {k : Value} {W : World} (h : Pt g s i k W) (j : Nat) : Pt g s j k (W.setCell ⟨g, 1, none⟩ (.int .i64 (j : Int))) := by
  unfold Pt at h ⊢
  simp only [World.setCell, Array.getElem?_modify, if_true, h]
  rfl
/-- The byte at which one is; -1 behind the last one. -/
def pk (s : ByteArray) (i : Nat) : Int := if i < s.size then (bt s i : Int) else -1
set_option maxHeartbeats 400000 in
theorem peek_any (g : Nat) (s : ByteArray) (i : Nat) (k : Value) (w : World) (hP : Pt g s i k w) :
    Calls Try.prog 40 #[.pointer (some ⟨g, 0, none⟩)] w fun e w' => e = .returned (.int .i64 (pk s i)) ∧ Below w.heap.size w w' := by
  obtain ⟨⟨c0, c1, _⟩, f0, f1, _⟩ := hP.cells
  go_enter Try.func40, Try.ntmps40
  by_cases h : i < s.size
  · have HB : Hid (pk s i = (s[i].toNat : Int)) := by show _ = _; unfold pk bt; rw [if_pos h, dif_pos h]
    have hb : decide (i < s.size) = true := decide_eq_true h
    have hw : IntKind.i64.wrap (s[i].toNat : Int) = (s[i].toNat : Int) := by have := (s[i]).toNat_lt; unfold IntKind.wrap; simp [IntKind.bits, IntKind.signed]; omega
    go_wp2_with (go_quiet (fail))
    go_ret
    exact ⟨by rw [HB.out]; rfl, below_drewN (below_drewN (Below.refl _ _) _) _⟩
  · have HB : Hid (pk s i = -1) := by show _ = _; unfold pk; rw [if_neg h]
    have hb : decide (i < s.size) = false := decide_eq_false h
    go_wp2_with (go_quiet (fail))
    go_ret
    exact ⟨by rw [HB.out]; rfl, below_drewN (Below.refl _ _) _⟩
set_option maxHeartbeats 400000 in
theorem wrong_any (g : Nat) (s : ByteArray) (i : Nat) (k : Value) (w : World) (hP : Pt g s i k w) :
    Calls Try.prog 29 #[.pointer (some ⟨g, 0, none⟩)] w fun e w' => e = .returned (.pointer (some ⟨w.heap.size, 0, none⟩)) ∧ w' = w.alloc (.cells #[.int .i64 6, .int .i64 (i : Int)] 62) := by
  obtain ⟨⟨c0, c1, _⟩, f0, f1, _⟩ := hP.cells
  go_enter Try.func29, Try.ntmps29
  go_wp2_with fail
  go_ret
  exact ⟨rfl, rfl⟩
end Go.Proofs.Ythloedfiomfnbaa

namespace Go.Proofs.Ythloedfiomfnbaa
open Go.RowKit
open Cls Txt

def dgI (b : Int) : Int := if 48 ≤ b ∧ b ≤ 57 then b - 48 else if 97 ≤ b ∧ b ≤ 102 then b - 87 else -1
set_option maxHeartbeats 800000 in
theorem digit_any (b : Int) (hb : -1 ≤ b ∧ b ≤ 255) (w : World) :
    Calls Try.prog 87 #[.int .i64 b] w fun e w' => e = .returned (.int .i64 (dgI b)) ∧ w' = w := by
  go_enter Try.func87, Try.ntmps87
  by_cases h1 : 48 ≤ b
  · by_cases h2 : b ≤ 57
    · have HD : Hid (dgI b = b - 48) := by show _ = _; unfold dgI; rw [if_pos ⟨h1, h2⟩]
      go_wp2_with fail
      go_ret
      exact ⟨by rw [HD.out]; rfl, rfl⟩
    · by_cases h3 : 97 ≤ b
      · by_cases h4 : b ≤ 102
        · have HD : Hid (dgI b = b - 97 + 10) := by show _ = _; unfold dgI; rw [if_neg (fun h => h2 h.2), if_pos ⟨h3, h4⟩]; omega
          go_wp2_with fail
          go_ret
          exact ⟨by rw [HD.out]; rfl, rfl⟩
        · have HD : Hid (dgI b = -1) := by show _ = _; unfold dgI; rw [if_neg (fun h => h2 h.2), if_neg (fun h => h4 h.2)]
          go_wp2_with fail
          go_ret
          exact ⟨by rw [HD.out]; rfl, rfl⟩
      · have HD : Hid (dgI b = -1) := by show _ = _; unfold dgI; rw [if_neg (fun h => h2 h.2), if_neg (fun h => h3 h.1)]
        go_wp2_with fail
        go_ret
        exact ⟨by rw [HD.out]; rfl, rfl⟩
  · have h3 : ¬ 97 ≤ b := by omega
    have HD : Hid (dgI b = -1) := by show _ = _; unfold dgI; rw [if_neg (fun h => h1 h.1), if_neg (fun h => h3 h.1)]
    go_wp2_with fail
    go_ret
    exact ⟨by rw [HD.out]; rfl, rfl⟩
def sgI (b : Int) : Bool := b == 40 || b == 41 || b == 91 || b == 93 || b == 124 || b == 42 || b == 43 || b == 63 || b == 46 || b == 94 || b == 45 || b == 92
set_option maxHeartbeats 2000000 in
theorem sgn_any (b : Int) (w : World) :
    Calls Try.prog 86 #[.int .i64 b] w fun e w' => e = .returned (.bool (sgI b)) ∧ w' = w := by
  go_enter Try.func86, Try.ntmps86
  cases g40 : (b == 40) with
  | true =>
    have HS : Hid (sgI b = true) := by show _ = _; unfold sgI; simp [g40]
    go_wp2_with fail
    go_ret
    exact ⟨ret_bool HS.out.symm, rfl⟩
  | false =>
  cases g41 : (b == 41) with
  | true =>
    have HS : Hid (sgI b = true) := by show _ = _; unfold sgI; simp [g41, g40]
    go_wp2_with fail
    go_ret
    exact ⟨ret_bool HS.out.symm, rfl⟩
  | false =>
  cases g91 : (b == 91) with
  | true =>
    have HS : Hid (sgI b = true) := by show _ = _; unfold sgI; simp [g91, g40, g41]
    go_wp2_with fail
    go_ret
    exact ⟨ret_bool HS.out.symm, rfl⟩
  | false =>
  cases g93 : (b == 93) with
  | true =>
    have HS : Hid (sgI b = true) := by show _ = _; unfold sgI; simp [g93, g40, g41, g91]
    go_wp2_with fail
    go_ret
    exact ⟨ret_bool HS.out.symm, rfl⟩
  | false =>
  cases g124 : (b == 124) with
  | true =>
    have HS : Hid (sgI b = true) := by show _ = _; unfold sgI; simp [g124, g40, g41, g91, g93]
    go_wp2_with fail
    go_ret
    exact ⟨ret_bool HS.out.symm, rfl⟩
  | false =>
  cases g42 : (b == 42) with
  | true =>
    have HS : Hid (sgI b = true) := by show _ = _; unfold sgI; simp [g42, g40, g41, g91, g93, g124]
    go_wp2_with fail
    go_ret
    exact ⟨ret_bool HS.out.symm, rfl⟩
  | false =>
  cases g43 : (b == 43) with
  | true =>
    have HS : Hid (sgI b = true) := by show _ = _; unfold sgI; simp [g43, g40, g41, g91, g93, g124, g42]
    go_wp2_with fail
    go_ret
    exact ⟨ret_bool HS.out.symm, rfl⟩
  | false =>
  cases g63 : (b == 63) with
  | true =>
    have HS : Hid (sgI b = true) := by show _ = _; unfold sgI; simp [g63, g40, g41, g91, g93, g124, g42, g43]
    go_wp2_with fail
    go_ret
    exact ⟨ret_bool HS.out.symm, rfl⟩
  | false =>
  cases g46 : (b == 46) with
  | true =>
    have HS : Hid (sgI b = true) := by show _ = _; unfold sgI; simp [g46, g40, g41, g91, g93, g124, g42, g43, g63]
    go_wp2_with fail
    go_ret
    exact ⟨ret_bool HS.out.symm, rfl⟩
  | false =>
  cases g94 : (b == 94) with
  | true =>
    have HS : Hid (sgI b = true) := by show _ = _; unfold sgI; simp [g94, g40, g41, g91, g93, g124, g42, g43, g63, g46]
    go_wp2_with fail
    go_ret
    exact ⟨ret_bool HS.out.symm, rfl⟩
  | false =>
  cases g45 : (b == 45) with
  | true =>
    have HS : Hid (sgI b = true) := by show _ = _; unfold sgI; simp [g45, g40, g41, g91, g93, g124, g42, g43, g63, g46, g94]
    go_wp2_with fail
    go_ret
    exact ⟨ret_bool HS.out.symm, rfl⟩
  | false =>
  cases g92 : (b == 92) with
  | true =>
    have HS : Hid (sgI b = true) := by show _ = _; unfold sgI; simp [g92, g40, g41, g91, g93, g124, g42, g43, g63, g46, g94, g45]
    go_wp2_with fail
    go_ret
    exact ⟨ret_bool HS.out.symm, rfl⟩
  | false =>
  have HS : Hid (sgI b = false) := by show _ = _; unfold sgI; simp [g40, g41, g91, g93, g124, g42, g43, g63, g46, g94, g45, g92]
  go_wp2_with fail
  go_ret
  exact ⟨ret_bool HS.out.symm, rfl⟩
end Go.Proofs.Ythloedfiomfnbaa

namespace Go.Proofs.Ythloedfiomfnbaa
open Go.RowKit
open Cls Rex Txt

/-- All blocks but those of X stay. -/
structure Fm (X : Nat → Prop) (W W' : World) : Prop where
  os : W'.os = W.os
  tape : W'.tape = W.tape
  output : W'.output = W.output
  size : W.heap.size ≤ W'.heap.size
  block : ∀ k, k < W.heap.size → ¬ X k → W'.heap[k]? = W.heap[k]?
theorem Fm.refl (X : Nat → Prop) (W : World) : Fm X W W := ⟨rfl, rfl, rfl, Nat.le_refl _, fun _ _ _ => rfl⟩
theorem Fm.trans {X Y : Nat → Prop} {W W' W'' : World} (h : Fm X W W') (k : Fm Y W' W'') (hy : ∀ q, q < W.heap.size → Y q → X q) : Fm X W W'' :=
  ⟨k.os.trans h.os, k.tape.trans h.tape, k.output.trans h.output, Nat.le_trans h.size k.size, fun q hq hx => (k.block q (Nat.lt_of_lt_of_le hq h.size) fun e => hx (hy q hq e)).trans (h.block q hq hx)⟩
theorem Fm.of {X : Nat → Prop} {W W' : World} (h : Below W.heap.size W W') : Fm X W W' := ⟨h.os, h.tape, h.output, h.size, fun k hk _ => h.block k hk⟩
theorem Fm.cell {X : Nat → Prop} {W W' : World} (h : Fm X W W') {p : Addr} (hp : p.block < W.heap.size) (hx : ¬ X p.block) : W'.cell? p = W.cell? p := World.cell?_of_block (w := W) (h.block _ hp hx)
theorem Fm.below {X : Nat → Prop} {W W' : World} (h : Fm X W W') {B : Nat} (hB : B ≤ W.heap.size) (hx : ∀ k, X k → B ≤ k) : Below B W W' :=
  ⟨h.os, h.tape, h.output, h.size, fun k hk => h.block k (by omega) fun e => by have := hx k e; omega⟩
theorem Fm.set {X : Nat → Prop} {W : World} {b i : Nat} (v : Value) (hx : X b) : Fm X W (W.setCell ⟨b, i, none⟩ v) :=
  ⟨rfl, rfl, rfl, by simp, fun k _ hk => Go.Deep.blk_setCell_other _ _ _ _ fun e => hk (by rw [e]; exact hx)⟩
theorem Fm.mono {X Y : Nat → Prop} {W W' : World} (h : Fm X W W') (hy : ∀ q, X q → Y q) : Fm Y W W' := ⟨h.os, h.tape, h.output, h.size, fun k hk hx => h.block k hk fun e => hx (hy k e)⟩

theorem Pt.other {X : Nat → Prop} {g : Nat} {s : ByteArray} {i : Nat} {k : Value} {W W' : World} (h : Pt g s i k W) (hf : Fm X W W') (hx : ¬ X g) : Pt g s i k W' := (hf.block g h.lt hx).trans h
theorem Pt.set2 {g : Nat} {s : ByteArray} {i : Nat} {k : Value} {W : World} (h : Pt g s i k W) (v : Value) : Pt g s i v (W.setCell ⟨g, 2, none⟩ v) := by
  unfold Pt at h ⊢
  simp only [World.setCell, Array.getElem?_modify, if_true, h]
  rfl
/-- A stop, in memory. -/
def St (st : Nat) (e i : Nat) (W : World) : Prop := W.heap[st]? = some (.cells #[.int .i64 (e : Int), .int .i64 (i : Int)] 62)
theorem St.lt {st e i : Nat} {W : World} (h : St st e i W) : st < W.heap.size := (Array.getElem?_eq_some_iff.1 h).1
theorem St.keep {X : Nat → Prop} {st e i : Nat} {W W' : World} (h : St st e i W) (hf : Fm X W W') (hx : ¬ X st) : St st e i W' := (hf.block st h.lt hx).trans h
theorem St.new (W : World) (e i : Nat) : St W.heap.size e i (W.alloc (.cells #[.int .i64 (e : Int), .int .i64 (i : Int)] 62)) := heap_alloc_new W _
theorem bal_ (w : World) (o : Obj) : Below w.heap.size w (w.alloc o) := (Below.refl _ _).alloc (Nat.le_refl _) o
/-- What char answers. -/
def QN (s : ByteArray) (g : Nat) (k : Value) (w : World) (r : Nat × Nat × Nat) (e : Ending) (w' : World) : Prop :=
  Fm (fun b => b = g) w w' ∧ ((r.2.2 = 0 ∧ e = .returned (.tuple #[.int .i64 (r.1 : Int), .pointer none]) ∧ Pt g s r.2.1 k w') ∨ (r.2.2 ≠ 0 ∧ ∃ st, e = .returned (.tuple #[.int .i64 0, .pointer (some ⟨st, 0, none⟩)]) ∧ St st r.2.2 r.2.1 w' ∧ w.heap.size ≤ st ∧ ∃ z : Int, w'.heap[g]? = some (.cells #[.string s, .int .i64 z, k] 56)))
theorem pk_is (s : ByteArray) (i c : Nat) (hc : c ≠ 0) : pk s i = (c : Int) ↔ bt s i = c := by
  unfold pk
  by_cases h : i < s.size
  · rw [if_pos h]; omega
  · rw [if_neg h]
    have : bt s i = 0 := by unfold bt; rw [dif_neg h]
    omega
theorem pk_in (s : ByteArray) (i : Nat) : -1 ≤ pk s i ∧ pk s i ≤ 255 := by
  unfold pk
  have := bt_lt s i
  split <;> omega
theorem pk_bt (s : ByteArray) (i : Nat) (h : 0 < pk s i) : pk s i = (bt s i : Int) := by
  unfold pk at *
  split
  · rfl
  · rename_i h2; rw [if_neg h2] at h; omega
theorem pk_low (s : ByteArray) (i : Nat) (c : Nat) (hc : 0 < c) : pk s i < (c : Int) ↔ bt s i < c := by
  unfold pk
  by_cases h : i < s.size
  · rw [if_pos h]; omega
  · rw [if_neg h]
    have : bt s i = 0 := by unfold bt; rw [dif_neg h]
    omega
theorem sg_all : ∀ b : Fin 256, sgI (b.val : Int) = signs.contains b.val := by decide +kernel
theorem sg_pk (s : ByteArray) (i : Nat) : sgI (pk s i) = signs.contains (bt s i) := by
  unfold pk
  by_cases h : i < s.size
  · rw [if_pos h]; exact sg_all ⟨bt s i, bt_lt s i⟩
  · rw [if_neg h]
    have : bt s i = 0 := by unfold bt; rw [dif_neg h]
    rw [this]; decide
theorem dg_pk (s : ByteArray) (i : Nat) : dgI (pk s i) = dg (bt s i) := by
  unfold pk
  by_cases h : i < s.size
  · rw [if_pos h]; unfold dgI dg
    by_cases h1 : 48 ≤ bt s i ∧ bt s i ≤ 57
    · rw [if_pos h1, if_pos (by omega)]
    · rw [if_neg h1, if_neg (by omega)]
      by_cases h2 : 97 ≤ bt s i ∧ bt s i ≤ 102
      · rw [if_pos h2, if_pos (by omega)]
      · rw [if_neg h2, if_neg (by omega)]
  · rw [if_neg h]
    have : bt s i = 0 := by unfold bt; rw [dif_neg h]
    rw [this]; decide
end Go.Proofs.Ythloedfiomfnbaa

namespace Go.Proofs.Ythloedfiomfnbaa
open Go.RowKit
open Cls Rex Txt

/-- The checks say the same of both; and either they are one tree, or the checks refuse it wherever it stands. -/
def Al (t t' : T) : Prop := (∀ d n, chk t' d n = chk t d n) ∧ (t' = t ∨ ∀ d n, (chk t d n).1 ≠ 0)
theorem Al.refl (t : T) : Al t t := ⟨fun _ _ => rfl, Or.inl rfl⟩
theorem bad_kids {k : Int} {c : Cl} {l : List T} (h : ∀ d n, (chkL l d n).1 ≠ 0) : ∀ d n, (chk (.mk k c l) d n).1 ≠ 0 := by
  intro d n
  rw [chk]
  split
  · simp
  · split
    · simp
    · split
      · exact h _ _
      · simp
theorem bad_head {t : T} {l : List T} (h : ∀ d n, (chk t d n).1 ≠ 0) : ∀ d n, (chkL (t :: l) d n).1 ≠ 0 := by
  intro d n
  rw [chkL, if_neg (h d n)]
  exact h d n
theorem bad_tail {t : T} {l : List T} (h : ∀ d n, (chkL l d n).1 ≠ 0) : ∀ d n, (chkL (t :: l) d n).1 ≠ 0 := by
  intro d n
  rw [chkL]
  split
  · exact h _ _
  · assumption
theorem al_one (k : Int) (c : Cl) {t t' : T} (h : Al t t') : Al (.mk k c [t]) (.mk k c [t']) := by
  refine ⟨fun d n => ?_, ?_⟩
  · simp only [chk, chkL, h.1, List.length_cons, List.length_nil]
  · rcases h.2 with rfl | hb
    · exact Or.inl rfl
    · exact Or.inr (bad_kids (bad_head hb))
theorem al_two (k : Int) (c : Cl) {t t' u u' : T} (h : Al t t') (h2 : Al u u') : Al (.mk k c [t, u]) (.mk k c [t', u']) := by
  refine ⟨fun d n => ?_, ?_⟩
  · simp only [chk, chkL, h.1, h2.1, List.length_cons, List.length_nil]
  · rcases h.2 with rfl | hb
    · rcases h2.2 with rfl | hb
      · exact Or.inl rfl
      · exact Or.inr (bad_kids (bad_tail (bad_head hb)))
    · exact Or.inr (bad_kids (bad_head hb))
theorem al_plus {t t' : T} (h : Al t t') (hb : ∀ d n, (chk t' d n).1 ≠ 0) (X X' : T) : Al (.mk 4 Cls.empty [t, X]) (.mk 4 Cls.empty [t', X']) := by
  have hb2 : ∀ d n, (chk t d n).1 ≠ 0 := fun d n => by rw [← h.1]; exact hb d n
  refine ⟨fun d n => ?_, Or.inr (bad_kids (bad_head hb2))⟩
  have : ∀ d n, chkL [t', X'] d n = chkL [t, X] d n := fun d n => by
    have e1 : chkL [t', X'] d n = chk t' d n := by rw [chkL, if_neg (hb d n)]
    have e2 : chkL [t, X] d n = chk t d n := by rw [chkL, if_neg (hb2 d n)]
    rw [e1, e2, h.1]
  simp only [chk, this, List.length_cons, List.length_nil]
mutual
/-- What a tree weighs, behind n nodes; no further than 102. -/
def wt : T → Nat → Nat
  | .mk _ _ kids, n => wtL kids (n + 1)
def wtL : List T → Nat → Nat
  | [], n => n
  | t :: ts, n => if n ≤ 101 then wtL ts (wt t n) else n
end
mutual
theorem wt_chk : ∀ (t : T) (d n m : Nat), (chk t d n).1 = 0 → wt t m + n ≤ m + (chk t d n).2 ∧ n ≤ (chk t d n).2
  | .mk k c kids, d, n, m, h => by
    rw [wt]
    rw [chk] at h ⊢
    split at h
    · simp at h
    · rename_i h1
      split at h
      · simp at h
      · rename_i h2
        split at h
        · rename_i h3
          rw [if_neg h1, if_neg h2, if_pos h3]
          have := wtL_chk kids (d + 1) (n + 1) (m + 1) h
          omega
        · simp at h
theorem wtL_chk : ∀ (l : List T) (d n m : Nat), (chkL l d n).1 = 0 → wtL l m + n ≤ m + (chkL l d n).2 ∧ n ≤ (chkL l d n).2
  | [], d, n, m, h => by simp [chkL, wtL]
  | t :: ts, d, n, m, h => by
    rw [chkL] at h ⊢
    split at h
    · rename_i h1
      rw [if_pos h1]
      have a := wt_chk t d n m h1
      have b := wtL_chk ts d (chk t d n).2 (wt t m) h
      rw [wtL]
      split <;> omega
    · exact absurd h ‹_›
end
theorem wt_big {t : T} (h : 100 < wt t 0) : ∀ d n, (chk t d n).1 ≠ 0 := by
  intro d n e
  have h1 := wt_chk t d n 0 e
  obtain ⟨_, _, _, h2, _⟩ := chk_right (t := t) (d := d) (n := n) (n' := (chk t d n).2) (Prod.ext e rfl)
  omega
mutual
theorem wt_le : ∀ (t : T) (n : Nat), n ≤ 101 → wt t n ≤ 102
  | .mk _ _ kids, n, h => by rw [wt]; exact wtL_le kids (n + 1) (by omega)
theorem wtL_le : ∀ (l : List T) (n : Nat), n ≤ 102 → wtL l n ≤ 102
  | [], n, h => by rw [wtL]; exact h
  | t :: ts, n, h => by
    rw [wtL]
    split
    · exact wtL_le ts _ (wt_le t n (by assumption))
    · exact h
end
theorem Pt.pos {g : Nat} {s : ByteArray} {i : Nat} {k : Value} {W : World} (h : Pt g s i k W) : posOf g W = i := by
  unfold posOf; rw [h.cells.1.2.1]; simp
/-- A text's reader, wherever it is. -/
def Pq (g : Nat) (s : ByteArray) (k : Value) (W : World) : Prop := ∃ z : Int, W.heap[g]? = some (.cells #[.string s, .int .i64 z, k] 56)
theorem Pt.any {g : Nat} {s : ByteArray} {i : Nat} {k : Value} {W : World} (h : Pt g s i k W) : Pq g s k W := ⟨_, h⟩
theorem Pq.keep {X : Nat → Prop} {g : Nat} {s : ByteArray} {k : Value} {W W' : World} (h : Pq g s k W) (hf : Fm X W W') (hx : ¬ X g) : Pq g s k W' := by
  obtain ⟨z, hz⟩ := h
  exact ⟨z, (hf.block g (Array.getElem?_eq_some_iff.1 hz).1 hx).trans hz⟩
/-- What is known of a tree and a stop that were handed on; A: where the tree's rows lie. -/
def QB (s : ByteArray) (g : Nat) (k : Value) (B : Nat) (A : Nat → Prop) (r : Res) (q : R6) (b : Option Addr) (W : World) : Prop :=
  (r.2.2 = 0 ∧ b = none ∧ (∃ t', Al r.1 t' ∧ Ry W A (v6 q) t') ∧ Pt g s r.2.1 k W) ∨ (r.2.2 ≠ 0 ∧ ∃ st, b = some ⟨st, 0, none⟩ ∧ St st r.2.2 r.2.1 W ∧ B ≤ st ∧ Pq g s k W)
/-- What a function of the document's own reader is to do. -/
def QC (f : FuncId) (s : ByteArray) (k : Value) (R : Nat → Res) : Prop := ∀ (g i : Nat) (w : World), Pt g s i k w → i ≤ s.size → Calls Try.prog f #[.pointer (some ⟨g, 0, none⟩)] w fun e w' => ∃ (q : R6) (b : Option Addr), e = .returned (.tuple #[.agg #[.int .i64 q.1, .int .u64 (q.2.1.1.toNat : Int), .int .u64 (q.2.1.2.1.toNat : Int), .int .u64 (q.2.1.2.2.1.toNat : Int), .int .u64 (q.2.1.2.2.2.toNat : Int), .slice q.2.2.1 q.2.2.2.1 q.2.2.2.2], .pointer b]) ∧ Fm (fun b => b = g) w w' ∧ QB s g k w.heap.size (fun b => w.heap.size ≤ b ∧ b < w'.heap.size) (R i) q b w'
/-- What was handed on stays, where what it is in stays. -/
theorem QB.move {s : ByteArray} {g : Nat} {k : Value} {B B' : Nat} {A A' : Nat → Prop} {r : Res} {q : R6} {b : Option Addr} {W W' : World} (h : QB s g k B A r q b W) (hB : B' ≤ B) (hA : ∀ x, A x → A' x) (hg : W'.heap[g]? = W.heap[g]?) (h1 : ∀ x, A x → W'.heap[x]? = W.heap[x]?) (h2 : ∀ x u v, St x u v W → B ≤ x → W'.heap[x]? = W.heap[x]?) : QB s g k B' A' r q b W' := by
  rcases h with ⟨he, hb, ⟨t', ha, hr⟩, hp⟩ | ⟨he, st, hb, hs, hst, ⟨z, hz⟩⟩
  · exact Or.inl ⟨he, hb, ⟨t', ha, hr.move hA h1⟩, hg.trans hp⟩
  · exact Or.inr ⟨he, st, hb, (h2 st _ _ hs hst).trans hs, Nat.le_trans hB hst, z, hg.trans hz⟩
theorem st_ne {W : World} {st e i n : Nat} {z : Array Value} (h : St st e i W) (hn : W.heap[n]? = some (.cells z 27)) : st ≠ n := by
  rintro rfl
  unfold St at h
  rw [hn] at h
  injection h with h; injection h with _ h2; cases h2
theorem sc_os (W : World) (p : Addr) (v : Value) : (W.setCell p v).os = W.os := rfl
theorem put6_os (W : World) (b : Nat) (v0 v1 v2 v3 v4 v5 : Value) : (put6 W b v0 v1 v2 v3 v4 v5).os = W.os := by unfold put6; simp only [sc_os]
theorem sc_tape (W : World) (p : Addr) (v : Value) : (W.setCell p v).tape = W.tape := rfl
theorem put6_tape (W : World) (b : Nat) (v0 v1 v2 v3 v4 v5 : Value) : (put6 W b v0 v1 v2 v3 v4 v5).tape = W.tape := by unfold put6; simp only [sc_tape]
theorem sc_output (W : World) (p : Addr) (v : Value) : (W.setCell p v).output = W.output := rfl
theorem put6_output (W : World) (b : Nat) (v0 v1 v2 v3 v4 v5 : Value) : (put6 W b v0 v1 v2 v3 v4 v5).output = W.output := by unfold put6; simp only [sc_output]
/-- What holds at a loop's head. -/
structure LQ (g : Nat) (s : ByteArray) (k : Value) (w : World) (n m : Nat) (x : Res) (q : R6) (b : Option Addr) (W : World) : Prop where
  gr : Fm (fun b => b = g) w W
  bn : W.heap[n]? = some (.cells #[.int .i64 0, .int .u64 0, .int .u64 0, .int .u64 0, .int .u64 0, .slice none 0 0] 27)
  bm : W.heap[m]? = some (.cells #[.int .i64 q.1, .int .u64 (q.2.1.1.toNat : Int), .int .u64 (q.2.1.2.1.toNat : Int), .int .u64 (q.2.1.2.2.1.toNat : Int), .int .u64 (q.2.1.2.2.2.toNat : Int), .slice q.2.2.1 q.2.2.2.1 q.2.2.2.2] 27)
  qb : QB s g k w.heap.size (fun b => w.heap.size ≤ b ∧ b ≠ n ∧ b ≠ m ∧ b < W.heap.size) x q b W
def restQ (g : Nat) (s : ByteArray) (v : Value) (W : World) : Nat := match v with | .pointer none => s.size + 1 - posOf g W | _ => 0
theorem restQ_eq {s : ByteArray} {g : Nat} {k : Value} {B : Nat} {A : Nat → Prop} {r : Res} {q : R6} {b : Option Addr} {W : World} (h : QB s g k B A r q b W) : restQ g s (.pointer b) W = rest s r := by
  rcases h with ⟨he, rfl, -, hp⟩ | ⟨he, st, rfl, -⟩
  · unfold restQ rest; rw [if_pos he]; simp only [hp.pos]
  · unfold restQ rest; rw [if_neg he]
/-- The loop begins. -/
theorem LQ.start {g : Nat} {s : ByteArray} {k : Value} {w W0 w1 W2 : World} {x : Res} {q : R6} {b : Option Addr} (hlt : g < w.heap.size) (h0 : w.alloc (.cells #[.int .i64 0, .int .u64 0, .int .u64 0, .int .u64 0, .int .u64 0, .slice none 0 0] 27) = W0) (hf : Fm (fun b => b = g) W0 w1) (hq : QB s g k W0.heap.size (fun b => W0.heap.size ≤ b ∧ b < w1.heap.size) x q b w1) (h2 : w1.alloc (.cells #[.int .i64 q.1, .int .u64 (q.2.1.1.toNat : Int), .int .u64 (q.2.1.2.1.toNat : Int), .int .u64 (q.2.1.2.2.1.toNat : Int), .int .u64 (q.2.1.2.2.2.toNat : Int), .slice q.2.2.1 q.2.2.2.1 q.2.2.2.2] 27) = W2) : LQ g s k w w.heap.size w1.heap.size x q b W2 := by
  have s0 : W0.heap.size = w.heap.size + 1 := by rw [← h0]; simp
  have s1 := hf.size
  have b0 : Below w.heap.size w W0 := h0 ▸ bal_ _ _
  have b2 : Below w1.heap.size w1 W2 := h2 ▸ bal_ _ _
  have s2 : W2.heap.size = w1.heap.size + 1 := by rw [← h2]; simp
  refine ⟨((Fm.of b0).trans hf fun _ _ e => e).trans (Fm.of (X := fun b => b = g) b2) fun _ _ e => e, ?_, ?_, ?_⟩
  · rw [b2.block _ (by omega), hf.block _ (by omega) (by omega), ← h0]; exact block_new w _
  · rw [← h2]; exact block_new w1 _
  · refine hq.move (by omega) (fun x hx => ⟨by omega, by omega, by omega, by omega⟩) (b2.block g (by omega)) (fun x hx => b2.block x hx.2) (fun x u v hs _ => b2.block x hs.lt)
/-- The kids are paired. -/
theorem LQ.step {g : Nat} {s : ByteArray} {k : Value} {w : World} {n m : Nat} {x y : Res} {q u : R6} {b : Option Addr} {wa wb wc wd wf wz : World} {t' : T} {b2 : Nat} (kd : Int) (hkd : -9223372036854775808 ≤ kd ∧ kd ≤ 9223372036854775807)
    (hgr : Fm (fun b => b = g) w wa) (hbn : wa.heap[n]? = some (.cells #[.int .i64 0, .int .u64 0, .int .u64 0, .int .u64 0, .int .u64 0, .slice none 0 0] 27)) (hbm : wa.heap[m]? = some (.cells #[.int .i64 q.1, .int .u64 (q.2.1.1.toNat : Int), .int .u64 (q.2.1.2.1.toNat : Int), .int .u64 (q.2.1.2.2.1.toNat : Int), .int .u64 (q.2.1.2.2.2.toNat : Int), .slice q.2.2.1 q.2.2.2.1 q.2.2.2.2] 27)) (hal : Al x.1 t') (hry : Ry wa (fun b => w.heap.size ≤ b ∧ b ≠ n ∧ b ≠ m ∧ b < wa.heap.size) (v6 q) t')
    (hlt : g < w.heap.size) (hnw : w.heap.size ≤ n) (hmw : w.heap.size ≤ m) (hnm : n ≠ m)
    (hb : wa.alloc (.cells #[.int .i64 0, .int .u64 0, .int .u64 0, .int .u64 0, .int .u64 0, .slice none 0 0] 27) = wb) (hf : Fm (fun b => b = g) wb wc) (hq : QB s g k wb.heap.size (fun b => wb.heap.size ≤ b ∧ b < wc.heap.size) y u b wc)
    (hd : put6 wc wa.heap.size (.int .i64 u.1) (.int .u64 (u.2.1.1.toNat : Int)) (.int .u64 (u.2.1.2.1.toNat : Int)) (.int .u64 (u.2.1.2.2.1.toNat : Int)) (.int .u64 (u.2.1.2.2.2.toNat : Int)) (.slice u.2.2.1 u.2.2.2.1 u.2.2.2.2) = wd) (hB : Below wd.heap.size wd wf) (hb2 : wd.heap.size ≤ b2) (hf2 : wf.heap[b2]? = some (.cells #[.int .i64 q.1, .int .u64 (q.2.1.1.toNat : Int), .int .u64 (q.2.1.2.1.toNat : Int), .int .u64 (q.2.1.2.2.1.toNat : Int), .int .u64 (q.2.1.2.2.2.toNat : Int), .slice q.2.2.1 q.2.2.2.1 q.2.2.2.2, .int .i64 u.1, .int .u64 (u.2.1.1.toNat : Int), .int .u64 (u.2.1.2.1.toNat : Int), .int .u64 (u.2.1.2.2.1.toNat : Int), .int .u64 (u.2.1.2.2.2.toNat : Int), .slice u.2.2.1 u.2.2.2.1 u.2.2.2.2] 27)) (hz : put6 wf m (.int .i64 kd) (.int .u64 0) (.int .u64 0) (.int .u64 0) (.int .u64 0) (.slice (some ⟨b2, 0, none⟩) 2 2) = wz) :
    LQ g s k w n m (.mk kd Cls.empty [x.1, y.1], y.2) (kd, Cls.empty, some ⟨b2, 0, none⟩, 2, 2) b wz := by
  have sb : wb.heap.size = wa.heap.size + 1 := by rw [← hb]; simp
  have b0 : Below wa.heap.size wa wb := hb ▸ bal_ _ _
  have hna := in_heap hbn
  have hma := in_heap hbm
  have sa := hgr.size
  have sc := hf.size
  have sd : wd.heap.size = wc.heap.size := by rw [← hd]; exact put6_size _ _ _ _ _ _ _ _
  have sf := hB.size
  have hb2f := in_heap hf2
  have gsz : wz.heap.size = wf.heap.size := by rw [← hz]; exact put6_size _ _ _ _ _ _ _ _
  have fo : ∀ z, z ≠ m → wz.heap[z]? = wf.heap[z]? := fun z hzm => by rw [← hz]; exact put6_other wf m _ _ _ _ _ _ z hzm
  have fc : ∀ z, z < wc.heap.size → z ≠ wa.heap.size → wf.heap[z]? = wc.heap[z]? := fun z hz hn => by
    rw [hB.block z (by omega), ← hd]; exact put6_other _ _ _ _ _ _ _ _ z hn
  have fa : ∀ z, z < wa.heap.size → z ≠ g → wf.heap[z]? = wa.heap[z]? := fun z hz hn => by
    rw [fc z (by omega) (by omega), hf.block z (by omega) hn, b0.block z hz]
  refine ⟨⟨?_, ?_, ?_, by omega, ?_⟩, ?_, ?_, ?_⟩
  · have e1 : wd.os = wc.os := by rw [← hd, put6_os]
    exact (show wz.os = w.os by rw [← hz, put6_os, hB.os, e1, hf.os, b0.os, hgr.os])
  · have e1 : wd.tape = wc.tape := by rw [← hd, put6_tape]
    exact (show wz.tape = w.tape by rw [← hz, put6_tape, hB.tape, e1, hf.tape, b0.tape, hgr.tape])
  · have e1 : wd.output = wc.output := by rw [← hd, put6_output]
    exact (show wz.output = w.output by rw [← hz, put6_output, hB.output, e1, hf.output, b0.output, hgr.output])
  · intro z hz hn
    rw [fo z (by omega), fa z (by omega) hn]
    exact hgr.block z hz hn
  · rw [fo n hnm, fa n hna (by omega)]; exact hbn
  · rw [← hz]; exact put6_at (by rw [fa m hma (by omega)]; exact hbm) _ _ _ _ _ _
  · have h1 : wz.heap[b2]? = some (.cells #[.int .i64 q.1, .int .u64 (q.2.1.1.toNat : Int), .int .u64 (q.2.1.2.1.toNat : Int), .int .u64 (q.2.1.2.2.1.toNat : Int), .int .u64 (q.2.1.2.2.2.toNat : Int), .slice q.2.2.1 q.2.2.2.1 q.2.2.2.2, .int .i64 u.1, .int .u64 (u.2.1.1.toNat : Int), .int .u64 (u.2.1.2.1.toNat : Int), .int .u64 (u.2.1.2.2.1.toNat : Int), .int .u64 (u.2.1.2.2.2.toNat : Int), .slice u.2.2.1 u.2.2.2.1 u.2.2.2.2] 27) := by rw [fo b2 (by omega)]; exact hf2
    have hgc : wz.heap[g]? = wc.heap[g]? := by rw [fo g (by omega), fc g (by omega) (by omega)]
    rcases hq with ⟨he, hbb, ⟨u', hal2, hry2⟩, hp⟩ | ⟨he, st, hbb, hst, hsb, ⟨z, hzz⟩⟩
    · refine Or.inl ⟨he, hbb, ⟨_, al_two kd Cls.empty hal hal2, ?_⟩, hgc.trans hp⟩
      refine Ry.two kd hkd h1 ⟨by omega, by omega, by omega, by omega⟩ ?_ ?_
      · exact hry.move (fun z hz => ⟨hz.1, hz.2.1, hz.2.2.1, by omega⟩) (fun z hz => by rw [fo z hz.2.2.1]; exact fa z hz.2.2.2 (by omega))
      · exact hry2.move (fun z hz => ⟨by omega, by omega, by omega, by omega⟩) (fun z hz => by rw [fo z (by omega)]; exact fc z hz.2 (by omega))
    · have hsl := hst.lt
      refine Or.inr ⟨he, st, hbb, ?_, by omega, z, hgc.trans hzz⟩
      unfold St
      rw [fo st (by omega), fc st hsl (by omega)]
      exact hst
/-- The loop's end. -/
theorem LQ.done {g : Nat} {s : ByteArray} {k : Value} {w : World} {n m : Nat} {x : Res} {q : R6} {b : Option Addr} {W wz : World} (h : LQ g s k w n m x q b W) (hlt : g < w.heap.size) (hnw : w.heap.size ≤ n) (hz : put6 W n (.int .i64 q.1) (.int .u64 (q.2.1.1.toNat : Int)) (.int .u64 (q.2.1.2.1.toNat : Int)) (.int .u64 (q.2.1.2.2.1.toNat : Int)) (.int .u64 (q.2.1.2.2.2.toNat : Int)) (.slice q.2.2.1 q.2.2.2.1 q.2.2.2.2) = wz) : Fm (fun b => b = g) w wz ∧ QB s g k w.heap.size (fun z => w.heap.size ≤ z ∧ z < wz.heap.size) x q b wz := by
  have sz : wz.heap.size = W.heap.size := by rw [← hz]; exact put6_size _ _ _ _ _ _ _ _
  have fo : ∀ z, z ≠ n → wz.heap[z]? = W.heap[z]? := fun z hzn => by rw [← hz]; exact put6_other W n _ _ _ _ _ _ z hzn
  refine ⟨⟨by rw [← hz, put6_os]; exact h.gr.os, by rw [← hz, put6_tape]; exact h.gr.tape, by rw [← hz, put6_output]; exact h.gr.output, by have := h.gr.size; omega, fun z hz hn => by rw [fo z (by omega)]; exact h.gr.block z hz hn⟩, ?_⟩
  exact h.qb.move (Nat.le_refl _) (fun z hz => ⟨hz.1, by omega⟩) (fo g (by omega)) (fun z hz => fo z hz.2.1) (fun z u v hs hz => fo z (st_ne hs h.bn))
set_option maxHeartbeats 6400000 in
set_option maxRecDepth 20000 in
theorem rpair_any (k : Int) (q p : R6) (w : World) :
    Calls Try.prog 41 #[.int .i64 k, .agg #[.int .i64 q.1, .int .u64 (q.2.1.1.toNat : Int), .int .u64 (q.2.1.2.1.toNat : Int), .int .u64 (q.2.1.2.2.1.toNat : Int), .int .u64 (q.2.1.2.2.2.toNat : Int), .slice q.2.2.1 q.2.2.2.1 q.2.2.2.2], .agg #[.int .i64 p.1, .int .u64 (p.2.1.1.toNat : Int), .int .u64 (p.2.1.2.1.toNat : Int), .int .u64 (p.2.1.2.2.1.toNat : Int), .int .u64 (p.2.1.2.2.2.toNat : Int), .slice p.2.2.1 p.2.2.2.1 p.2.2.2.2]] w fun e w' => ∃ b : Nat, e = .returned (.agg #[.int .i64 k, .int .u64 0, .int .u64 0, .int .u64 0, .int .u64 0, .slice (some ⟨b, 0, none⟩) 2 2]) ∧ w.heap.size ≤ b ∧ w'.heap[b]? = some (.cells #[.int .i64 q.1, .int .u64 (q.2.1.1.toNat : Int), .int .u64 (q.2.1.2.1.toNat : Int), .int .u64 (q.2.1.2.2.1.toNat : Int), .int .u64 (q.2.1.2.2.2.toNat : Int), .slice q.2.2.1 q.2.2.2.1 q.2.2.2.2, .int .i64 p.1, .int .u64 (p.2.1.1.toNat : Int), .int .u64 (p.2.1.2.1.toNat : Int), .int .u64 (p.2.1.2.2.1.toNat : Int), .int .u64 (p.2.1.2.2.2.toNat : Int), .slice p.2.2.1 p.2.2.2.1 p.2.2.2.2] 27) ∧ Below w.heap.size w w' := by
  have e1 : ((w.alloc (Obj.cells #[.int .i64 q.1, .int .u64 (q.2.1.1.toNat : Int), .int .u64 (q.2.1.2.1.toNat : Int), .int .u64 (q.2.1.2.2.1.toNat : Int), .int .u64 (q.2.1.2.2.2.toNat : Int), .slice q.2.2.1 q.2.2.2.1 q.2.2.2.2] 27)).alloc (Obj.cells #[.int .i64 p.1, .int .u64 (p.2.1.1.toNat : Int), .int .u64 (p.2.1.2.1.toNat : Int), .int .u64 (p.2.1.2.2.1.toNat : Int), .int .u64 (p.2.1.2.2.2.toNat : Int), .slice p.2.2.1 p.2.2.2.1 p.2.2.2.2] 27)).heap.size = w.heap.size + 1 + 1 := by simp
  have e2 : (((w.alloc (Obj.cells #[.int .i64 q.1, .int .u64 (q.2.1.1.toNat : Int), .int .u64 (q.2.1.2.1.toNat : Int), .int .u64 (q.2.1.2.2.1.toNat : Int), .int .u64 (q.2.1.2.2.2.toNat : Int), .slice q.2.2.1 q.2.2.2.1 q.2.2.2.2] 27)).alloc (Obj.cells #[.int .i64 p.1, .int .u64 (p.2.1.1.toNat : Int), .int .u64 (p.2.1.2.1.toNat : Int), .int .u64 (p.2.1.2.2.1.toNat : Int), .int .u64 (p.2.1.2.2.2.toNat : Int), .slice p.2.2.1 p.2.2.2.1 p.2.2.2.2] 27)).alloc (Obj.cells #[.int .i64 k, .int .u64 0, .int .u64 0, .int .u64 0, .int .u64 0, .slice (some ⟨w.heap.size + 1 + 1 + 1, 0, none⟩) 2 2] 27)).heap.size = w.heap.size + 1 + 1 + 1 := by simp
  have rq := (((row_of6 w (.int .i64 q.1) (.int .u64 (q.2.1.1.toNat : Int)) (.int .u64 (q.2.1.2.1.toNat : Int)) (.int .u64 (q.2.1.2.2.1.toNat : Int)) (.int .u64 (q.2.1.2.2.2.toNat : Int)) (.slice q.2.2.1 q.2.2.2.1 q.2.2.2.2)).alloc (Obj.cells #[.int .i64 p.1, .int .u64 (p.2.1.1.toNat : Int), .int .u64 (p.2.1.2.1.toNat : Int), .int .u64 (p.2.1.2.2.1.toNat : Int), .int .u64 (p.2.1.2.2.2.toNat : Int), .slice p.2.2.1 p.2.2.2.1 p.2.2.2.2] 27)).alloc (Obj.cells #[.int .i64 0, .int .u64 0, .int .u64 0, .int .u64 0, .int .u64 0, .slice none 0 0] 27))
  have y0 := rq.cell (i := 0) (by omega)
  have y1 := rq.cell (i := 1) (by omega)
  have y2 := rq.cell (i := 2) (by omega)
  have y3 := rq.cell (i := 3) (by omega)
  have y4 := rq.cell (i := 4) (by omega)
  have y5 := rq.cell (i := 5) (by omega)
  have rp := ((row_of6 (w.alloc (Obj.cells #[.int .i64 q.1, .int .u64 (q.2.1.1.toNat : Int), .int .u64 (q.2.1.2.1.toNat : Int), .int .u64 (q.2.1.2.2.1.toNat : Int), .int .u64 (q.2.1.2.2.2.toNat : Int), .slice q.2.2.1 q.2.2.2.1 q.2.2.2.2] 27)) (.int .i64 p.1) (.int .u64 (p.2.1.1.toNat : Int)) (.int .u64 (p.2.1.2.1.toNat : Int)) (.int .u64 (p.2.1.2.2.1.toNat : Int)) (.int .u64 (p.2.1.2.2.2.toNat : Int)) (.slice p.2.2.1 p.2.2.2.1 p.2.2.2.2)).alloc (Obj.cells #[.int .i64 0, .int .u64 0, .int .u64 0, .int .u64 0, .int .u64 0, .slice none 0 0] 27))
  rw [show (w.alloc (Obj.cells #[.int .i64 q.1, .int .u64 (q.2.1.1.toNat : Int), .int .u64 (q.2.1.2.1.toNat : Int), .int .u64 (q.2.1.2.2.1.toNat : Int), .int .u64 (q.2.1.2.2.2.toNat : Int), .slice q.2.2.1 q.2.2.2.1 q.2.2.2.2] 27)).heap.size = w.heap.size + 1 by simp] at rp
  have x0 := rp.cell (i := 0) (by omega)
  have x1 := rp.cell (i := 1) (by omega)
  have x2 := rp.cell (i := 2) (by omega)
  have x3 := rp.cell (i := 3) (by omega)
  have x4 := rp.cell (i := 4) (by omega)
  have x5 := rp.cell (i := 5) (by omega)
  simp only [] at y0 y1 y2 y3 y4 y5 x0 x1 x2 x3 x4 x5
  have rz := (row_zero6 ((w.alloc (Obj.cells #[.int .i64 q.1, .int .u64 (q.2.1.1.toNat : Int), .int .u64 (q.2.1.2.1.toNat : Int), .int .u64 (q.2.1.2.2.1.toNat : Int), .int .u64 (q.2.1.2.2.2.toNat : Int), .slice q.2.2.1 q.2.2.2.1 q.2.2.2.2] 27)).alloc (Obj.cells #[.int .i64 p.1, .int .u64 (p.2.1.1.toNat : Int), .int .u64 (p.2.1.2.1.toNat : Int), .int .u64 (p.2.1.2.2.1.toNat : Int), .int .u64 (p.2.1.2.2.2.toNat : Int), .slice p.2.2.1 p.2.2.2.1 p.2.2.2.2] 27))).alloc (Obj.cells #[.int .i64 q.1, .int .u64 (q.2.1.1.toNat : Int), .int .u64 (q.2.1.2.1.toNat : Int), .int .u64 (q.2.1.2.2.1.toNat : Int), .int .u64 (q.2.1.2.2.2.toNat : Int), .slice q.2.2.1 q.2.2.2.1 q.2.2.2.2, .int .i64 p.1, .int .u64 (p.2.1.1.toNat : Int), .int .u64 (p.2.1.2.1.toNat : Int), .int .u64 (p.2.1.2.2.1.toNat : Int), .int .u64 (p.2.1.2.2.2.toNat : Int), .slice p.2.2.1 p.2.2.2.1 p.2.2.2.2] 27)
  rw [e1] at rz
  have a0 := rz.cell (i := 0) (by omega)
  have a1 := rz.cell (i := 1) (by omega)
  have a2 := rz.cell (i := 2) (by omega)
  have a3 := rz.cell (i := 3) (by omega)
  have a4 := rz.cell (i := 4) (by omega)
  have a5 := rz.cell (i := 5) (by omega)
  have f0 := rz.frozen 0
  have f1 := rz.frozen 1
  have f2 := rz.frozen 2
  have f3 := rz.frozen 3
  have f4 := rz.frozen 4
  have f5 := rz.frozen 5
  simp only [] at a0 a1 a2 a3 a4 a5
  have hbn := heap_alloc_new (((w.alloc (Obj.cells #[.int .i64 q.1, .int .u64 (q.2.1.1.toNat : Int), .int .u64 (q.2.1.2.1.toNat : Int), .int .u64 (q.2.1.2.2.1.toNat : Int), .int .u64 (q.2.1.2.2.2.toNat : Int), .slice q.2.2.1 q.2.2.2.1 q.2.2.2.2] 27)).alloc (Obj.cells #[.int .i64 p.1, .int .u64 (p.2.1.1.toNat : Int), .int .u64 (p.2.1.2.1.toNat : Int), .int .u64 (p.2.1.2.2.1.toNat : Int), .int .u64 (p.2.1.2.2.2.toNat : Int), .slice p.2.2.1 p.2.2.2.1 p.2.2.2.2] 27)).alloc (Obj.cells #[.int .i64 k, .int .u64 0, .int .u64 0, .int .u64 0, .int .u64 0, .slice (some ⟨w.heap.size + 1 + 1 + 1, 0, none⟩) 2 2] 27)) (Obj.cells #[.int .i64 q.1, .int .u64 (q.2.1.1.toNat : Int), .int .u64 (q.2.1.2.1.toNat : Int), .int .u64 (q.2.1.2.2.1.toNat : Int), .int .u64 (q.2.1.2.2.2.toNat : Int), .slice q.2.2.1 q.2.2.2.1 q.2.2.2.2, .int .i64 p.1, .int .u64 (p.2.1.1.toNat : Int), .int .u64 (p.2.1.2.1.toNat : Int), .int .u64 (p.2.1.2.2.1.toNat : Int), .int .u64 (p.2.1.2.2.2.toNat : Int), .slice p.2.2.1 p.2.2.2.1 p.2.2.2.2] 27)
  rw [e2] at hbn
  have rv := (row_of6 ((w.alloc (Obj.cells #[.int .i64 q.1, .int .u64 (q.2.1.1.toNat : Int), .int .u64 (q.2.1.2.1.toNat : Int), .int .u64 (q.2.1.2.2.1.toNat : Int), .int .u64 (q.2.1.2.2.2.toNat : Int), .slice q.2.2.1 q.2.2.2.1 q.2.2.2.2] 27)).alloc (Obj.cells #[.int .i64 p.1, .int .u64 (p.2.1.1.toNat : Int), .int .u64 (p.2.1.2.1.toNat : Int), .int .u64 (p.2.1.2.2.1.toNat : Int), .int .u64 (p.2.1.2.2.2.toNat : Int), .slice p.2.2.1 p.2.2.2.1 p.2.2.2.2] 27)) (.int .i64 k) (.int .u64 0) (.int .u64 0) (.int .u64 0) (.int .u64 0) (.slice (some ⟨w.heap.size + 1 + 1 + 1, 0, none⟩) 2 2)).alloc (Obj.cells #[.int .i64 q.1, .int .u64 (q.2.1.1.toNat : Int), .int .u64 (q.2.1.2.1.toNat : Int), .int .u64 (q.2.1.2.2.1.toNat : Int), .int .u64 (q.2.1.2.2.2.toNat : Int), .slice q.2.2.1 q.2.2.2.1 q.2.2.2.2, .int .i64 p.1, .int .u64 (p.2.1.1.toNat : Int), .int .u64 (p.2.1.2.1.toNat : Int), .int .u64 (p.2.1.2.2.1.toNat : Int), .int .u64 (p.2.1.2.2.2.toNat : Int), .slice p.2.2.1 p.2.2.2.1 p.2.2.2.2] 27)
  rw [e1] at rv
  obtain ⟨w2, HW2⟩ : ∃ w2, Hid (((((w.alloc (Obj.cells #[.int .i64 q.1, .int .u64 (q.2.1.1.toNat : Int), .int .u64 (q.2.1.2.1.toNat : Int), .int .u64 (q.2.1.2.2.1.toNat : Int), .int .u64 (q.2.1.2.2.2.toNat : Int), .slice q.2.2.1 q.2.2.2.1 q.2.2.2.2] 27)).alloc (Obj.cells #[.int .i64 p.1, .int .u64 (p.2.1.1.toNat : Int), .int .u64 (p.2.1.2.1.toNat : Int), .int .u64 (p.2.1.2.2.1.toNat : Int), .int .u64 (p.2.1.2.2.2.toNat : Int), .slice p.2.2.1 p.2.2.2.1 p.2.2.2.2] 27)).alloc (Obj.cells #[.int .i64 k, .int .u64 0, .int .u64 0, .int .u64 0, .int .u64 0, .slice (some ⟨w.heap.size + 1 + 1 + 1, 0, none⟩) 2 2] 27)).alloc (Obj.cells #[.int .i64 q.1, .int .u64 (q.2.1.1.toNat : Int), .int .u64 (q.2.1.2.1.toNat : Int), .int .u64 (q.2.1.2.2.1.toNat : Int), .int .u64 (q.2.1.2.2.2.toNat : Int), .slice q.2.2.1 q.2.2.2.1 q.2.2.2.2, .int .i64 p.1, .int .u64 (p.2.1.1.toNat : Int), .int .u64 (p.2.1.2.1.toNat : Int), .int .u64 (p.2.1.2.2.1.toNat : Int), .int .u64 (p.2.1.2.2.2.toNat : Int), .slice p.2.2.1 p.2.2.2.1 p.2.2.2.2] 27)) = w2) := ⟨_, (rfl : _ = _)⟩
  rw [HW2.out] at hbn rv
  have HB2 : Hid (Below w.heap.size w w2) := by
    show Below _ _ _
    rw [← HW2.out]
    exact ((bal2 w _ _).alloc (by simp; try omega) _).alloc (by simp; try omega) _
  have HFIN : Hid (w2.heap[w.heap.size + 1 + 1 + 1]? = some (.cells #[.int .i64 q.1, .int .u64 (q.2.1.1.toNat : Int), .int .u64 (q.2.1.2.1.toNat : Int), .int .u64 (q.2.1.2.2.1.toNat : Int), .int .u64 (q.2.1.2.2.2.toNat : Int), .slice q.2.2.1 q.2.2.2.1 q.2.2.2.2, .int .i64 p.1, .int .u64 (p.2.1.1.toNat : Int), .int .u64 (p.2.1.2.1.toNat : Int), .int .u64 (p.2.1.2.2.1.toNat : Int), .int .u64 (p.2.1.2.2.2.toNat : Int), .slice p.2.2.1 p.2.2.2.1 p.2.2.2.2] 27)) := hbn
  have v0 := rv.cell (i := 0) (by omega)
  have v1 := rv.cell (i := 1) (by omega)
  have v2 := rv.cell (i := 2) (by omega)
  have v3 := rv.cell (i := 3) (by omega)
  have v4 := rv.cell (i := 4) (by omega)
  have v5 := rv.cell (i := 5) (by omega)
  simp only [] at v0 v1 v2 v3 v4 v5
  clear rq rp rz hbn rv e1 e2
  go_enter Try.func41, Try.ntmps41
  go_wp2_with fail
  rw [HW2.out]
  clear a0 a1 a2 a3 a4 a5 f0 f1 f2 f3 f4 f5 y0 y1 y2 y3 y4 y5 x0 x1 x2 x3 x4 x5
  exact bodyPost_ret (v := .agg #[.int .i64 k, .int .u64 0, .int .u64 0, .int .u64 0, .int .u64 0, .slice (some ⟨w.heap.size + 1 + 1 + 1, 0, none⟩) 2 2]) (by simp [results, Try.results41, go_sem, v0, v1, v2, v3, v4, v5]) rfl ⟨w.heap.size + 1 + 1 + 1, rfl, by omega, HFIN.out, HB2.out⟩
end Go.Proofs.Ythloedfiomfnbaa

namespace Go.Proofs.Ythloedfiomfnbaa
open Go.RowKit
open Cls Rex Txt

set_option maxHeartbeats 8000000 in
set_option maxRecDepth 20000 in
theorem ralt_any (s : ByteArray) (hs : s.size ≤ 300) (k : Value) (R : Nat → Res) (hG : Goes s R) (hC : QC 39 s k R) : QC 28 s k (altR s R) := by
  intro g i w hP hi
  have hlt := hP.lt
  obtain ⟨n, HN⟩ : ∃ n, Hid (w.heap.size = n) := ⟨_, (rfl : w.heap.size = w.heap.size)⟩
  obtain ⟨W0, HW⟩ : ∃ W0, Hid (w.alloc (.cells #[.int .i64 0, .int .u64 0, .int .u64 0, .int .u64 0, .int .u64 0, .slice none 0 0] 27) = W0) := ⟨_, (rfl : _ = _)⟩
  have hB0 : Below w.heap.size w W0 := HW.out ▸ bal_ _ _
  have hnw : w.heap.size ≤ n := by rw [HN.out]; exact Nat.le_refl _
  have hfirst := hC g i W0 (hP.next hB0) hi
  have hgi := hG i hi
  obtain ⟨x0, HX0⟩ : ∃ x0, Hid (R i = x0) := ⟨_, (rfl : R i = R i)⟩
  rw [HX0.out] at hfirst hgi
  have HFN : Hid (altR s R i = altL s R (s.size + 2) x0) := by show _ = _; unfold altR; rw [HX0.out]
  have HG : Hid (Goes s R) := hG
  have HPC : Hid (QC 39 s k R) := hC
  rw [HFN.out]
  obtain ⟨rr, HRR⟩ : ∃ rr, Hid (altL s R (s.size + 2) x0 = rr) := ⟨_, (rfl : altL s R (s.size + 2) x0 = altL s R (s.size + 2) x0)⟩
  rw [HRR.out]
  clear hP hB0 hG hC
  go_enter Try.func28, Try.ntmps28
  go_upto_region 1 with fail
  rw [HN.out, HW.out]
  go_upto_region 2 with (go_at_call 39; refine hfirst.mono ?_; rintro _ w1 ⟨q0, b0, rfl, hf1, hq1⟩)
  obtain ⟨m, HM⟩ : ∃ m, Hid (w1.heap.size = m) := ⟨_, (rfl : w1.heap.size = w1.heap.size)⟩
  obtain ⟨W2, HW2⟩ : ∃ W2, Hid (w1.alloc (.cells #[.int .i64 q0.1, .int .u64 (q0.2.1.1.toNat : Int), .int .u64 (q0.2.1.2.1.toNat : Int), .int .u64 (q0.2.1.2.2.1.toNat : Int), .int .u64 (q0.2.1.2.2.2.toNat : Int), .slice q0.2.2.1 q0.2.2.2.1 q0.2.2.2.2] 27) = W2) := ⟨_, (rfl : _ = _)⟩
  have HL : Hid (LQ g s k w n m x0 q0 b0 W2) := by
    show LQ _ _ _ _ _ _ _ _ _ _
    rw [← HN.out, ← HM.out]
    exact LQ.start hlt HW.out hf1 hq1 HW2.out
  have hs0 : W0.heap.size = w.heap.size + 1 := by rw [← HW.out]; simp
  have hs1 := hf1.size
  have hnm : n ≠ m := by rw [← HN.out, ← HM.out]; omega
  have hmw : w.heap.size ≤ m := by rw [← HM.out]; omega
  rw [HM.out, HW2.out]
  clear hf1 hq1 hfirst hs0 hs1 HN HM HW HW2 HX0 HFN
  go_loopw [5] (fun v5 wr => ∃ (x : Res) (q : R6) (b : Option Addr), v5 = .pointer b ∧ x.2.1 ≤ s.size ∧ Hid (LQ g s k w n m x q b wr ∧ rr = altL s R (s.size + 2) x)) (fun v5 wr => restQ g s v5 wr)
  case atStart => exact ⟨x0, q0, b0, rfl, hgi.2.1, HL.out, HRR.out.symm⟩
  case round =>
    clear HL HRR hgi
    obtain ⟨x, q, b, rfl, hx, HL⟩ := hrel
    have HMEA : Hid (restQ g s (.pointer b) wr = rest s x) := restQ_eq HL.out.1.qb
    rcases HL.out.1.qb with ⟨he, hbb, ⟨t', hal, hry⟩, hps⟩ | ⟨he, st, hbb, -⟩
    · subst hbb
      have HE : Hid (x.2.2 = 0) := he
      have HPwr : Hid (Pt g s x.2.1 k wr) := hps
      have HRYwr : Hid (Ry wr (fun b => w.heap.size ≤ b ∧ b ≠ n ∧ b ≠ m ∧ b < wr.heap.size) (v6 q) t') := hry
      have HAL : Hid (Al x.1 t') := hal
      have HGwr : Hid (Fm (fun b => b = g) w wr) := HL.out.1.gr
      have HNwr : Hid (wr.heap[n]? = some (.cells #[.int .i64 0, .int .u64 0, .int .u64 0, .int .u64 0, .int .u64 0, .slice none 0 0] 27)) := HL.out.1.bn
      have HMwr : Hid (wr.heap[m]? = some (.cells #[.int .i64 q.1, .int .u64 (q.2.1.1.toNat : Int), .int .u64 (q.2.1.2.1.toNat : Int), .int .u64 (q.2.1.2.2.1.toNat : Int), .int .u64 (q.2.1.2.2.2.toNat : Int), .slice q.2.2.1 q.2.2.2.1 q.2.2.2.2] 27)) := HL.out.1.bm
      clear hps hry hal he
      obtain ⟨p0, HP0⟩ : ∃ p0, Hid (pk s x.2.1 = p0) := ⟨_, (rfl : pk s x.2.1 = pk s x.2.1)⟩
      have hp0 := pk_in s x.2.1
      rw [HP0.out] at hp0
      have hb124 := pk_is s x.2.1 124 (by omega)
      rw [HP0.out] at hb124
      by_cases hb : bt s x.2.1 = 124
      · have hlt2 := bt_is hb (by decide)
        have HF : Hid (rr = altL s R (s.size + 1) (.mk 5 Cls.empty [x.1, (R (x.2.1 + 1)).1], (R (x.2.1 + 1)).2)) := by
          show _ = _
          rw [HL.out.2]
          conv => lhs; unfold altL
          rw [if_neg (by simp [HE.out]), if_pos hb]
        have hpe : p0 = 124 := hb124.2 hb
        subst hpe
        clear hb hb124 hp0
        go_wp2_with fail
        refine (peek_any g s x.2.1 k _ HPwr.out).mono ?_
        rintro _ wp ⟨rfl, hb⟩
        have HPwp : Hid (Pt g s x.2.1 k wp) := HPwr.out.next hb
        have HGwp : Hid (Fm (fun b => b = g) w wp) := HGwr.out.trans (Fm.of (X := fun b => b = g) hb) fun _ _ e => e
        have HNwp : Hid (wp.heap[n]? = some (.cells #[.int .i64 0, .int .u64 0, .int .u64 0, .int .u64 0, .int .u64 0, .slice none 0 0] 27)) := (hb.block n (in_heap HNwr.out)).trans HNwr.out
        have HMwp : Hid (wp.heap[m]? = some (.cells #[.int .i64 q.1, .int .u64 (q.2.1.1.toNat : Int), .int .u64 (q.2.1.2.1.toNat : Int), .int .u64 (q.2.1.2.2.1.toNat : Int), .int .u64 (q.2.1.2.2.2.toNat : Int), .slice q.2.2.1 q.2.2.2.1 q.2.2.2.2] 27)) := (hb.block m (in_heap HMwr.out)).trans HMwr.out
        have HRYwp : Hid (Ry wp (fun b => w.heap.size ≤ b ∧ b ≠ n ∧ b ≠ m ∧ b < wp.heap.size) (v6 q) t') := HRYwr.out.move (fun z hz => ⟨hz.1, hz.2.1, hz.2.2.1, Nat.lt_of_lt_of_le hz.2.2.2 hb.size⟩) (fun z hz => hb.block z hz.2.2.2)
        clear hb HPwr HGwr HNwr HMwr HRYwr
        rw [HP0.out]
        obtain ⟨wa, HWwa⟩ : ∃ wa, Hid (wp.setCell ⟨g, 1, none⟩ (.int .i64 ((x.2.1 : Int) + 1)) = wa) := ⟨_, (rfl : _ = _)⟩
        have hfs : Fm (fun b => b = g) wp wa := by rw [← HWwa.out]; exact Fm.set _ rfl
        have hpg : Pt g s (x.2.1 + 1) k wa := by
          rw [← HWwa.out]
          have := HPwp.out.set1 (x.2.1 + 1)
          rw [show (((x.2.1 + 1 : Nat)) : Int) = (x.2.1 : Int) + 1 by omega] at this
          exact this
        have c1 := HPwp.out.cells.1.2.1
        have f1 := HPwp.out.cells.2.2.1
        have HPwa : Hid (Pt g s (x.2.1 + 1) k wa) := hpg
        have HGwa : Hid (Fm (fun b => b = g) w wa) := HGwp.out.trans hfs fun _ _ e => e
        have HNwa : Hid (wa.heap[n]? = some (.cells #[.int .i64 0, .int .u64 0, .int .u64 0, .int .u64 0, .int .u64 0, .slice none 0 0] 27)) := (hfs.block n (in_heap HNwp.out) (by omega)).trans HNwp.out
        have HMwa : Hid (wa.heap[m]? = some (.cells #[.int .i64 q.1, .int .u64 (q.2.1.1.toNat : Int), .int .u64 (q.2.1.2.1.toNat : Int), .int .u64 (q.2.1.2.2.1.toNat : Int), .int .u64 (q.2.1.2.2.2.toNat : Int), .slice q.2.2.1 q.2.2.2.1 q.2.2.2.2] 27)) := (hfs.block m (in_heap HMwp.out) (by omega)).trans HMwp.out
        have HRYwa : Hid (Ry wa (fun b => w.heap.size ≤ b ∧ b ≠ n ∧ b ≠ m ∧ b < wa.heap.size) (v6 q) t') := HRYwp.out.move (fun z hz => ⟨hz.1, hz.2.1, hz.2.2.1, Nat.lt_of_lt_of_le hz.2.2.2 hfs.size⟩) (fun z hz => hfs.block z hz.2.2.2 (by omega))
        clear hfs hpg HPwp HGwp HNwp HMwp HRYwp
        go_upto_region 4 with fail
        rw [HWwa.out]
        clear c1 f1 HWwa HP0
        have hposle : x.2.1 + 1 ≤ s.size := by omega
        obtain ⟨p, HPP⟩ : ∃ p, Hid (wa.heap.size = p) := ⟨_, (rfl : wa.heap.size = wa.heap.size)⟩
        obtain ⟨wb, HB⟩ : ∃ wb, Hid (wa.alloc (.cells #[.int .i64 0, .int .u64 0, .int .u64 0, .int .u64 0, .int .u64 0, .slice none 0 0] 27) = wb) := ⟨_, (rfl : _ = _)⟩
        have hBb : Below wa.heap.size wa wb := HB.out ▸ bal_ _ _
        have hsec := HPC.out g (x.2.1 + 1) wb (HPwa.out.next hBb) hposle
        have hgy := HG.out (x.2.1 + 1) hposle
        obtain ⟨y, HY⟩ : ∃ y, Hid (R (x.2.1 + 1) = y) := ⟨_, (rfl : _ = _)⟩
        rw [HY.out] at hsec hgy HF
        have hbp : wb.heap[p]? = some (.cells #[.int .i64 0, .int .u64 0, .int .u64 0, .int .u64 0, .int .u64 0, .slice none 0 0] 27) := by rw [← HB.out, ← HPP.out]; exact block_new wa _
        have hpg : p ≠ g := by have := HPwa.out.lt; rw [HPP.out] at this; omega
        have hpm : m ≠ p := by have := in_heap HMwa.out; rw [HPP.out] at this; omega
        have hbmb : wb.heap[m]? = some (.cells #[.int .i64 q.1, .int .u64 (q.2.1.1.toNat : Int), .int .u64 (q.2.1.2.1.toNat : Int), .int .u64 (q.2.1.2.2.1.toNat : Int), .int .u64 (q.2.1.2.2.2.toNat : Int), .slice q.2.2.1 q.2.2.2.1 q.2.2.2.2] 27) := (hBb.block m (in_heap HMwa.out)).trans HMwa.out
        clear hBb HL
        go_upto_region 5 with fail
        rw [HPP.out, HB.out]
        go_wp2_with fail
        refine hsec.mono ?_
        rintro _ wc ⟨u, bb, rfl, hfc, hqc⟩
        have hbpc : wc.heap[p]? = some (.cells #[.int .i64 0, .int .u64 0, .int .u64 0, .int .u64 0, .int .u64 0, .slice none 0 0] 27) := (hfc.block p (in_heap hbp) hpg).trans hbp
        have hbmc : wc.heap[m]? = some (.cells #[.int .i64 q.1, .int .u64 (q.2.1.1.toNat : Int), .int .u64 (q.2.1.2.1.toNat : Int), .int .u64 (q.2.1.2.2.1.toNat : Int), .int .u64 (q.2.1.2.2.2.toNat : Int), .slice q.2.2.1 q.2.2.2.1 q.2.2.2.2] 27) := (hfc.block m (in_heap hbmb) (by omega)).trans hbmb
        obtain ⟨⟨z0, z1, z2, z3, z4, z5⟩, zf0, zf1, zf2, zf3, zf4, zf5⟩ := block6 hbpc
        have HFC : Hid (Fm (fun b => b = g) wb wc) := hfc
        have HQC : Hid (QB s g k wb.heap.size (fun b => wb.heap.size ≤ b ∧ b < wc.heap.size) y u bb wc) := hqc
        clear hsec hfc hqc hbp hbmb
        go_upto_region 6 with fail
        obtain ⟨wd, HD⟩ : ∃ wd, Hid (((((((wc.setCell ⟨p, 0, none⟩ (.int .i64 u.1)).setCell ⟨p, 1, none⟩ (.int .u64 (u.2.1.1.toNat : Int))).setCell ⟨p, 2, none⟩ (.int .u64 (u.2.1.2.1.toNat : Int))).setCell ⟨p, 3, none⟩ (.int .u64 (u.2.1.2.2.1.toNat : Int))).setCell ⟨p, 4, none⟩ (.int .u64 (u.2.1.2.2.2.toNat : Int))).setCell ⟨p, 5, none⟩ (.slice u.2.2.1 u.2.2.2.1 u.2.2.2.2)) = wd) := ⟨_, (rfl : _ = _)⟩
        rw [HD.out]
        have hbpd : wd.heap[p]? = some (.cells #[.int .i64 u.1, .int .u64 (u.2.1.1.toNat : Int), .int .u64 (u.2.1.2.1.toNat : Int), .int .u64 (u.2.1.2.2.1.toNat : Int), .int .u64 (u.2.1.2.2.2.toNat : Int), .slice u.2.2.1 u.2.2.2.1 u.2.2.2.2] 27) := HD.out ▸ put6_at hbpc _ _ _ _ _ _
        have hbmd : wd.heap[m]? = some (.cells #[.int .i64 q.1, .int .u64 (q.2.1.1.toNat : Int), .int .u64 (q.2.1.2.1.toNat : Int), .int .u64 (q.2.1.2.2.1.toNat : Int), .int .u64 (q.2.1.2.2.2.toNat : Int), .slice q.2.2.1 q.2.2.2.1 q.2.2.2.2] 27) := HD.out ▸ (put6_other wc p _ _ _ _ _ _ m hpm).trans hbmc
        clear hbpc hbmc z0 zf0 z1 zf1 z2 zf2 z3 zf3 z4 zf4 z5 zf5
        obtain ⟨⟨z0, z1, z2, z3, z4, z5⟩, zf0, zf1, zf2, zf3, zf4, zf5⟩ := block6 hbpd
        obtain ⟨⟨d0, d1, d2, d3, d4, d5⟩, df0, df1, df2, df3, df4, df5⟩ := block6 hbmd
        go_wp2_with fail
        refine (rpair_any 5 q u _).mono ?_
        rintro _ wf ⟨b2, rfl, hb2, hf2, hbf⟩
        have hbmf : wf.heap[m]? = some (.cells #[.int .i64 q.1, .int .u64 (q.2.1.1.toNat : Int), .int .u64 (q.2.1.2.1.toNat : Int), .int .u64 (q.2.1.2.2.1.toNat : Int), .int .u64 (q.2.1.2.2.2.toNat : Int), .slice q.2.2.1 q.2.2.2.1 q.2.2.2.2] 27) := (hbf.block m (in_heap hbmd)).trans hbmd
        obtain ⟨wz, HWZ⟩ : ∃ wz, Hid (((((((wf.setCell ⟨m, 0, none⟩ (.int .i64 5)).setCell ⟨m, 1, none⟩ (.int .u64 0)).setCell ⟨m, 2, none⟩ (.int .u64 0)).setCell ⟨m, 3, none⟩ (.int .u64 0)).setCell ⟨m, 4, none⟩ (.int .u64 0)).setCell ⟨m, 5, none⟩ (.slice (some ⟨b2, 0, none⟩) 2 2)) = wz) := ⟨_, (rfl : _ = _)⟩
        have HST : Hid (LQ g s k w n m (.mk 5 Cls.empty [x.1, y.1], y.2) (5, Cls.empty, some ⟨b2, 0, none⟩, 2, 2) bb wz) := LQ.step 5 (by omega) HGwa.out HNwa.out HMwa.out HAL.out HRYwa.out hlt hnw hmw hnm HB.out HFC.out HQC.out (by rw [HPP.out]; exact HD.out) hbf hb2 hf2 HWZ.out
        clear hbf hb2 hf2 hbpd hbmd z0 zf0 z1 zf1 z2 zf2 z3 zf3 z4 zf4 z5 zf5 d0 df0 d1 df1 d2 df2 d3 df3 d4 df4 d5 df5
        obtain ⟨⟨d0, d1, d2, d3, d4, d5⟩, df0, df1, df2, df3, df4, df5⟩ := block6 hbmf
        go_wp2_with fail
        rw [HWZ.out]
        have hrest : rest s (T.mk 5 Cls.empty [x.1, y.1], y.2) < rest s x := by
          unfold rest
          rw [if_pos HE.out]
          simp only
          split
          · rename_i e; have := hgy.2.2 e; omega
          · omega
        refine ⟨⟨(.mk 5 Cls.empty [x.1, y.1], y.2), (5, Cls.empty, some ⟨b2, 0, none⟩, 2, 2), bb, rfl, hgy.2.1, HST.out, ?_⟩, ?_⟩
        · rw [HF.out]
          refine altL_more s R HG.out (s.size + 1) (s.size + 2) _ hgy.2.1 ?_ ?_
          · have : rest s x ≤ s.size + 1 := by unfold rest; split <;> omega
            omega
          · have : rest s x ≤ s.size + 1 := by unfold rest; split <;> omega
            omega
        · have h2 := restQ_eq HST.out.qb
          refine Nat.lt_of_le_of_lt (Nat.le_of_eq h2) ?_
          rw [HMEA.out]; exact hrest
      · have HF : Hid (rr = x) := by show _ = _; rw [HL.out.2]; unfold altL; rw [if_neg (by simp [HE.out]), if_neg hb]
        have hpe : (p0 == 124) = false := by simpa using fun e => hb (hb124.1 e)
        clear hb hb124 hp0
        go_wp2_with fail
        refine (peek_any g s x.2.1 k _ HPwr.out).mono ?_
        rintro _ wp ⟨rfl, hb⟩
        have HPwp : Hid (Pt g s x.2.1 k wp) := HPwr.out.next hb
        have HGwp : Hid (Fm (fun b => b = g) w wp) := HGwr.out.trans (Fm.of (X := fun b => b = g) hb) fun _ _ e => e
        have HNwp : Hid (wp.heap[n]? = some (.cells #[.int .i64 0, .int .u64 0, .int .u64 0, .int .u64 0, .int .u64 0, .slice none 0 0] 27)) := (hb.block n (in_heap HNwr.out)).trans HNwr.out
        have HMwp : Hid (wp.heap[m]? = some (.cells #[.int .i64 q.1, .int .u64 (q.2.1.1.toNat : Int), .int .u64 (q.2.1.2.1.toNat : Int), .int .u64 (q.2.1.2.2.1.toNat : Int), .int .u64 (q.2.1.2.2.2.toNat : Int), .slice q.2.2.1 q.2.2.2.1 q.2.2.2.2] 27)) := (hb.block m (in_heap HMwr.out)).trans HMwr.out
        have HRYwp : Hid (Ry wp (fun b => w.heap.size ≤ b ∧ b ≠ n ∧ b ≠ m ∧ b < wp.heap.size) (v6 q) t') := HRYwr.out.move (fun z hz => ⟨hz.1, hz.2.1, hz.2.2.1, Nat.lt_of_lt_of_le hz.2.2.2 hb.size⟩) (fun z hz => hb.block z hz.2.2.2)
        clear hb HPwr HGwr HNwr HMwr HRYwr
        rw [HP0.out]
        clear HP0
        have HLD : Hid (LQ g s k w n m x q none wp) := ⟨HGwp.out, HNwp.out, HMwp.out, Or.inl ⟨HE.out, rfl, ⟨t', HAL.out, HRYwp.out⟩, HPwp.out⟩⟩
        obtain ⟨wz, HWZ⟩ : ∃ wz, Hid (((((((wp.setCell ⟨n, 0, none⟩ (.int .i64 q.1)).setCell ⟨n, 1, none⟩ (.int .u64 (q.2.1.1.toNat : Int))).setCell ⟨n, 2, none⟩ (.int .u64 (q.2.1.2.1.toNat : Int))).setCell ⟨n, 3, none⟩ (.int .u64 (q.2.1.2.2.1.toNat : Int))).setCell ⟨n, 4, none⟩ (.int .u64 (q.2.1.2.2.2.toNat : Int))).setCell ⟨n, 5, none⟩ (.slice q.2.2.1 q.2.2.2.1 q.2.2.2.2)) = wz) := ⟨_, (rfl : _ = _)⟩
        have HDN : Hid (Fm (fun b => b = g) w wz ∧ QB s g k w.heap.size (fun z => w.heap.size ≤ z ∧ z < wz.heap.size) x q none wz) := HLD.out.done hlt hnw HWZ.out
        have hbn := HLD.out.bn
        have hbm := HLD.out.bm
        have hbz : wz.heap[n]? = some (.cells #[.int .i64 q.1, .int .u64 (q.2.1.1.toNat : Int), .int .u64 (q.2.1.2.1.toNat : Int), .int .u64 (q.2.1.2.2.1.toNat : Int), .int .u64 (q.2.1.2.2.2.toNat : Int), .slice q.2.2.1 q.2.2.2.1 q.2.2.2.2] 27) := by rw [← HWZ.out]; exact put6_at hbn _ _ _ _ _ _
        obtain ⟨⟨d0, d1, d2, d3, d4, d5⟩, df0, df1, df2, df3, df4, df5⟩ := block6 hbm
        obtain ⟨⟨z0, z1, z2, z3, z4, z5⟩, zf0, zf1, zf2, zf3, zf4, zf5⟩ := block6 hbn
        obtain ⟨⟨v0, v1, v2, v3, v4, v5⟩, vf0, vf1, vf2, vf3, vf4, vf5⟩ := block6 hbz
        clear hbn hbm hbz vf0 vf1 vf2 vf3 vf4 vf5
        go_wp2_with fail
        rw [HWZ.out]
        refine bodyPost_ret (v := .tuple #[.agg #[.int .i64 q.1, .int .u64 (q.2.1.1.toNat : Int), .int .u64 (q.2.1.2.1.toNat : Int), .int .u64 (q.2.1.2.2.1.toNat : Int), .int .u64 (q.2.1.2.2.2.toNat : Int), .slice q.2.2.1 q.2.2.2.1 q.2.2.2.2], .pointer none]) (by simp [results, Try.results28, go_sem, v0, v1, v2, v3, v4, v5]) rfl ⟨q, none, rfl, HDN.out.1, ?_⟩
        rw [HF.out]
        exact HDN.out.2
    · subst hbb
      have HF : Hid (rr = x) := by show _ = _; rw [HL.out.2]; unfold altL; rw [if_pos he]
      clear he HMEA
      have HLD : Hid (LQ g s k w n m x q (some ⟨st, 0, none⟩) wr) := HL.out.1
      obtain ⟨wz, HWZ⟩ : ∃ wz, Hid (((((((wr.setCell ⟨n, 0, none⟩ (.int .i64 q.1)).setCell ⟨n, 1, none⟩ (.int .u64 (q.2.1.1.toNat : Int))).setCell ⟨n, 2, none⟩ (.int .u64 (q.2.1.2.1.toNat : Int))).setCell ⟨n, 3, none⟩ (.int .u64 (q.2.1.2.2.1.toNat : Int))).setCell ⟨n, 4, none⟩ (.int .u64 (q.2.1.2.2.2.toNat : Int))).setCell ⟨n, 5, none⟩ (.slice q.2.2.1 q.2.2.2.1 q.2.2.2.2)) = wz) := ⟨_, (rfl : _ = _)⟩
      have HDN : Hid (Fm (fun b => b = g) w wz ∧ QB s g k w.heap.size (fun z => w.heap.size ≤ z ∧ z < wz.heap.size) x q (some ⟨st, 0, none⟩) wz) := HLD.out.done hlt hnw HWZ.out
      have hbn := HLD.out.bn
      have hbm := HLD.out.bm
      have hbz : wz.heap[n]? = some (.cells #[.int .i64 q.1, .int .u64 (q.2.1.1.toNat : Int), .int .u64 (q.2.1.2.1.toNat : Int), .int .u64 (q.2.1.2.2.1.toNat : Int), .int .u64 (q.2.1.2.2.2.toNat : Int), .slice q.2.2.1 q.2.2.2.1 q.2.2.2.2] 27) := by rw [← HWZ.out]; exact put6_at hbn _ _ _ _ _ _
      obtain ⟨⟨d0, d1, d2, d3, d4, d5⟩, df0, df1, df2, df3, df4, df5⟩ := block6 hbm
      obtain ⟨⟨z0, z1, z2, z3, z4, z5⟩, zf0, zf1, zf2, zf3, zf4, zf5⟩ := block6 hbn
      obtain ⟨⟨v0, v1, v2, v3, v4, v5⟩, vf0, vf1, vf2, vf3, vf4, vf5⟩ := block6 hbz
      clear hbn hbm hbz vf0 vf1 vf2 vf3 vf4 vf5
      go_wp2_with fail
      rw [HWZ.out]
      refine bodyPost_ret (v := .tuple #[.agg #[.int .i64 q.1, .int .u64 (q.2.1.1.toNat : Int), .int .u64 (q.2.1.2.1.toNat : Int), .int .u64 (q.2.1.2.2.1.toNat : Int), .int .u64 (q.2.1.2.2.2.toNat : Int), .slice q.2.2.1 q.2.2.2.1 q.2.2.2.2], .pointer (some ⟨st, 0, none⟩)]) (by simp [results, Try.results28, go_sem, v0, v1, v2, v3, v4, v5]) rfl ⟨q, (some ⟨st, 0, none⟩), rfl, HDN.out.1, ?_⟩
      rw [HF.out]
      exact HDN.out.2
end Go.Proofs.Ythloedfiomfnbaa

namespace Go.Proofs.Ythloedfiomfnbaa
open Go.RowKit
open Cls Rex Txt

set_option maxHeartbeats 8000000 in
set_option maxRecDepth 20000 in
theorem rcat_any (s : ByteArray) (hs : s.size ≤ 300) (k : Value) (R : Nat → Res) (hG : Goes s R) (hC : QC 55 s k R) : QC 39 s k (catR s R) := by
  intro g i w hP hi
  have hlt := hP.lt
  obtain ⟨n, HN⟩ : ∃ n, Hid (w.heap.size = n) := ⟨_, (rfl : w.heap.size = w.heap.size)⟩
  obtain ⟨W0, HW⟩ : ∃ W0, Hid (w.alloc (.cells #[.int .i64 0, .int .u64 0, .int .u64 0, .int .u64 0, .int .u64 0, .slice none 0 0] 27) = W0) := ⟨_, (rfl : _ = _)⟩
  have hB0 : Below w.heap.size w W0 := HW.out ▸ bal_ _ _
  have hnw : w.heap.size ≤ n := by rw [HN.out]; exact Nat.le_refl _
  have hfirst := hC g i W0 (hP.next hB0) hi
  have hgi := hG i hi
  obtain ⟨x0, HX0⟩ : ∃ x0, Hid (R i = x0) := ⟨_, (rfl : R i = R i)⟩
  rw [HX0.out] at hfirst hgi
  have HFN : Hid (catR s R i = catL s R (s.size + 2) x0) := by show _ = _; unfold catR; rw [HX0.out]
  have HG : Hid (Goes s R) := hG
  have HPC : Hid (QC 55 s k R) := hC
  rw [HFN.out]
  obtain ⟨rr, HRR⟩ : ∃ rr, Hid (catL s R (s.size + 2) x0 = rr) := ⟨_, (rfl : catL s R (s.size + 2) x0 = catL s R (s.size + 2) x0)⟩
  rw [HRR.out]
  clear hP hB0 hG hC
  go_enter Try.func39, Try.ntmps39
  go_upto_region 1 with fail
  rw [HN.out, HW.out]
  go_upto_region 2 with (go_at_call 55; refine hfirst.mono ?_; rintro _ w1 ⟨q0, b0, rfl, hf1, hq1⟩)
  obtain ⟨m, HM⟩ : ∃ m, Hid (w1.heap.size = m) := ⟨_, (rfl : w1.heap.size = w1.heap.size)⟩
  obtain ⟨W2, HW2⟩ : ∃ W2, Hid (w1.alloc (.cells #[.int .i64 q0.1, .int .u64 (q0.2.1.1.toNat : Int), .int .u64 (q0.2.1.2.1.toNat : Int), .int .u64 (q0.2.1.2.2.1.toNat : Int), .int .u64 (q0.2.1.2.2.2.toNat : Int), .slice q0.2.2.1 q0.2.2.2.1 q0.2.2.2.2] 27) = W2) := ⟨_, (rfl : _ = _)⟩
  have HL : Hid (LQ g s k w n m x0 q0 b0 W2) := by
    show LQ _ _ _ _ _ _ _ _ _ _
    rw [← HN.out, ← HM.out]
    exact LQ.start hlt HW.out hf1 hq1 HW2.out
  have hs0 : W0.heap.size = w.heap.size + 1 := by rw [← HW.out]; simp
  have hs1 := hf1.size
  have hnm : n ≠ m := by rw [← HN.out, ← HM.out]; omega
  have hmw : w.heap.size ≤ m := by rw [← HM.out]; omega
  rw [HM.out, HW2.out]
  clear hf1 hq1 hfirst hs0 hs1 HN HM HW HW2 HX0 HFN
  go_loopw [5] (fun v5 wr => ∃ (x : Res) (q : R6) (b : Option Addr), v5 = .pointer b ∧ x.2.1 ≤ s.size ∧ Hid (LQ g s k w n m x q b wr ∧ rr = catL s R (s.size + 2) x)) (fun v5 wr => restQ g s v5 wr)
  case atStart => exact ⟨x0, q0, b0, rfl, hgi.2.1, HL.out, HRR.out.symm⟩
  case round =>
    clear HL HRR hgi
    obtain ⟨x, q, b, rfl, hx, HL⟩ := hrel
    have HMEA : Hid (restQ g s (.pointer b) wr = rest s x) := restQ_eq HL.out.1.qb
    rcases HL.out.1.qb with ⟨he, hbb, ⟨t', hal, hry⟩, hps⟩ | ⟨he, st, hbb, -⟩
    · subst hbb
      have HE : Hid (x.2.2 = 0) := he
      have HPwr : Hid (Pt g s x.2.1 k wr) := hps
      have HRYwr : Hid (Ry wr (fun b => w.heap.size ≤ b ∧ b ≠ n ∧ b ≠ m ∧ b < wr.heap.size) (v6 q) t') := hry
      have HAL : Hid (Al x.1 t') := hal
      have HGwr : Hid (Fm (fun b => b = g) w wr) := HL.out.1.gr
      have HNwr : Hid (wr.heap[n]? = some (.cells #[.int .i64 0, .int .u64 0, .int .u64 0, .int .u64 0, .int .u64 0, .slice none 0 0] 27)) := HL.out.1.bn
      have HMwr : Hid (wr.heap[m]? = some (.cells #[.int .i64 q.1, .int .u64 (q.2.1.1.toNat : Int), .int .u64 (q.2.1.2.1.toNat : Int), .int .u64 (q.2.1.2.2.1.toNat : Int), .int .u64 (q.2.1.2.2.2.toNat : Int), .slice q.2.2.1 q.2.2.2.1 q.2.2.2.2] 27)) := HL.out.1.bm
      clear hps hry hal he
      obtain ⟨p0, HP0⟩ : ∃ p0, Hid (pk s x.2.1 = p0) := ⟨_, (rfl : pk s x.2.1 = pk s x.2.1)⟩
      have hp0 := pk_in s x.2.1
      rw [HP0.out] at hp0
      have hb124 := pk_is s x.2.1 124 (by omega)
      have hb41 := pk_is s x.2.1 41 (by omega)
      have hend : p0 < 0 ↔ x.2.1 = s.size := by
        rw [← HP0.out]; unfold pk
        by_cases h : x.2.1 < s.size
        · rw [if_pos h]; omega
        · rw [if_neg h]; omega
      rw [HP0.out] at hb124 hb41
      have hce : catEnd s x.2.1 = (decide (x.2.1 = s.size) || (decide (bt s x.2.1 = 124) || decide (bt s x.2.1 = 41))) := rfl
      have HDONE : Hid (catEnd s x.2.1 = true → rr = x) := fun h => by rw [HL.out.2]; unfold catL; rw [if_neg (by simp [HE.out]), if_pos h]
      by_cases h124 : p0 = 124
      · have HF : Hid (rr = x) := HDONE.out (by rw [hce, decide_eq_true (hb124.1 h124)]; simp)
        subst h124
        clear hb124 hb41 hend hce hp0 HDONE
        go_wp2_with fail
        refine (peek_any g s x.2.1 k _ HPwr.out).mono ?_
        rintro _ wp ⟨rfl, hb⟩
        have HPwp : Hid (Pt g s x.2.1 k wp) := HPwr.out.next hb
        have HGwp : Hid (Fm (fun b => b = g) w wp) := HGwr.out.trans (Fm.of (X := fun b => b = g) hb) fun _ _ e => e
        have HNwp : Hid (wp.heap[n]? = some (.cells #[.int .i64 0, .int .u64 0, .int .u64 0, .int .u64 0, .int .u64 0, .slice none 0 0] 27)) := (hb.block n (in_heap HNwr.out)).trans HNwr.out
        have HMwp : Hid (wp.heap[m]? = some (.cells #[.int .i64 q.1, .int .u64 (q.2.1.1.toNat : Int), .int .u64 (q.2.1.2.1.toNat : Int), .int .u64 (q.2.1.2.2.1.toNat : Int), .int .u64 (q.2.1.2.2.2.toNat : Int), .slice q.2.2.1 q.2.2.2.1 q.2.2.2.2] 27)) := (hb.block m (in_heap HMwr.out)).trans HMwr.out
        have HRYwp : Hid (Ry wp (fun b => w.heap.size ≤ b ∧ b ≠ n ∧ b ≠ m ∧ b < wp.heap.size) (v6 q) t') := HRYwr.out.move (fun z hz => ⟨hz.1, hz.2.1, hz.2.2.1, Nat.lt_of_lt_of_le hz.2.2.2 hb.size⟩) (fun z hz => hb.block z hz.2.2.2)
        clear hb HPwr HGwr HNwr HMwr HRYwr
        rw [HP0.out]
        clear HP0
        have HLD : Hid (LQ g s k w n m x q none wp) := ⟨HGwp.out, HNwp.out, HMwp.out, Or.inl ⟨HE.out, rfl, ⟨t', HAL.out, HRYwp.out⟩, HPwp.out⟩⟩
        obtain ⟨wz, HWZ⟩ : ∃ wz, Hid (((((((wp.setCell ⟨n, 0, none⟩ (.int .i64 q.1)).setCell ⟨n, 1, none⟩ (.int .u64 (q.2.1.1.toNat : Int))).setCell ⟨n, 2, none⟩ (.int .u64 (q.2.1.2.1.toNat : Int))).setCell ⟨n, 3, none⟩ (.int .u64 (q.2.1.2.2.1.toNat : Int))).setCell ⟨n, 4, none⟩ (.int .u64 (q.2.1.2.2.2.toNat : Int))).setCell ⟨n, 5, none⟩ (.slice q.2.2.1 q.2.2.2.1 q.2.2.2.2)) = wz) := ⟨_, (rfl : _ = _)⟩
        have HDN : Hid (Fm (fun b => b = g) w wz ∧ QB s g k w.heap.size (fun z => w.heap.size ≤ z ∧ z < wz.heap.size) x q none wz) := HLD.out.done hlt hnw HWZ.out
        have hbn := HLD.out.bn
        have hbm := HLD.out.bm
        have hbz : wz.heap[n]? = some (.cells #[.int .i64 q.1, .int .u64 (q.2.1.1.toNat : Int), .int .u64 (q.2.1.2.1.toNat : Int), .int .u64 (q.2.1.2.2.1.toNat : Int), .int .u64 (q.2.1.2.2.2.toNat : Int), .slice q.2.2.1 q.2.2.2.1 q.2.2.2.2] 27) := by rw [← HWZ.out]; exact put6_at hbn _ _ _ _ _ _
        obtain ⟨⟨d0, d1, d2, d3, d4, d5⟩, df0, df1, df2, df3, df4, df5⟩ := block6 hbm
        obtain ⟨⟨z0, z1, z2, z3, z4, z5⟩, zf0, zf1, zf2, zf3, zf4, zf5⟩ := block6 hbn
        obtain ⟨⟨v0, v1, v2, v3, v4, v5⟩, vf0, vf1, vf2, vf3, vf4, vf5⟩ := block6 hbz
        clear hbn hbm hbz vf0 vf1 vf2 vf3 vf4 vf5
        go_wp2_with fail
        rw [HWZ.out]
        refine bodyPost_ret (v := .tuple #[.agg #[.int .i64 q.1, .int .u64 (q.2.1.1.toNat : Int), .int .u64 (q.2.1.2.1.toNat : Int), .int .u64 (q.2.1.2.2.1.toNat : Int), .int .u64 (q.2.1.2.2.2.toNat : Int), .slice q.2.2.1 q.2.2.2.1 q.2.2.2.2], .pointer none]) (by simp [results, Try.results39, go_sem, v0, v1, v2, v3, v4, v5]) rfl ⟨q, none, rfl, HDN.out.1, ?_⟩
        rw [HF.out]
        exact HDN.out.2
      · have e1 : (p0 != 124) = true := by simpa using h124
        by_cases h41 : p0 = 41
        · have HF : Hid (rr = x) := HDONE.out (by rw [hce, decide_eq_true (hb41.1 h41)]; simp)
          subst h41
          clear hb124 hb41 hend hce hp0 HDONE h124
          go_wp2_with fail
          refine (peek_any g s x.2.1 k _ HPwr.out).mono ?_
          rintro _ wp ⟨rfl, hb⟩
          have HPwp : Hid (Pt g s x.2.1 k wp) := HPwr.out.next hb
          have HGwp : Hid (Fm (fun b => b = g) w wp) := HGwr.out.trans (Fm.of (X := fun b => b = g) hb) fun _ _ e => e
          have HNwp : Hid (wp.heap[n]? = some (.cells #[.int .i64 0, .int .u64 0, .int .u64 0, .int .u64 0, .int .u64 0, .slice none 0 0] 27)) := (hb.block n (in_heap HNwr.out)).trans HNwr.out
          have HMwp : Hid (wp.heap[m]? = some (.cells #[.int .i64 q.1, .int .u64 (q.2.1.1.toNat : Int), .int .u64 (q.2.1.2.1.toNat : Int), .int .u64 (q.2.1.2.2.1.toNat : Int), .int .u64 (q.2.1.2.2.2.toNat : Int), .slice q.2.2.1 q.2.2.2.1 q.2.2.2.2] 27)) := (hb.block m (in_heap HMwr.out)).trans HMwr.out
          have HRYwp : Hid (Ry wp (fun b => w.heap.size ≤ b ∧ b ≠ n ∧ b ≠ m ∧ b < wp.heap.size) (v6 q) t') := HRYwr.out.move (fun z hz => ⟨hz.1, hz.2.1, hz.2.2.1, Nat.lt_of_lt_of_le hz.2.2.2 hb.size⟩) (fun z hz => hb.block z hz.2.2.2)
          clear hb HPwr HGwr HNwr HMwr HRYwr
          rw [HP0.out]
          go_wp2_with fail
          refine (peek_any g s x.2.1 k _ HPwp.out).mono ?_
          rintro _ wq ⟨rfl, hb⟩
          have HPwq : Hid (Pt g s x.2.1 k wq) := HPwp.out.next hb
          have HGwq : Hid (Fm (fun b => b = g) w wq) := HGwp.out.trans (Fm.of (X := fun b => b = g) hb) fun _ _ e => e
          have HNwq : Hid (wq.heap[n]? = some (.cells #[.int .i64 0, .int .u64 0, .int .u64 0, .int .u64 0, .int .u64 0, .slice none 0 0] 27)) := (hb.block n (in_heap HNwp.out)).trans HNwp.out
          have HMwq : Hid (wq.heap[m]? = some (.cells #[.int .i64 q.1, .int .u64 (q.2.1.1.toNat : Int), .int .u64 (q.2.1.2.1.toNat : Int), .int .u64 (q.2.1.2.2.1.toNat : Int), .int .u64 (q.2.1.2.2.2.toNat : Int), .slice q.2.2.1 q.2.2.2.1 q.2.2.2.2] 27)) := (hb.block m (in_heap HMwp.out)).trans HMwp.out
          have HRYwq : Hid (Ry wq (fun b => w.heap.size ≤ b ∧ b ≠ n ∧ b ≠ m ∧ b < wq.heap.size) (v6 q) t') := HRYwp.out.move (fun z hz => ⟨hz.1, hz.2.1, hz.2.2.1, Nat.lt_of_lt_of_le hz.2.2.2 hb.size⟩) (fun z hz => hb.block z hz.2.2.2)
          clear hb HPwp HGwp HNwp HMwp HRYwp
          rw [HP0.out]
          clear HP0
          have HLD : Hid (LQ g s k w n m x q none wq) := ⟨HGwq.out, HNwq.out, HMwq.out, Or.inl ⟨HE.out, rfl, ⟨t', HAL.out, HRYwq.out⟩, HPwq.out⟩⟩
          obtain ⟨wz, HWZ⟩ : ∃ wz, Hid (((((((wq.setCell ⟨n, 0, none⟩ (.int .i64 q.1)).setCell ⟨n, 1, none⟩ (.int .u64 (q.2.1.1.toNat : Int))).setCell ⟨n, 2, none⟩ (.int .u64 (q.2.1.2.1.toNat : Int))).setCell ⟨n, 3, none⟩ (.int .u64 (q.2.1.2.2.1.toNat : Int))).setCell ⟨n, 4, none⟩ (.int .u64 (q.2.1.2.2.2.toNat : Int))).setCell ⟨n, 5, none⟩ (.slice q.2.2.1 q.2.2.2.1 q.2.2.2.2)) = wz) := ⟨_, (rfl : _ = _)⟩
          have HDN : Hid (Fm (fun b => b = g) w wz ∧ QB s g k w.heap.size (fun z => w.heap.size ≤ z ∧ z < wz.heap.size) x q none wz) := HLD.out.done hlt hnw HWZ.out
          have hbn := HLD.out.bn
          have hbm := HLD.out.bm
          have hbz : wz.heap[n]? = some (.cells #[.int .i64 q.1, .int .u64 (q.2.1.1.toNat : Int), .int .u64 (q.2.1.2.1.toNat : Int), .int .u64 (q.2.1.2.2.1.toNat : Int), .int .u64 (q.2.1.2.2.2.toNat : Int), .slice q.2.2.1 q.2.2.2.1 q.2.2.2.2] 27) := by rw [← HWZ.out]; exact put6_at hbn _ _ _ _ _ _
          obtain ⟨⟨d0, d1, d2, d3, d4, d5⟩, df0, df1, df2, df3, df4, df5⟩ := block6 hbm
          obtain ⟨⟨z0, z1, z2, z3, z4, z5⟩, zf0, zf1, zf2, zf3, zf4, zf5⟩ := block6 hbn
          obtain ⟨⟨v0, v1, v2, v3, v4, v5⟩, vf0, vf1, vf2, vf3, vf4, vf5⟩ := block6 hbz
          clear hbn hbm hbz vf0 vf1 vf2 vf3 vf4 vf5
          go_wp2_with fail
          rw [HWZ.out]
          refine bodyPost_ret (v := .tuple #[.agg #[.int .i64 q.1, .int .u64 (q.2.1.1.toNat : Int), .int .u64 (q.2.1.2.1.toNat : Int), .int .u64 (q.2.1.2.2.1.toNat : Int), .int .u64 (q.2.1.2.2.2.toNat : Int), .slice q.2.2.1 q.2.2.2.1 q.2.2.2.2], .pointer none]) (by simp [results, Try.results39, go_sem, v0, v1, v2, v3, v4, v5]) rfl ⟨q, none, rfl, HDN.out.1, ?_⟩
          rw [HF.out]
          exact HDN.out.2
        · have e2 : (p0 != 41) = true := by simpa using h41
          by_cases h0 : p0 < 0
          · have HF : Hid (rr = x) := HDONE.out (by rw [hce, decide_eq_true (hend.1 h0)]; simp)
            have e3 : decide ((0 : Int) ≤ p0) = false := by simp; omega
            clear hb124 hb41 hend hce hp0 HDONE h124 h41 h0
            go_wp2_with fail
            refine (peek_any g s x.2.1 k _ HPwr.out).mono ?_
            rintro _ wp ⟨rfl, hb⟩
            have HPwp : Hid (Pt g s x.2.1 k wp) := HPwr.out.next hb
            have HGwp : Hid (Fm (fun b => b = g) w wp) := HGwr.out.trans (Fm.of (X := fun b => b = g) hb) fun _ _ e => e
            have HNwp : Hid (wp.heap[n]? = some (.cells #[.int .i64 0, .int .u64 0, .int .u64 0, .int .u64 0, .int .u64 0, .slice none 0 0] 27)) := (hb.block n (in_heap HNwr.out)).trans HNwr.out
            have HMwp : Hid (wp.heap[m]? = some (.cells #[.int .i64 q.1, .int .u64 (q.2.1.1.toNat : Int), .int .u64 (q.2.1.2.1.toNat : Int), .int .u64 (q.2.1.2.2.1.toNat : Int), .int .u64 (q.2.1.2.2.2.toNat : Int), .slice q.2.2.1 q.2.2.2.1 q.2.2.2.2] 27)) := (hb.block m (in_heap HMwr.out)).trans HMwr.out
            have HRYwp : Hid (Ry wp (fun b => w.heap.size ≤ b ∧ b ≠ n ∧ b ≠ m ∧ b < wp.heap.size) (v6 q) t') := HRYwr.out.move (fun z hz => ⟨hz.1, hz.2.1, hz.2.2.1, Nat.lt_of_lt_of_le hz.2.2.2 hb.size⟩) (fun z hz => hb.block z hz.2.2.2)
            clear hb HPwr HGwr HNwr HMwr HRYwr
            rw [HP0.out]
            go_wp2_with fail
            refine (peek_any g s x.2.1 k _ HPwp.out).mono ?_
            rintro _ wq ⟨rfl, hb⟩
            have HPwq : Hid (Pt g s x.2.1 k wq) := HPwp.out.next hb
            have HGwq : Hid (Fm (fun b => b = g) w wq) := HGwp.out.trans (Fm.of (X := fun b => b = g) hb) fun _ _ e => e
            have HNwq : Hid (wq.heap[n]? = some (.cells #[.int .i64 0, .int .u64 0, .int .u64 0, .int .u64 0, .int .u64 0, .slice none 0 0] 27)) := (hb.block n (in_heap HNwp.out)).trans HNwp.out
            have HMwq : Hid (wq.heap[m]? = some (.cells #[.int .i64 q.1, .int .u64 (q.2.1.1.toNat : Int), .int .u64 (q.2.1.2.1.toNat : Int), .int .u64 (q.2.1.2.2.1.toNat : Int), .int .u64 (q.2.1.2.2.2.toNat : Int), .slice q.2.2.1 q.2.2.2.1 q.2.2.2.2] 27)) := (hb.block m (in_heap HMwp.out)).trans HMwp.out
            have HRYwq : Hid (Ry wq (fun b => w.heap.size ≤ b ∧ b ≠ n ∧ b ≠ m ∧ b < wq.heap.size) (v6 q) t') := HRYwp.out.move (fun z hz => ⟨hz.1, hz.2.1, hz.2.2.1, Nat.lt_of_lt_of_le hz.2.2.2 hb.size⟩) (fun z hz => hb.block z hz.2.2.2)
            clear hb HPwp HGwp HNwp HMwp HRYwp
            rw [HP0.out]
            go_wp2_with fail
            refine (peek_any g s x.2.1 k _ HPwq.out).mono ?_
            rintro _ wv ⟨rfl, hb⟩
            have HPwv : Hid (Pt g s x.2.1 k wv) := HPwq.out.next hb
            have HGwv : Hid (Fm (fun b => b = g) w wv) := HGwq.out.trans (Fm.of (X := fun b => b = g) hb) fun _ _ e => e
            have HNwv : Hid (wv.heap[n]? = some (.cells #[.int .i64 0, .int .u64 0, .int .u64 0, .int .u64 0, .int .u64 0, .slice none 0 0] 27)) := (hb.block n (in_heap HNwq.out)).trans HNwq.out
            have HMwv : Hid (wv.heap[m]? = some (.cells #[.int .i64 q.1, .int .u64 (q.2.1.1.toNat : Int), .int .u64 (q.2.1.2.1.toNat : Int), .int .u64 (q.2.1.2.2.1.toNat : Int), .int .u64 (q.2.1.2.2.2.toNat : Int), .slice q.2.2.1 q.2.2.2.1 q.2.2.2.2] 27)) := (hb.block m (in_heap HMwq.out)).trans HMwq.out
            have HRYwv : Hid (Ry wv (fun b => w.heap.size ≤ b ∧ b ≠ n ∧ b ≠ m ∧ b < wv.heap.size) (v6 q) t') := HRYwq.out.move (fun z hz => ⟨hz.1, hz.2.1, hz.2.2.1, Nat.lt_of_lt_of_le hz.2.2.2 hb.size⟩) (fun z hz => hb.block z hz.2.2.2)
            clear hb HPwq HGwq HNwq HMwq HRYwq
            rw [HP0.out]
            clear HP0
            have HLD : Hid (LQ g s k w n m x q none wv) := ⟨HGwv.out, HNwv.out, HMwv.out, Or.inl ⟨HE.out, rfl, ⟨t', HAL.out, HRYwv.out⟩, HPwv.out⟩⟩
            obtain ⟨wz, HWZ⟩ : ∃ wz, Hid (((((((wv.setCell ⟨n, 0, none⟩ (.int .i64 q.1)).setCell ⟨n, 1, none⟩ (.int .u64 (q.2.1.1.toNat : Int))).setCell ⟨n, 2, none⟩ (.int .u64 (q.2.1.2.1.toNat : Int))).setCell ⟨n, 3, none⟩ (.int .u64 (q.2.1.2.2.1.toNat : Int))).setCell ⟨n, 4, none⟩ (.int .u64 (q.2.1.2.2.2.toNat : Int))).setCell ⟨n, 5, none⟩ (.slice q.2.2.1 q.2.2.2.1 q.2.2.2.2)) = wz) := ⟨_, (rfl : _ = _)⟩
            have HDN : Hid (Fm (fun b => b = g) w wz ∧ QB s g k w.heap.size (fun z => w.heap.size ≤ z ∧ z < wz.heap.size) x q none wz) := HLD.out.done hlt hnw HWZ.out
            have hbn := HLD.out.bn
            have hbm := HLD.out.bm
            have hbz : wz.heap[n]? = some (.cells #[.int .i64 q.1, .int .u64 (q.2.1.1.toNat : Int), .int .u64 (q.2.1.2.1.toNat : Int), .int .u64 (q.2.1.2.2.1.toNat : Int), .int .u64 (q.2.1.2.2.2.toNat : Int), .slice q.2.2.1 q.2.2.2.1 q.2.2.2.2] 27) := by rw [← HWZ.out]; exact put6_at hbn _ _ _ _ _ _
            obtain ⟨⟨d0, d1, d2, d3, d4, d5⟩, df0, df1, df2, df3, df4, df5⟩ := block6 hbm
            obtain ⟨⟨z0, z1, z2, z3, z4, z5⟩, zf0, zf1, zf2, zf3, zf4, zf5⟩ := block6 hbn
            obtain ⟨⟨v0, v1, v2, v3, v4, v5⟩, vf0, vf1, vf2, vf3, vf4, vf5⟩ := block6 hbz
            clear hbn hbm hbz vf0 vf1 vf2 vf3 vf4 vf5
            go_wp2_with fail
            rw [HWZ.out]
            refine bodyPost_ret (v := .tuple #[.agg #[.int .i64 q.1, .int .u64 (q.2.1.1.toNat : Int), .int .u64 (q.2.1.2.1.toNat : Int), .int .u64 (q.2.1.2.2.1.toNat : Int), .int .u64 (q.2.1.2.2.2.toNat : Int), .slice q.2.2.1 q.2.2.2.1 q.2.2.2.2], .pointer none]) (by simp [results, Try.results39, go_sem, v0, v1, v2, v3, v4, v5]) rfl ⟨q, none, rfl, HDN.out.1, ?_⟩
            rw [HF.out]
            exact HDN.out.2
          · have e3 : decide ((0 : Int) ≤ p0) = true := by simp; omega
            have hlt2 : x.2.1 < s.size := by omega
            have HF : Hid (rr = catL s R (s.size + 1) (.mk 4 Cls.empty [x.1, (R (x.2.1)).1], (R (x.2.1)).2)) := by
              show _ = _
              rw [HL.out.2]
              conv => lhs; unfold catL
              rw [if_neg (by simp [HE.out]), if_neg]
              rw [hce, decide_eq_false (fun e => h0 (hend.2 e)), decide_eq_false (fun e => h124 (hb124.2 e)), decide_eq_false (fun e => h41 (hb41.2 e))]
              simp
            clear hb124 hb41 hend hce hp0 HDONE h124 h41 h0
            go_wp2_with fail
            refine (peek_any g s x.2.1 k _ HPwr.out).mono ?_
            rintro _ wp ⟨rfl, hb⟩
            have HPwp : Hid (Pt g s x.2.1 k wp) := HPwr.out.next hb
            have HGwp : Hid (Fm (fun b => b = g) w wp) := HGwr.out.trans (Fm.of (X := fun b => b = g) hb) fun _ _ e => e
            have HNwp : Hid (wp.heap[n]? = some (.cells #[.int .i64 0, .int .u64 0, .int .u64 0, .int .u64 0, .int .u64 0, .slice none 0 0] 27)) := (hb.block n (in_heap HNwr.out)).trans HNwr.out
            have HMwp : Hid (wp.heap[m]? = some (.cells #[.int .i64 q.1, .int .u64 (q.2.1.1.toNat : Int), .int .u64 (q.2.1.2.1.toNat : Int), .int .u64 (q.2.1.2.2.1.toNat : Int), .int .u64 (q.2.1.2.2.2.toNat : Int), .slice q.2.2.1 q.2.2.2.1 q.2.2.2.2] 27)) := (hb.block m (in_heap HMwr.out)).trans HMwr.out
            have HRYwp : Hid (Ry wp (fun b => w.heap.size ≤ b ∧ b ≠ n ∧ b ≠ m ∧ b < wp.heap.size) (v6 q) t') := HRYwr.out.move (fun z hz => ⟨hz.1, hz.2.1, hz.2.2.1, Nat.lt_of_lt_of_le hz.2.2.2 hb.size⟩) (fun z hz => hb.block z hz.2.2.2)
            clear hb HPwr HGwr HNwr HMwr HRYwr
            rw [HP0.out]
            go_wp2_with fail
            refine (peek_any g s x.2.1 k _ HPwp.out).mono ?_
            rintro _ wq ⟨rfl, hb⟩
            have HPwq : Hid (Pt g s x.2.1 k wq) := HPwp.out.next hb
            have HGwq : Hid (Fm (fun b => b = g) w wq) := HGwp.out.trans (Fm.of (X := fun b => b = g) hb) fun _ _ e => e
            have HNwq : Hid (wq.heap[n]? = some (.cells #[.int .i64 0, .int .u64 0, .int .u64 0, .int .u64 0, .int .u64 0, .slice none 0 0] 27)) := (hb.block n (in_heap HNwp.out)).trans HNwp.out
            have HMwq : Hid (wq.heap[m]? = some (.cells #[.int .i64 q.1, .int .u64 (q.2.1.1.toNat : Int), .int .u64 (q.2.1.2.1.toNat : Int), .int .u64 (q.2.1.2.2.1.toNat : Int), .int .u64 (q.2.1.2.2.2.toNat : Int), .slice q.2.2.1 q.2.2.2.1 q.2.2.2.2] 27)) := (hb.block m (in_heap HMwp.out)).trans HMwp.out
            have HRYwq : Hid (Ry wq (fun b => w.heap.size ≤ b ∧ b ≠ n ∧ b ≠ m ∧ b < wq.heap.size) (v6 q) t') := HRYwp.out.move (fun z hz => ⟨hz.1, hz.2.1, hz.2.2.1, Nat.lt_of_lt_of_le hz.2.2.2 hb.size⟩) (fun z hz => hb.block z hz.2.2.2)
            clear hb HPwp HGwp HNwp HMwp HRYwp
            rw [HP0.out]
            go_wp2_with fail
            refine (peek_any g s x.2.1 k _ HPwq.out).mono ?_
            rintro _ wa ⟨rfl, hb⟩
            have HPwa : Hid (Pt g s x.2.1 k wa) := HPwq.out.next hb
            have HGwa : Hid (Fm (fun b => b = g) w wa) := HGwq.out.trans (Fm.of (X := fun b => b = g) hb) fun _ _ e => e
            have HNwa : Hid (wa.heap[n]? = some (.cells #[.int .i64 0, .int .u64 0, .int .u64 0, .int .u64 0, .int .u64 0, .slice none 0 0] 27)) := (hb.block n (in_heap HNwq.out)).trans HNwq.out
            have HMwa : Hid (wa.heap[m]? = some (.cells #[.int .i64 q.1, .int .u64 (q.2.1.1.toNat : Int), .int .u64 (q.2.1.2.1.toNat : Int), .int .u64 (q.2.1.2.2.1.toNat : Int), .int .u64 (q.2.1.2.2.2.toNat : Int), .slice q.2.2.1 q.2.2.2.1 q.2.2.2.2] 27)) := (hb.block m (in_heap HMwq.out)).trans HMwq.out
            have HRYwa : Hid (Ry wa (fun b => w.heap.size ≤ b ∧ b ≠ n ∧ b ≠ m ∧ b < wa.heap.size) (v6 q) t') := HRYwq.out.move (fun z hz => ⟨hz.1, hz.2.1, hz.2.2.1, Nat.lt_of_lt_of_le hz.2.2.2 hb.size⟩) (fun z hz => hb.block z hz.2.2.2)
            clear hb HPwq HGwq HNwq HMwq HRYwq
            rw [HP0.out]
            clear HP0
            have hposle : x.2.1 ≤ s.size := by omega
            obtain ⟨p, HPP⟩ : ∃ p, Hid (wa.heap.size = p) := ⟨_, (rfl : wa.heap.size = wa.heap.size)⟩
            obtain ⟨wb, HB⟩ : ∃ wb, Hid (wa.alloc (.cells #[.int .i64 0, .int .u64 0, .int .u64 0, .int .u64 0, .int .u64 0, .slice none 0 0] 27) = wb) := ⟨_, (rfl : _ = _)⟩
            have hBb : Below wa.heap.size wa wb := HB.out ▸ bal_ _ _
            have hsec := HPC.out g (x.2.1) wb (HPwa.out.next hBb) hposle
            have hgy := HG.out (x.2.1) hposle
            obtain ⟨y, HY⟩ : ∃ y, Hid (R (x.2.1) = y) := ⟨_, (rfl : _ = _)⟩
            rw [HY.out] at hsec hgy HF
            have hbp : wb.heap[p]? = some (.cells #[.int .i64 0, .int .u64 0, .int .u64 0, .int .u64 0, .int .u64 0, .slice none 0 0] 27) := by rw [← HB.out, ← HPP.out]; exact block_new wa _
            have hpg : p ≠ g := by have := HPwa.out.lt; rw [HPP.out] at this; omega
            have hpm : m ≠ p := by have := in_heap HMwa.out; rw [HPP.out] at this; omega
            have hbmb : wb.heap[m]? = some (.cells #[.int .i64 q.1, .int .u64 (q.2.1.1.toNat : Int), .int .u64 (q.2.1.2.1.toNat : Int), .int .u64 (q.2.1.2.2.1.toNat : Int), .int .u64 (q.2.1.2.2.2.toNat : Int), .slice q.2.2.1 q.2.2.2.1 q.2.2.2.2] 27) := (hBb.block m (in_heap HMwa.out)).trans HMwa.out
            clear hBb HL
            go_upto_region 4 with fail
            rw [HPP.out, HB.out]
            go_wp2_with fail
            refine hsec.mono ?_
            rintro _ wc ⟨u, bb, rfl, hfc, hqc⟩
            have hbpc : wc.heap[p]? = some (.cells #[.int .i64 0, .int .u64 0, .int .u64 0, .int .u64 0, .int .u64 0, .slice none 0 0] 27) := (hfc.block p (in_heap hbp) hpg).trans hbp
            have hbmc : wc.heap[m]? = some (.cells #[.int .i64 q.1, .int .u64 (q.2.1.1.toNat : Int), .int .u64 (q.2.1.2.1.toNat : Int), .int .u64 (q.2.1.2.2.1.toNat : Int), .int .u64 (q.2.1.2.2.2.toNat : Int), .slice q.2.2.1 q.2.2.2.1 q.2.2.2.2] 27) := (hfc.block m (in_heap hbmb) (by omega)).trans hbmb
            obtain ⟨⟨z0, z1, z2, z3, z4, z5⟩, zf0, zf1, zf2, zf3, zf4, zf5⟩ := block6 hbpc
            have HFC : Hid (Fm (fun b => b = g) wb wc) := hfc
            have HQC : Hid (QB s g k wb.heap.size (fun b => wb.heap.size ≤ b ∧ b < wc.heap.size) y u bb wc) := hqc
            clear hsec hfc hqc hbp hbmb
            go_upto_region 5 with fail
            obtain ⟨wd, HD⟩ : ∃ wd, Hid (((((((wc.setCell ⟨p, 0, none⟩ (.int .i64 u.1)).setCell ⟨p, 1, none⟩ (.int .u64 (u.2.1.1.toNat : Int))).setCell ⟨p, 2, none⟩ (.int .u64 (u.2.1.2.1.toNat : Int))).setCell ⟨p, 3, none⟩ (.int .u64 (u.2.1.2.2.1.toNat : Int))).setCell ⟨p, 4, none⟩ (.int .u64 (u.2.1.2.2.2.toNat : Int))).setCell ⟨p, 5, none⟩ (.slice u.2.2.1 u.2.2.2.1 u.2.2.2.2)) = wd) := ⟨_, (rfl : _ = _)⟩
            rw [HD.out]
            have hbpd : wd.heap[p]? = some (.cells #[.int .i64 u.1, .int .u64 (u.2.1.1.toNat : Int), .int .u64 (u.2.1.2.1.toNat : Int), .int .u64 (u.2.1.2.2.1.toNat : Int), .int .u64 (u.2.1.2.2.2.toNat : Int), .slice u.2.2.1 u.2.2.2.1 u.2.2.2.2] 27) := HD.out ▸ put6_at hbpc _ _ _ _ _ _
            have hbmd : wd.heap[m]? = some (.cells #[.int .i64 q.1, .int .u64 (q.2.1.1.toNat : Int), .int .u64 (q.2.1.2.1.toNat : Int), .int .u64 (q.2.1.2.2.1.toNat : Int), .int .u64 (q.2.1.2.2.2.toNat : Int), .slice q.2.2.1 q.2.2.2.1 q.2.2.2.2] 27) := HD.out ▸ (put6_other wc p _ _ _ _ _ _ m hpm).trans hbmc
            clear hbpc hbmc z0 zf0 z1 zf1 z2 zf2 z3 zf3 z4 zf4 z5 zf5
            obtain ⟨⟨z0, z1, z2, z3, z4, z5⟩, zf0, zf1, zf2, zf3, zf4, zf5⟩ := block6 hbpd
            obtain ⟨⟨d0, d1, d2, d3, d4, d5⟩, df0, df1, df2, df3, df4, df5⟩ := block6 hbmd
            go_wp2_with fail
            refine (rpair_any 4 q u _).mono ?_
            rintro _ wf ⟨b2, rfl, hb2, hf2, hbf⟩
            have hbmf : wf.heap[m]? = some (.cells #[.int .i64 q.1, .int .u64 (q.2.1.1.toNat : Int), .int .u64 (q.2.1.2.1.toNat : Int), .int .u64 (q.2.1.2.2.1.toNat : Int), .int .u64 (q.2.1.2.2.2.toNat : Int), .slice q.2.2.1 q.2.2.2.1 q.2.2.2.2] 27) := (hbf.block m (in_heap hbmd)).trans hbmd
            obtain ⟨wz, HWZ⟩ : ∃ wz, Hid (((((((wf.setCell ⟨m, 0, none⟩ (.int .i64 4)).setCell ⟨m, 1, none⟩ (.int .u64 0)).setCell ⟨m, 2, none⟩ (.int .u64 0)).setCell ⟨m, 3, none⟩ (.int .u64 0)).setCell ⟨m, 4, none⟩ (.int .u64 0)).setCell ⟨m, 5, none⟩ (.slice (some ⟨b2, 0, none⟩) 2 2)) = wz) := ⟨_, (rfl : _ = _)⟩
            have HST : Hid (LQ g s k w n m (.mk 4 Cls.empty [x.1, y.1], y.2) (4, Cls.empty, some ⟨b2, 0, none⟩, 2, 2) bb wz) := LQ.step 4 (by omega) HGwa.out HNwa.out HMwa.out HAL.out HRYwa.out hlt hnw hmw hnm HB.out HFC.out HQC.out (by rw [HPP.out]; exact HD.out) hbf hb2 hf2 HWZ.out
            clear hbf hb2 hf2 hbpd hbmd z0 zf0 z1 zf1 z2 zf2 z3 zf3 z4 zf4 z5 zf5 d0 df0 d1 df1 d2 df2 d3 df3 d4 df4 d5 df5
            obtain ⟨⟨d0, d1, d2, d3, d4, d5⟩, df0, df1, df2, df3, df4, df5⟩ := block6 hbmf
            go_wp2_with fail
            rw [HWZ.out]
            have hrest : rest s (T.mk 4 Cls.empty [x.1, y.1], y.2) < rest s x := by
              unfold rest
              rw [if_pos HE.out]
              simp only
              split
              · rename_i e; have := hgy.2.2 e; omega
              · omega
            refine ⟨⟨(.mk 4 Cls.empty [x.1, y.1], y.2), (4, Cls.empty, some ⟨b2, 0, none⟩, 2, 2), bb, rfl, hgy.2.1, HST.out, ?_⟩, ?_⟩
            · rw [HF.out]
              refine catL_more s R HG.out (s.size + 1) (s.size + 2) _ hgy.2.1 ?_ ?_
              · have : rest s x ≤ s.size + 1 := by unfold rest; split <;> omega
                omega
              · have : rest s x ≤ s.size + 1 := by unfold rest; split <;> omega
                omega
            · have h2 := restQ_eq HST.out.qb
              refine Nat.lt_of_le_of_lt (Nat.le_of_eq h2) ?_
              rw [HMEA.out]; exact hrest
    · subst hbb
      have HF : Hid (rr = x) := by show _ = _; rw [HL.out.2]; unfold catL; rw [if_pos he]
      clear he HMEA
      have HLD : Hid (LQ g s k w n m x q (some ⟨st, 0, none⟩) wr) := HL.out.1
      obtain ⟨wz, HWZ⟩ : ∃ wz, Hid (((((((wr.setCell ⟨n, 0, none⟩ (.int .i64 q.1)).setCell ⟨n, 1, none⟩ (.int .u64 (q.2.1.1.toNat : Int))).setCell ⟨n, 2, none⟩ (.int .u64 (q.2.1.2.1.toNat : Int))).setCell ⟨n, 3, none⟩ (.int .u64 (q.2.1.2.2.1.toNat : Int))).setCell ⟨n, 4, none⟩ (.int .u64 (q.2.1.2.2.2.toNat : Int))).setCell ⟨n, 5, none⟩ (.slice q.2.2.1 q.2.2.2.1 q.2.2.2.2)) = wz) := ⟨_, (rfl : _ = _)⟩
      have HDN : Hid (Fm (fun b => b = g) w wz ∧ QB s g k w.heap.size (fun z => w.heap.size ≤ z ∧ z < wz.heap.size) x q (some ⟨st, 0, none⟩) wz) := HLD.out.done hlt hnw HWZ.out
      have hbn := HLD.out.bn
      have hbm := HLD.out.bm
      have hbz : wz.heap[n]? = some (.cells #[.int .i64 q.1, .int .u64 (q.2.1.1.toNat : Int), .int .u64 (q.2.1.2.1.toNat : Int), .int .u64 (q.2.1.2.2.1.toNat : Int), .int .u64 (q.2.1.2.2.2.toNat : Int), .slice q.2.2.1 q.2.2.2.1 q.2.2.2.2] 27) := by rw [← HWZ.out]; exact put6_at hbn _ _ _ _ _ _
      obtain ⟨⟨d0, d1, d2, d3, d4, d5⟩, df0, df1, df2, df3, df4, df5⟩ := block6 hbm
      obtain ⟨⟨z0, z1, z2, z3, z4, z5⟩, zf0, zf1, zf2, zf3, zf4, zf5⟩ := block6 hbn
      obtain ⟨⟨v0, v1, v2, v3, v4, v5⟩, vf0, vf1, vf2, vf3, vf4, vf5⟩ := block6 hbz
      clear hbn hbm hbz vf0 vf1 vf2 vf3 vf4 vf5
      go_wp2_with fail
      rw [HWZ.out]
      refine bodyPost_ret (v := .tuple #[.agg #[.int .i64 q.1, .int .u64 (q.2.1.1.toNat : Int), .int .u64 (q.2.1.2.1.toNat : Int), .int .u64 (q.2.1.2.2.1.toNat : Int), .int .u64 (q.2.1.2.2.2.toNat : Int), .slice q.2.2.1 q.2.2.2.1 q.2.2.2.2], .pointer (some ⟨st, 0, none⟩)]) (by simp [results, Try.results39, go_sem, v0, v1, v2, v3, v4, v5]) rfl ⟨q, (some ⟨st, 0, none⟩), rfl, HDN.out.1, ?_⟩
      rw [HF.out]
      exact HDN.out.2
end Go.Proofs.Ythloedfiomfnbaa

namespace Go.Proofs.Ythloedfiomfnbaa
open Go.RowKit
open Cls Rex Txt

set_option maxHeartbeats 8000000 in
set_option maxRecDepth 20000 in
theorem weight_all : ∀ (m : Nat) (t : T), t.sz ≤ m → ∀ (v : Value) (n B : Nat) (w : World), Rx w B v t → n ≤ 101 → B ≤ w.heap.size →
    Calls Try.prog 69 #[v, .int .i64 (n : Int)] w fun e w' => e = .returned (.int .i64 (wt t n : Int)) ∧ Below w.heap.size w w'
  | 0, t, hm => by have := t.sz_pos; omega
  | m + 1, t, hm => by
    intro v n B w hx hn hBw
    obtain ⟨k, c, ao, cap, kids, vals, rfl, rfl, hk, hkm, hc, hr⟩ := hx.shape
    have HKS : Hid (∀ s ∈ kids, s.sz ≤ m) := fun s hs => by have := T.sz_lt (t := .mk k c kids) hs; omega
    have HR : Hid (∀ i (hi : i < kids.length), ∃ b o, ao = some ⟨b, o, none⟩ ∧ b < B ∧ Rx w B (vals i) kids[i] ∧ ∀ j, j < 6 → w.cell? ⟨b, o + i * 6 + j, none⟩ = (vals i).cells[j]?) := fun i hi => by
      rcases hc with h | ⟨b, o, h1, h2, h3⟩
      · subst h; cases hi
      · exact ⟨b, o, h1, h2, hr i hi, h3 i hi⟩
    have HE : Hid (wt (.mk k c kids) n = wtL kids (n + 1)) := by show _ = _; rw [wt]
    obtain ⟨W2, HW2⟩ : ∃ W2, Hid (w.alloc (.cells #[.int .i64 k, .int .u64 (c.1.toNat : Int), .int .u64 (c.2.1.toNat : Int), .int .u64 (c.2.2.1.toNat : Int), .int .u64 (c.2.2.2.toNat : Int), .slice ao kids.length cap] 27) = W2) := ⟨_, (rfl : _ = _)⟩
    have HB2 : Hid (Below w.heap.size w W2) := HW2.out ▸ bal_ _ _
    have HS2 : Hid (W2.heap[w.heap.size]? = some (.cells #[.int .i64 k, .int .u64 (c.1.toNat : Int), .int .u64 (c.2.1.toNat : Int), .int .u64 (c.2.2.1.toNat : Int), .int .u64 (c.2.2.2.toNat : Int), .slice ao kids.length cap] 27)) := by
      show _ = _
      rw [← HW2.out]; exact block_new w _
    clear hx hc hr
    go_enter Try.func69, Try.ntmps69
    go_upto_region 3 with fail
    rw [HW2.out]
    go_loopw [1, 5] (fun v1 v5 wr => ∃ (cu i : Nat), i ≤ kids.length ∧ v1 = .int .i64 (cu : Int) ∧ v5 = .int .i64 (i : Int) ∧ cu ≤ 102 ∧ Hid (wtL (kids.drop i) cu = wtL kids (n + 1) ∧ wr.heap[w.heap.size]? = some (.cells #[.int .i64 k, .int .u64 (c.1.toNat : Int), .int .u64 (c.2.1.toNat : Int), .int .u64 (c.2.2.1.toNat : Int), .int .u64 (c.2.2.2.toNat : Int), .slice ao kids.length cap] 27) ∧ Below w.heap.size w wr)) (fun v1 v5 wr => kids.length - (intOf v5).toNat)
    case atStart => exact ⟨n + 1, 0, by omega, by go_num, rfl, by omega, ⟨rfl, HS2.out, HB2.out⟩⟩
    case round =>
      clear HB2 HS2 HW2
      obtain ⟨cu, i, hi, rfl, rfl, hcu, HI⟩ := hrel
      have t5 := (block6 HI.out.2.1).1.2.2.2.2.2
      by_cases hlt : i < kids.length
      · by_cases h101 : cu ≤ 101
        · obtain ⟨b, o, hao, hbB, hrx, hcl⟩ := HR.out i hlt
          have HX : Hid (Rx wr B (vals i) kids[i]) := hrx.next (HI.out.2.2.mono hBw)
          obtain ⟨k', c', ao', n', cap', hv, q0, q1, q2, q3, q4, q5⟩ := kid_cells HX.out (fun j hj => ((HI.out.2.2.mono hBw).cell (p := ⟨b, o + i * 6 + j, none⟩) hbB).trans (hcl j hj))
          have hcall := weight_all m kids[i] (HKS.out _ (List.getElem_mem hlt)) (vals i) cu B wr HX.out h101 (Nat.le_trans hBw HI.out.2.2.size)
          have hwl := wt_le kids[i] cu h101
          have HT : Hid (wtL (kids.drop (i + 1)) (wt kids[i] cu) = wtL kids (n + 1)) := by
            show _ = _
            rw [← HI.out.1, List.drop_eq_getElem_cons hlt]
            conv => rhs; rw [wtL, if_pos h101]
          obtain ⟨nn, HNN⟩ : ∃ nn, Hid (wt kids[i] cu = nn) := ⟨_, (rfl : wt kids[i] cu = wt kids[i] cu)⟩
          rw [HNN.out] at hcall hwl HT
          rw [hv] at hcall
          subst hao
          have HCL : Hid (Calls Try.prog 69 #[.agg #[.int .i64 k', .int .u64 (c'.1.toNat : Int), .int .u64 (c'.2.1.toNat : Int), .int .u64 (c'.2.2.1.toNat : Int), .int .u64 (c'.2.2.2.toNat : Int), .slice ao' n' cap'], .int .i64 (cu : Int)] wr fun e w' => e = .returned (.int .i64 (nn : Int)) ∧ Below wr.heap.size wr w') := hcall
          have hd : decide ((cu : Int) ≤ 101) = true := by simp; omega
          clear hcall hcl hrx hv HX
          go_wp2_with (go_at_call 69; refine HCL.out.mono ?_; rintro e W4 ⟨rfl, hb4⟩)
          go_roundw
          case rel => exact ⟨nn, i + 1, by omega, rfl, by go_num, hwl, ⟨HT.out, (hb4.block _ (in_heap HI.out.2.1)).trans HI.out.2.1, HI.out.2.2.trans (hb4.mono HI.out.2.2.size)⟩⟩
          case measure => simp [intOf]; omega
        · have hd : decide ((cu : Int) ≤ 101) = false := by simp; omega
          have HF : Hid (wtL kids (n + 1) = cu) := by
            show _ = _
            rw [← HI.out.1, List.drop_eq_getElem_cons hlt, wtL, if_neg h101]
          clear h101
          go_wp2_with fail
          go_ret
          rw [HE.out, HF.out]
          exact ⟨rfl, HI.out.2.2⟩
      · have HF : Hid (wtL kids (n + 1) = cu) := by
          show _ = _
          rw [← HI.out.1, List.drop_eq_nil_of_le (by omega), wtL]
        have hd : decide ((i : Int) < (kids.length : Int)) = false := by simp; omega
        go_wp2_with fail
        go_ret
        rw [HE.out, HF.out]
        exact ⟨rfl, HI.out.2.2⟩
/-- What a tree weighs. -/
theorem weight_any (t : T) (q : R6) (B : Nat) (w : World) (hx : Rx w B (v6 q) t) (hB : B ≤ w.heap.size) :
    Calls Try.prog 69 #[.agg #[.int .i64 q.1, .int .u64 (q.2.1.1.toNat : Int), .int .u64 (q.2.1.2.1.toNat : Int), .int .u64 (q.2.1.2.2.1.toNat : Int), .int .u64 (q.2.1.2.2.2.toNat : Int), .slice q.2.2.1 q.2.2.2.1 q.2.2.2.2], .int .i64 0] w fun e w' => e = .returned (.int .i64 (wt t 0 : Int)) ∧ Below w.heap.size w w' := weight_all t.sz t (Nat.le_refl _) (v6 q) 0 B w hx (by omega) hB
end Go.Proofs.Ythloedfiomfnbaa

namespace Go.Proofs.Ythloedfiomfnbaa
open Go.RowKit
open Cls Rex Txt

/-- A tree is put anew, made of what is new and of what was. -/
theorem turnQ {g : Nat} {s : ByteArray} {k : Value} {w : World} {n m j : Nat} {q q2 : R6} {wa wf wz : World} {t2 : T} (hlt : g < w.heap.size) (hnw : w.heap.size ≤ n) (hmw : w.heap.size ≤ m) (hnm : n ≠ m)
    (hgr : Fm (fun b => b = g) w wa) (hbn : wa.heap[n]? = some (.cells #[.int .i64 0, .int .u64 0, .int .u64 0, .int .u64 0, .int .u64 0, .slice none 0 0] 27)) (hbm : wa.heap[m]? = some (.cells #[.int .i64 q.1, .int .u64 (q.2.1.1.toNat : Int), .int .u64 (q.2.1.2.1.toNat : Int), .int .u64 (q.2.1.2.2.1.toNat : Int), .int .u64 (q.2.1.2.2.2.toNat : Int), .slice q.2.2.1 q.2.2.2.1 q.2.2.2.2] 27)) (hp : Pt g s j k wa) (hB : Below wa.heap.size wa wf) (hry : Ry wf (fun b => w.heap.size ≤ b ∧ b ≠ n ∧ b ≠ m ∧ b < wf.heap.size) (v6 q2) t2) (hz : put6 wf m (.int .i64 q2.1) (.int .u64 (q2.2.1.1.toNat : Int)) (.int .u64 (q2.2.1.2.1.toNat : Int)) (.int .u64 (q2.2.1.2.2.1.toNat : Int)) (.int .u64 (q2.2.1.2.2.2.toNat : Int)) (.slice q2.2.2.1 q2.2.2.2.1 q2.2.2.2.2) = wz) :
    Fm (fun b => b = g) w wz ∧ wz.heap[n]? = some (.cells #[.int .i64 0, .int .u64 0, .int .u64 0, .int .u64 0, .int .u64 0, .slice none 0 0] 27) ∧ wz.heap[m]? = some (.cells #[.int .i64 q2.1, .int .u64 (q2.2.1.1.toNat : Int), .int .u64 (q2.2.1.2.1.toNat : Int), .int .u64 (q2.2.1.2.2.1.toNat : Int), .int .u64 (q2.2.1.2.2.2.toNat : Int), .slice q2.2.2.1 q2.2.2.2.1 q2.2.2.2.2] 27) ∧ Ry wz (fun b => w.heap.size ≤ b ∧ b ≠ n ∧ b ≠ m ∧ b < wz.heap.size) (v6 q2) t2 ∧ Pt g s j k wz := by
  have sa := hgr.size
  have sf := hB.size
  have sz : wz.heap.size = wf.heap.size := by rw [← hz]; exact put6_size _ _ _ _ _ _ _ _
  have fo : ∀ z, z ≠ m → wz.heap[z]? = wf.heap[z]? := fun z hzm => by rw [← hz]; exact put6_other wf m _ _ _ _ _ _ z hzm
  have hna := in_heap hbn
  have hma := in_heap hbm
  refine ⟨⟨by rw [← hz, put6_os, hB.os, hgr.os], by rw [← hz, put6_tape, hB.tape, hgr.tape], by rw [← hz, put6_output, hB.output, hgr.output], by omega, fun z hzz hn => by rw [fo z (by omega), hB.block z (by omega)]; exact hgr.block z hzz hn⟩, ?_, ?_, ?_, ?_⟩
  · rw [fo n hnm, hB.block n hna]; exact hbn
  · rw [← hz]; exact put6_at (by rw [hB.block m hma]; exact hbm) _ _ _ _ _ _
  · exact hry.move (fun z hz => ⟨hz.1, hz.2.1, hz.2.2.1, by omega⟩) (fun z hz => fo z hz.2.2.1)
  · unfold Pt; rw [fo g (by omega), hB.block g hp.lt]; exact hp
set_option maxHeartbeats 8000000 in
set_option maxRecDepth 20000 in
theorem rrep_any (s : ByteArray) (hs : s.size ≤ 300) (k : Value) (R : Nat → Res) (hG : Goes s R) (hC : QC 68 s k R) : QC 55 s k (repR s R) := by
  intro g i w hP hi
  have hlt := hP.lt
  obtain ⟨n, HN⟩ : ∃ n, Hid (w.heap.size = n) := ⟨_, (rfl : w.heap.size = w.heap.size)⟩
  obtain ⟨W0, HW⟩ : ∃ W0, Hid (w.alloc (.cells #[.int .i64 0, .int .u64 0, .int .u64 0, .int .u64 0, .int .u64 0, .slice none 0 0] 27) = W0) := ⟨_, (rfl : _ = _)⟩
  have hB0 : Below w.heap.size w W0 := HW.out ▸ bal_ _ _
  have hnw : w.heap.size ≤ n := by rw [HN.out]; exact Nat.le_refl _
  have hfirst := hC g i W0 (hP.next hB0) hi
  have hgi := hG i hi
  obtain ⟨rr, HRR⟩ : ∃ rr, Hid (repR s R i = rr) := ⟨_, (rfl : repR s R i = repR s R i)⟩
  have HFN : Hid (rr = if (R i).2.2 ≠ 0 then R i else repL s (s.size + 1) (R i).1 (R i).2.1) := by show _ = _; rw [← HRR.out]; unfold repR; rfl
  obtain ⟨t0, j0, e, HX0⟩ : ∃ t0 j0 e, Hid (R i = (t0, j0, e)) := ⟨_, _, _, (rfl : R i = ((R i).1, (R i).2.1, (R i).2.2))⟩
  rw [HX0.out] at hfirst hgi HFN
  rw [HRR.out]
  clear hP hB0 hG hC
  go_enter Try.func55, Try.ntmps55
  go_upto_region 1 with fail
  rw [HN.out, HW.out]
  go_upto_region 2 with (go_at_call 68; refine hfirst.mono ?_; rintro _ w1 ⟨q0, b0, rfl, hf1, hq1⟩)
  obtain ⟨m, HM⟩ : ∃ m, Hid (w1.heap.size = m) := ⟨_, (rfl : w1.heap.size = w1.heap.size)⟩
  obtain ⟨W2, HW2⟩ : ∃ W2, Hid (w1.alloc (.cells #[.int .i64 q0.1, .int .u64 (q0.2.1.1.toNat : Int), .int .u64 (q0.2.1.2.1.toNat : Int), .int .u64 (q0.2.1.2.2.1.toNat : Int), .int .u64 (q0.2.1.2.2.2.toNat : Int), .slice q0.2.2.1 q0.2.2.2.1 q0.2.2.2.2] 27) = W2) := ⟨_, (rfl : _ = _)⟩
  have HL : Hid (LQ g s k w n m (t0, j0, e) q0 b0 W2) := by
    show LQ _ _ _ _ _ _ _ _ _ _
    rw [← HN.out, ← HM.out]
    exact LQ.start hlt HW.out hf1 hq1 HW2.out
  have hs0 : W0.heap.size = w.heap.size + 1 := by rw [← HW.out]; simp
  have hs1 := hf1.size
  have hnm : n ≠ m := by rw [← HN.out, ← HM.out]; omega
  have hmw : w.heap.size ≤ m := by rw [← HM.out]; omega
  rw [HM.out, HW2.out]
  clear hf1 hq1 hfirst hs0 hs1 HN HM HW HW2 HX0
  go_loopw [] (fun wr => ∃ (t : T) (j : Nat) (q : R6), j ≤ s.size ∧ Hid (LQ g s k w n m (t, j, e) q b0 wr ∧ rr = if e ≠ 0 then (t, j, e) else repL s (s.size + 1) t j)) (fun wr => s.size - posOf g wr)
  case atStart => exact ⟨t0, j0, q0, hgi.2.1, HL.out, HFN.out⟩
  case round =>
    clear HL HFN hgi HRR
    obtain ⟨t, j, q, hj, HL⟩ := hrel
    rcases HL.out.1.qb with ⟨he, hbb, ⟨t', hal, hry⟩, hps⟩ | ⟨he, st, hbb, -⟩
    · subst hbb
      have he2 : e = 0 := he
      have hrr : rr = repL s (s.size + 1) t j := by rw [HL.out.2, if_neg (by simp [he2])]
      unfold repL at hrr
      have HE : Hid (e = 0) := he2
      have HPwr : Hid (Pt g s j k wr) := hps
      have HRYwr : Hid (Ry wr (fun b => w.heap.size ≤ b ∧ b ≠ n ∧ b ≠ m ∧ b < wr.heap.size) (v6 q) t') := hry
      have HAL : Hid (Al t t') := hal
      have HGwr : Hid (Fm (fun b => b = g) w wr) := HL.out.1.gr
      have HNwr : Hid (wr.heap[n]? = some (.cells #[.int .i64 0, .int .u64 0, .int .u64 0, .int .u64 0, .int .u64 0, .slice none 0 0] 27)) := HL.out.1.bn
      have HMwr : Hid (wr.heap[m]? = some (.cells #[.int .i64 q.1, .int .u64 (q.2.1.1.toNat : Int), .int .u64 (q.2.1.2.1.toNat : Int), .int .u64 (q.2.1.2.2.1.toNat : Int), .int .u64 (q.2.1.2.2.2.toNat : Int), .slice q.2.2.1 q.2.2.2.1 q.2.2.2.2] 27)) := HL.out.1.bm
      have HPOS : Hid (posOf g wr = j) := hps.pos
      clear hps hry hal he he2 HL
      obtain ⟨p0, HP0⟩ : ∃ p0, Hid (pk s j = p0) := ⟨_, (rfl : pk s j = pk s j)⟩
      have hp0 := pk_in s j
      have h42 := pk_is s j 42 (by omega)
      have h43 := pk_is s j 43 (by omega)
      have h63 := pk_is s j 63 (by omega)
      rw [HP0.out] at hp0 h42 h43 h63
      by_cases e42 : p0 = 42
      · rw [if_pos (h42.1 e42)] at hrr
        have HF : Hid (rr = repL s s.size (.mk 6 empty [t]) (j + 1)) := hrr
        have hj1 : j + 1 ≤ s.size := bt_is (h42.1 e42) (by decide)
        subst e42
        clear hrr h42 h43 h63 hp0
        go_wp2_with fail
        refine (peek_any g s j k _ HPwr.out).mono ?_
        rintro _ wp ⟨rfl, hb⟩
        have HPwp : Hid (Pt g s j k wp) := HPwr.out.next hb
        have HGwp : Hid (Fm (fun b => b = g) w wp) := HGwr.out.trans (Fm.of (X := fun b => b = g) hb) fun _ _ e => e
        have HNwp : Hid (wp.heap[n]? = some (.cells #[.int .i64 0, .int .u64 0, .int .u64 0, .int .u64 0, .int .u64 0, .slice none 0 0] 27)) := (hb.block n (in_heap HNwr.out)).trans HNwr.out
        have HMwp : Hid (wp.heap[m]? = some (.cells #[.int .i64 q.1, .int .u64 (q.2.1.1.toNat : Int), .int .u64 (q.2.1.2.1.toNat : Int), .int .u64 (q.2.1.2.2.1.toNat : Int), .int .u64 (q.2.1.2.2.2.toNat : Int), .slice q.2.2.1 q.2.2.2.1 q.2.2.2.2] 27)) := (hb.block m (in_heap HMwr.out)).trans HMwr.out
        have HRYwp : Hid (Ry wp (fun b => w.heap.size ≤ b ∧ b ≠ n ∧ b ≠ m ∧ b < wp.heap.size) (v6 q) t') := HRYwr.out.move (fun z hz => ⟨hz.1, hz.2.1, hz.2.2.1, Nat.lt_of_lt_of_le hz.2.2.2 hb.size⟩) (fun z hz => hb.block z hz.2.2.2)
        clear hb HPwr HGwr HNwr HMwr HRYwr
        rw [HP0.out]
        have hbm := HMwp.out
        obtain ⟨pn, HPN⟩ : ∃ pn, Hid (wp.heap.size = pn) := ⟨_, (rfl : wp.heap.size = wp.heap.size)⟩
        obtain ⟨⟨d0, d1, d2, d3, d4, d5⟩, df0, df1, df2, df3, df4, df5⟩ := block6 hbm
        obtain ⟨we, HWE⟩ : ∃ we, Hid (wp.alloc (.cells #[.int .i64 q.1, .int .u64 (q.2.1.1.toNat : Int), .int .u64 (q.2.1.2.1.toNat : Int), .int .u64 (q.2.1.2.2.1.toNat : Int), .int .u64 (q.2.1.2.2.2.toNat : Int), .slice q.2.2.1 q.2.2.2.1 q.2.2.2.2] 27) = we) := ⟨_, (rfl : _ = _)⟩
        have hBe : Below wp.heap.size wp we := HWE.out ▸ bal_ _ _
        have hrow : we.heap[pn]? = some (.cells #[.int .i64 q.1, .int .u64 (q.2.1.1.toNat : Int), .int .u64 (q.2.1.2.1.toNat : Int), .int .u64 (q.2.1.2.2.1.toNat : Int), .int .u64 (q.2.1.2.2.2.toNat : Int), .slice q.2.2.1 q.2.2.2.1 q.2.2.2.2] 27) := by rw [← HPN.out, ← HWE.out]; exact block_new wp _
        have hpe := in_heap hrow
        have hln := in_heap HNwp.out
        have hlm := in_heap hbm
        have hww := HGwp.out.size
        rw [HPN.out] at hln hlm hww
        have hbmE : (wp.alloc (.cells #[.int .i64 q.1, .int .u64 (q.2.1.1.toNat : Int), .int .u64 (q.2.1.2.1.toNat : Int), .int .u64 (q.2.1.2.2.1.toNat : Int), .int .u64 (q.2.1.2.2.2.toNat : Int), .slice q.2.2.1 q.2.2.2.1 q.2.2.2.2] 27)).heap[m]? = some (.cells #[.int .i64 q.1, .int .u64 (q.2.1.1.toNat : Int), .int .u64 (q.2.1.2.1.toNat : Int), .int .u64 (q.2.1.2.2.1.toNat : Int), .int .u64 (q.2.1.2.2.2.toNat : Int), .slice q.2.2.1 q.2.2.2.1 q.2.2.2.2] 27) := (Below.heap_alloc _ _ _ (in_heap hbm)).trans hbm
        obtain ⟨⟨e0, e1, e2, e3, e4, e5⟩, ef0, ef1, ef2, ef3, ef4, ef5⟩ := block6 hbmE
        go_upto_region 14 with fail
        clear e0 ef0 e1 ef1 e2 ef2 e3 ef3 e4 ef4 e5 ef5 hbmE
        rw [HPN.out, HWE.out]
        obtain ⟨wz, HWZ⟩ : ∃ wz, Hid (((((((we.setCell ⟨m, 0, none⟩ (.int .i64 6)).setCell ⟨m, 1, none⟩ (.int .u64 0)).setCell ⟨m, 2, none⟩ (.int .u64 0)).setCell ⟨m, 3, none⟩ (.int .u64 0)).setCell ⟨m, 4, none⟩ (.int .u64 0)).setCell ⟨m, 5, none⟩ (.slice (some ⟨pn, 0, none⟩) 1 1)) = wz) := ⟨_, (rfl : _ = _)⟩
        rw [HWZ.out]
        have HT : Hid (Fm (fun b => b = g) w wz ∧ wz.heap[n]? = some (.cells #[.int .i64 0, .int .u64 0, .int .u64 0, .int .u64 0, .int .u64 0, .slice none 0 0] 27) ∧ wz.heap[m]? = some (.cells #[.int .i64 6, .int .u64 0, .int .u64 0, .int .u64 0, .int .u64 0, .slice (some ⟨pn, 0, none⟩) 1 1] 27) ∧ Ry wz (fun b => w.heap.size ≤ b ∧ b ≠ n ∧ b ≠ m ∧ b < wz.heap.size) (v6 (6, Cls.empty, some ⟨pn, 0, none⟩, 1, 1)) (.mk 6 Cls.empty [t']) ∧ Pt g s j k wz) := turnQ (q2 := (6, Cls.empty, some ⟨pn, 0, none⟩, 1, 1)) hlt hnw hmw hnm HGwp.out HNwp.out HMwp.out HPwp.out hBe (Ry.one 6 (by omega) hrow ⟨by omega, by omega, by omega, hpe⟩ (HRYwp.out.move (fun z hz => ⟨hz.1, hz.2.1, hz.2.2.1, Nat.lt_of_lt_of_le hz.2.2.2 (hBe).size⟩) (fun z hz => (hBe).block z hz.2.2.2))) HWZ.out
        clear d0 df0 d1 df1 d2 df2 d3 df3 d4 df4 d5 df5 hbm hBe hrow hpe hln hlm hww HWE HPwp HGwp HNwp HMwp HRYwp
        have HPwz : Hid (Pt g s j k wz) := HT.out.2.2.2.2
        have c1 := HPwz.out.cells.1.2.1
        have f1 := HPwz.out.cells.2.2.1
        obtain ⟨ws, HWS⟩ : ∃ ws, Hid (wz.setCell ⟨g, 1, none⟩ (.int .i64 ((j : Int) + 1)) = ws) := ⟨_, (rfl : _ = _)⟩
        have hfs : Fm (fun b => b = g) wz ws := by rw [← HWS.out]; exact Fm.set _ rfl
        have hpg : Pt g s (j + 1) k ws := by
          rw [← HWS.out]
          have := HPwz.out.set1 (j + 1)
          rw [show (((j + 1 : Nat)) : Int) = (j : Int) + 1 by omega] at this
          exact this
        have HST : Hid (LQ g s k w n m (.mk 6 Cls.empty [t], j + 1, e) (6, Cls.empty, some ⟨pn, 0, none⟩, 1, 1) none ws) := ⟨HT.out.1.trans hfs fun _ _ e => e, (hfs.block n (in_heap HT.out.2.1) (by omega)).trans HT.out.2.1, (hfs.block m (in_heap HT.out.2.2.1) (by omega)).trans HT.out.2.2.1, Or.inl ⟨HE.out, rfl, ⟨(.mk 6 Cls.empty [t']), al_one 6 Cls.empty HAL.out, HT.out.2.2.2.1.move (fun z hz => ⟨hz.1, hz.2.1, hz.2.2.1, Nat.lt_of_lt_of_le hz.2.2.2 hfs.size⟩) (fun z hz => hfs.block z hz.2.2.2 (by omega))⟩, hpg⟩⟩
        have HPS : Hid (posOf g ws = j + 1) := hpg.pos
        clear hfs hpg
        go_wp2_with fail
        rw [HWS.out]
        refine ⟨⟨.mk 6 Cls.empty [t], j + 1, (6, Cls.empty, some ⟨pn, 0, none⟩, 1, 1), hj1, HST.out, ?_⟩, ?_⟩
        · rw [if_neg (by simp [HE.out]), HF.out]
          exact repL_more s s.size (s.size + 1) _ _ hj1 (by omega) (by omega)
        · refine Nat.lt_of_le_of_lt (Nat.le_of_eq (congrArg (s.size - ·) HPS.out)) ?_
          rw [HPOS.out]; omega
      · rw [if_neg (fun e => e42 (h42.2 e))] at hrr
        have b42 : (p0 == 42) = false := by simpa using e42
        by_cases e63 : p0 = 63
        · have e43 : ¬ bt s j = 43 := fun e => by have := h43.2 e; omega
          rw [if_neg e43, if_pos (h63.1 e63)] at hrr
          have HF : Hid (rr = repL s s.size (.mk 5 empty [t, .mk 2 empty []]) (j + 1)) := hrr
          have hj1 : j + 1 ≤ s.size := bt_is (h63.1 e63) (by decide)
          subst e63
          clear hrr h42 h43 h63 hp0 e42 e43
          go_wp2_with fail
          refine (peek_any g s j k _ HPwr.out).mono ?_
          rintro _ wp ⟨rfl, hb⟩
          have HPwp : Hid (Pt g s j k wp) := HPwr.out.next hb
          have HGwp : Hid (Fm (fun b => b = g) w wp) := HGwr.out.trans (Fm.of (X := fun b => b = g) hb) fun _ _ e => e
          have HNwp : Hid (wp.heap[n]? = some (.cells #[.int .i64 0, .int .u64 0, .int .u64 0, .int .u64 0, .int .u64 0, .slice none 0 0] 27)) := (hb.block n (in_heap HNwr.out)).trans HNwr.out
          have HMwp : Hid (wp.heap[m]? = some (.cells #[.int .i64 q.1, .int .u64 (q.2.1.1.toNat : Int), .int .u64 (q.2.1.2.1.toNat : Int), .int .u64 (q.2.1.2.2.1.toNat : Int), .int .u64 (q.2.1.2.2.2.toNat : Int), .slice q.2.2.1 q.2.2.2.1 q.2.2.2.2] 27)) := (hb.block m (in_heap HMwr.out)).trans HMwr.out
          have HRYwp : Hid (Ry wp (fun b => w.heap.size ≤ b ∧ b ≠ n ∧ b ≠ m ∧ b < wp.heap.size) (v6 q) t') := HRYwr.out.move (fun z hz => ⟨hz.1, hz.2.1, hz.2.2.1, Nat.lt_of_lt_of_le hz.2.2.2 hb.size⟩) (fun z hz => hb.block z hz.2.2.2)
          clear hb HPwr HGwr HNwr HMwr HRYwr
          rw [HP0.out]
          have hbm := HMwp.out
          obtain ⟨⟨d0, d1, d2, d3, d4, d5⟩, df0, df1, df2, df3, df4, df5⟩ := block6 hbm
          have hln := in_heap HNwp.out
          have hlm := in_heap hbm
          have hww := HGwp.out.size
          go_wp2_with fail
          refine (rpair_any 5 q (2, Cls.empty, none, 0, 0) _).mono ?_
          rintro _ wf ⟨b2, rfl, hb2, hf2, hbf⟩
          have hbmf : wf.heap[m]? = some (.cells #[.int .i64 q.1, .int .u64 (q.2.1.1.toNat : Int), .int .u64 (q.2.1.2.1.toNat : Int), .int .u64 (q.2.1.2.2.1.toNat : Int), .int .u64 (q.2.1.2.2.2.toNat : Int), .slice q.2.2.1 q.2.2.2.1 q.2.2.2.2] 27) := (hbf.block m hlm).trans hbm
          have hpe := in_heap hf2
          obtain ⟨wz, HWZ⟩ : ∃ wz, Hid (((((((wf.setCell ⟨m, 0, none⟩ (.int .i64 5)).setCell ⟨m, 1, none⟩ (.int .u64 0)).setCell ⟨m, 2, none⟩ (.int .u64 0)).setCell ⟨m, 3, none⟩ (.int .u64 0)).setCell ⟨m, 4, none⟩ (.int .u64 0)).setCell ⟨m, 5, none⟩ (.slice (some ⟨b2, 0, none⟩) 2 2)) = wz) := ⟨_, (rfl : _ = _)⟩
          have HT : Hid (Fm (fun b => b = g) w wz ∧ wz.heap[n]? = some (.cells #[.int .i64 0, .int .u64 0, .int .u64 0, .int .u64 0, .int .u64 0, .slice none 0 0] 27) ∧ wz.heap[m]? = some (.cells #[.int .i64 5, .int .u64 0, .int .u64 0, .int .u64 0, .int .u64 0, .slice (some ⟨b2, 0, none⟩) 2 2] 27) ∧ Ry wz (fun b => w.heap.size ≤ b ∧ b ≠ n ∧ b ≠ m ∧ b < wz.heap.size) (v6 (5, Cls.empty, some ⟨b2, 0, none⟩, 2, 2)) (.mk 5 Cls.empty [t', .mk 2 Cls.empty []]) ∧ Pt g s j k wz) := turnQ (q2 := (5, Cls.empty, some ⟨b2, 0, none⟩, 2, 2)) hlt hnw hmw hnm HGwp.out HNwp.out HMwp.out HPwp.out hbf (Ry.two (p := (2, Cls.empty, none, 0, 0)) 5 (by omega) hf2 ⟨by omega, by omega, by omega, hpe⟩ (HRYwp.out.move (fun z hz => ⟨hz.1, hz.2.1, hz.2.2.1, Nat.lt_of_lt_of_le hz.2.2.2 (hbf).size⟩) (fun z hz => (hbf).block z hz.2.2.2)) (Ry.leaf 2 Cls.empty (by omega))) HWZ.out
          clear d0 df0 d1 df1 d2 df2 d3 df3 d4 df4 d5 df5 hbm hbf hf2 hb2 hpe hln hlm hww HPwp HGwp HNwp HMwp HRYwp
          obtain ⟨⟨d0, d1, d2, d3, d4, d5⟩, df0, df1, df2, df3, df4, df5⟩ := block6 hbmf
          go_upto_region 14 with fail
          rw [HWZ.out]
          clear d0 df0 d1 df1 d2 df2 d3 df3 d4 df4 d5 df5 hbmf
          have HPwz : Hid (Pt g s j k wz) := HT.out.2.2.2.2
          have c1 := HPwz.out.cells.1.2.1
          have f1 := HPwz.out.cells.2.2.1
          obtain ⟨ws, HWS⟩ : ∃ ws, Hid (wz.setCell ⟨g, 1, none⟩ (.int .i64 ((j : Int) + 1)) = ws) := ⟨_, (rfl : _ = _)⟩
          have hfs : Fm (fun b => b = g) wz ws := by rw [← HWS.out]; exact Fm.set _ rfl
          have hpg : Pt g s (j + 1) k ws := by
            rw [← HWS.out]
            have := HPwz.out.set1 (j + 1)
            rw [show (((j + 1 : Nat)) : Int) = (j : Int) + 1 by omega] at this
            exact this
          have HST : Hid (LQ g s k w n m (.mk 5 Cls.empty [t, .mk 2 Cls.empty []], j + 1, e) (5, Cls.empty, some ⟨b2, 0, none⟩, 2, 2) none ws) := ⟨HT.out.1.trans hfs fun _ _ e => e, (hfs.block n (in_heap HT.out.2.1) (by omega)).trans HT.out.2.1, (hfs.block m (in_heap HT.out.2.2.1) (by omega)).trans HT.out.2.2.1, Or.inl ⟨HE.out, rfl, ⟨(.mk 5 Cls.empty [t', .mk 2 Cls.empty []]), al_two 5 Cls.empty HAL.out (Al.refl _), HT.out.2.2.2.1.move (fun z hz => ⟨hz.1, hz.2.1, hz.2.2.1, Nat.lt_of_lt_of_le hz.2.2.2 hfs.size⟩) (fun z hz => hfs.block z hz.2.2.2 (by omega))⟩, hpg⟩⟩
          have HPS : Hid (posOf g ws = j + 1) := hpg.pos
          clear hfs hpg
          go_wp2_with fail
          rw [HWS.out]
          refine ⟨⟨.mk 5 Cls.empty [t, .mk 2 Cls.empty []], j + 1, (5, Cls.empty, some ⟨b2, 0, none⟩, 2, 2), hj1, HST.out, ?_⟩, ?_⟩
          · rw [if_neg (by simp [HE.out]), HF.out]
            exact repL_more s s.size (s.size + 1) _ _ hj1 (by omega) (by omega)
          · refine Nat.lt_of_le_of_lt (Nat.le_of_eq (congrArg (s.size - ·) HPS.out)) ?_
            rw [HPOS.out]; omega
        · have b63 : (p0 == 63) = false := by simpa using e63
          by_cases e43 : p0 = 43
          · rw [if_pos (h43.1 e43)] at hrr
            have HF : Hid (rr = repL s s.size (.mk 4 empty [t, .mk 6 empty [t]]) (j + 1)) := hrr
            have hj1 : j + 1 ≤ s.size := bt_is (h43.1 e43) (by decide)
            subst e43
            clear hrr h42 h43 h63 hp0 e42 e63
            go_wp2_with fail
            refine (peek_any g s j k _ HPwr.out).mono ?_
            rintro _ wp ⟨rfl, hb⟩
            have HPwp : Hid (Pt g s j k wp) := HPwr.out.next hb
            have HGwp : Hid (Fm (fun b => b = g) w wp) := HGwr.out.trans (Fm.of (X := fun b => b = g) hb) fun _ _ e => e
            have HNwp : Hid (wp.heap[n]? = some (.cells #[.int .i64 0, .int .u64 0, .int .u64 0, .int .u64 0, .int .u64 0, .slice none 0 0] 27)) := (hb.block n (in_heap HNwr.out)).trans HNwr.out
            have HMwp : Hid (wp.heap[m]? = some (.cells #[.int .i64 q.1, .int .u64 (q.2.1.1.toNat : Int), .int .u64 (q.2.1.2.1.toNat : Int), .int .u64 (q.2.1.2.2.1.toNat : Int), .int .u64 (q.2.1.2.2.2.toNat : Int), .slice q.2.2.1 q.2.2.2.1 q.2.2.2.2] 27)) := (hb.block m (in_heap HMwr.out)).trans HMwr.out
            have HRYwp : Hid (Ry wp (fun b => w.heap.size ≤ b ∧ b ≠ n ∧ b ≠ m ∧ b < wp.heap.size) (v6 q) t') := HRYwr.out.move (fun z hz => ⟨hz.1, hz.2.1, hz.2.2.1, Nat.lt_of_lt_of_le hz.2.2.2 hb.size⟩) (fun z hz => hb.block z hz.2.2.2)
            clear hb HPwr HGwr HNwr HMwr HRYwr
            rw [HP0.out]
            have hbm := HMwp.out
            obtain ⟨pn, HPN⟩ : ∃ pn, Hid (wp.heap.size = pn) := ⟨_, (rfl : wp.heap.size = wp.heap.size)⟩
            obtain ⟨⟨d0, d1, d2, d3, d4, d5⟩, df0, df1, df2, df3, df4, df5⟩ := block6 hbm
            obtain ⟨wb, HB⟩ : ∃ wb, Hid (wp.alloc (.cells #[.int .i64 q.1, .int .u64 (q.2.1.1.toNat : Int), .int .u64 (q.2.1.2.1.toNat : Int), .int .u64 (q.2.1.2.2.1.toNat : Int), .int .u64 (q.2.1.2.2.2.toNat : Int), .slice q.2.2.1 q.2.2.2.1 q.2.2.2.2] 27) = wb) := ⟨_, (rfl : _ = _)⟩
            have hBb : Below wp.heap.size wp wb := HB.out ▸ bal_ _ _
            have hbp : wb.heap[pn]? = some (.cells #[.int .i64 q.1, .int .u64 (q.2.1.1.toNat : Int), .int .u64 (q.2.1.2.1.toNat : Int), .int .u64 (q.2.1.2.2.1.toNat : Int), .int .u64 (q.2.1.2.2.2.toNat : Int), .slice q.2.2.1 q.2.2.2.1 q.2.2.2.2] 27) := by rw [← HPN.out, ← HB.out]; exact block_new wp _
            have hbmb : wb.heap[m]? = some (.cells #[.int .i64 q.1, .int .u64 (q.2.1.1.toNat : Int), .int .u64 (q.2.1.2.1.toNat : Int), .int .u64 (q.2.1.2.2.1.toNat : Int), .int .u64 (q.2.1.2.2.2.toNat : Int), .slice q.2.2.1 q.2.2.2.1 q.2.2.2.2] 27) := (hBb.block m (in_heap hbm)).trans hbm
            have hln := in_heap HNwp.out
            have hlm := in_heap hbm
            have hww := HGwp.out.size
            have hsb := hBb.size
            have hcw := weight_any t' q wb.heap.size wb (((HRYwp.out.move (fun z hz => ⟨hz.1, hz.2.1, hz.2.2.1, Nat.lt_of_lt_of_le hz.2.2.2 (hBb).size⟩) (fun z hz => (hBb).block z hz.2.2.2)) : Ry wb (fun b => w.heap.size ≤ b ∧ b ≠ n ∧ b ≠ m ∧ b < wb.heap.size) (v6 q) t').move (A' := fun b => b < wb.heap.size) (fun b hb => hb.2.2.2) (fun _ _ => rfl) |>.rx fun b hb => hb) (Nat.le_refl _)
            rw [HPN.out] at hln hlm hww
            obtain ⟨wv, HWV⟩ : ∃ wv, Hid (wt t' 0 = wv) := ⟨_, (rfl : wt t' 0 = wt t' 0)⟩
            have hwv : wv ≤ 102 := by rw [← HWV.out]; exact wt_le t' 0 (by omega)
            have HBIG0 : Hid (100 < wv → ∀ d n, (chk t' d n).1 ≠ 0) := fun h => wt_big (by rw [HWV.out]; exact h)
            rw [HWV.out] at hcw
            go_upto_region 11 with fail
            rw [HPN.out, HB.out]
            clear d0 df0 d1 df1 d2 df2 d3 df3 d4 df4 d5 df5
            obtain ⟨⟨d0, d1, d2, d3, d4, d5⟩, df0, df1, df2, df3, df4, df5⟩ := block6 hbmb
            go_wp2_with fail
            refine hcw.mono ?_
            rintro _ wc ⟨rfl, hbc⟩
            have HBC : Hid (Below wp.heap.size wp wc) := hBb.trans (hbc.mono hBb.size)
            have hbpc : wc.heap[pn]? = some (.cells #[.int .i64 q.1, .int .u64 (q.2.1.1.toNat : Int), .int .u64 (q.2.1.2.1.toNat : Int), .int .u64 (q.2.1.2.2.1.toNat : Int), .int .u64 (q.2.1.2.2.2.toNat : Int), .slice q.2.2.1 q.2.2.2.1 q.2.2.2.2] 27) := (hbc.block pn (in_heap hbp)).trans hbp
            have hbmc : wc.heap[m]? = some (.cells #[.int .i64 q.1, .int .u64 (q.2.1.1.toNat : Int), .int .u64 (q.2.1.2.1.toNat : Int), .int .u64 (q.2.1.2.2.1.toNat : Int), .int .u64 (q.2.1.2.2.2.toNat : Int), .slice q.2.2.1 q.2.2.2.1 q.2.2.2.2] 27) := (hbc.block m (in_heap hbmb)).trans hbmb
            clear d0 df0 d1 df1 d2 df2 d3 df3 d4 df4 d5 df5 hbmb hbp hBb hbc hcw HB hsb hbm
            by_cases hbig : 100 < wv
            · have HBIG : Hid (∀ d n, (chk t' d n).1 ≠ 0) := HBIG0.out hbig
              have hdb : decide ((100 : Int) < (wv : Int)) = true := by simp; omega
              clear HBIG0
              go_upto_region 12 with fail
              obtain ⟨⟨z0, z1, z2, z3, z4, z5⟩, zf0, zf1, zf2, zf3, zf4, zf5⟩ := block6 hbpc
              obtain ⟨wd, HD⟩ : ∃ wd, Hid (((((((wc.setCell ⟨pn, 0, none⟩ (.int .i64 2)).setCell ⟨pn, 1, none⟩ (.int .u64 0)).setCell ⟨pn, 2, none⟩ (.int .u64 0)).setCell ⟨pn, 3, none⟩ (.int .u64 0)).setCell ⟨pn, 4, none⟩ (.int .u64 0)).setCell ⟨pn, 5, none⟩ (.slice none 0 0)) = wd) := ⟨_, (rfl : _ = _)⟩
              have hbpd : wd.heap[pn]? = some (.cells #[.int .i64 2, .int .u64 0, .int .u64 0, .int .u64 0, .int .u64 0, .slice none 0 0] 27) := by rw [← HD.out]; exact put6_at hbpc _ _ _ _ _ _
              have hBd : Below wp.heap.size wp wd := by
                have h := HBC.out
                have e1 : wd.heap.size = wc.heap.size := by rw [← HD.out]; exact put6_size _ _ _ _ _ _ _ _
                refine ⟨?_, ?_, ?_, by rw [e1]; exact h.size, fun z hz => ?_⟩
                · rw [← HD.out]; exact (put6_os _ _ _ _ _ _ _ _).trans h.os
                · rw [← HD.out]; exact (put6_tape _ _ _ _ _ _ _ _).trans h.tape
                · rw [← HD.out]; exact (put6_output _ _ _ _ _ _ _ _).trans h.output
                · rw [← HD.out]; exact (put6_other wc pn _ _ _ _ _ _ z (by rw [HPN.out] at hz; omega)).trans (h.block z hz)
              clear hbpc hbmc
              go_upto_region 13 with fail
              rw [HD.out]
              clear z0 zf0 z1 zf1 z2 zf2 z3 zf3 z4 zf4 z5 zf5
              have hbmd : wd.heap[m]? = some (.cells #[.int .i64 q.1, .int .u64 (q.2.1.1.toNat : Int), .int .u64 (q.2.1.2.1.toNat : Int), .int .u64 (q.2.1.2.2.1.toNat : Int), .int .u64 (q.2.1.2.2.2.toNat : Int), .slice q.2.2.1 q.2.2.2.1 q.2.2.2.2] 27) := (hBd.block m (by rw [HPN.out]; exact hlm)).trans HMwp.out
              obtain ⟨⟨z0, z1, z2, z3, z4, z5⟩, zf0, zf1, zf2, zf3, zf4, zf5⟩ := block6 hbpd
              obtain ⟨⟨d0, d1, d2, d3, d4, d5⟩, df0, df1, df2, df3, df4, df5⟩ := block6 hbmd
              obtain ⟨pe, HPE⟩ : ∃ pe, Hid (wd.heap.size = pe) := ⟨_, (rfl : wd.heap.size = wd.heap.size)⟩
              obtain ⟨we, HWE⟩ : ∃ we, Hid (wd.alloc (.cells #[.int .i64 2, .int .u64 0, .int .u64 0, .int .u64 0, .int .u64 0, .slice none 0 0] 27) = we) := ⟨_, (rfl : _ = _)⟩
              have hrow : we.heap[pe]? = some (.cells #[.int .i64 2, .int .u64 0, .int .u64 0, .int .u64 0, .int .u64 0, .slice none 0 0] 27) := by rw [← HPE.out, ← HWE.out]; exact block_new wd _
              have hBe : Below wp.heap.size wp we := HWE.out ▸ hBd.alloc hBd.size _
              have hsd := hBd.size
              rw [HPE.out, HPN.out] at hsd
              go_wp2_with fail
              rw [HPE.out, HWE.out]
              refine (rpair_any 4 q (6, Cls.empty, some ⟨pe, 0, none⟩, 1, 1) _).mono ?_
              rintro _ wf ⟨b2, rfl, hb2, hf2, hbf⟩
              have hBf : Below wp.heap.size wp wf := hBe.trans (hbf.mono hBe.size)
              have hse := hBe.size
              rw [HPN.out] at hse
              have hbmf : wf.heap[m]? = some (.cells #[.int .i64 q.1, .int .u64 (q.2.1.1.toNat : Int), .int .u64 (q.2.1.2.1.toNat : Int), .int .u64 (q.2.1.2.2.1.toNat : Int), .int .u64 (q.2.1.2.2.2.toNat : Int), .slice q.2.2.1 q.2.2.2.1 q.2.2.2.2] 27) := (hBf.block m (by rw [HPN.out]; exact hlm)).trans HMwp.out
              have hpe := in_heap hf2
              have hpr := in_heap hrow
              have hsf := hbf.size
              have hrowf : wf.heap[pe]? = some (.cells #[.int .i64 2, .int .u64 0, .int .u64 0, .int .u64 0, .int .u64 0, .slice none 0 0] 27) := (hbf.block pe hpr).trans hrow
              obtain ⟨wz, HWZ⟩ : ∃ wz, Hid (((((((wf.setCell ⟨m, 0, none⟩ (.int .i64 4)).setCell ⟨m, 1, none⟩ (.int .u64 0)).setCell ⟨m, 2, none⟩ (.int .u64 0)).setCell ⟨m, 3, none⟩ (.int .u64 0)).setCell ⟨m, 4, none⟩ (.int .u64 0)).setCell ⟨m, 5, none⟩ (.slice (some ⟨b2, 0, none⟩) 2 2)) = wz) := ⟨_, (rfl : _ = _)⟩
              have hold : Ry wf (fun b => w.heap.size ≤ b ∧ b ≠ n ∧ b ≠ m ∧ b < wf.heap.size) (v6 q) t' := (HRYwp.out.move (fun z hz => ⟨hz.1, hz.2.1, hz.2.2.1, Nat.lt_of_lt_of_le hz.2.2.2 (hBf).size⟩) (fun z hz => (hBf).block z hz.2.2.2))
              have hstar : Ry wf (fun b => w.heap.size ≤ b ∧ b ≠ n ∧ b ≠ m ∧ b < wf.heap.size) (v6 (6, Cls.empty, some ⟨pe, 0, none⟩, 1, 1)) (.mk 6 Cls.empty [(.mk 2 Cls.empty [])]) := Ry.one (q := (2, Cls.empty, none, 0, 0)) 6 (by omega) hrowf ⟨by omega, by omega, by omega, by omega⟩ (Ry.leaf 2 Cls.empty (by omega))
              have HT : Hid (Fm (fun b => b = g) w wz ∧ wz.heap[n]? = some (.cells #[.int .i64 0, .int .u64 0, .int .u64 0, .int .u64 0, .int .u64 0, .slice none 0 0] 27) ∧ wz.heap[m]? = some (.cells #[.int .i64 4, .int .u64 0, .int .u64 0, .int .u64 0, .int .u64 0, .slice (some ⟨b2, 0, none⟩) 2 2] 27) ∧ Ry wz (fun b => w.heap.size ≤ b ∧ b ≠ n ∧ b ≠ m ∧ b < wz.heap.size) (v6 (4, Cls.empty, some ⟨b2, 0, none⟩, 2, 2)) (.mk 4 Cls.empty [t', .mk 6 Cls.empty [(.mk 2 Cls.empty [])]]) ∧ Pt g s j k wz) := turnQ (q2 := (4, Cls.empty, some ⟨b2, 0, none⟩, 2, 2)) hlt hnw hmw hnm HGwp.out HNwp.out HMwp.out HPwp.out hBf (Ry.two (p := (6, Cls.empty, some ⟨pe, 0, none⟩, 1, 1)) 4 (by omega) hf2 ⟨by omega, by omega, by omega, hpe⟩ hold hstar) HWZ.out
              clear d0 df0 d1 df1 d2 df2 d3 df3 d4 df4 d5 df5 z0 zf0 z1 zf1 z2 zf2 z3 zf3 z4 zf4 z5 zf5 hbmd hbpd hBd hBe hbf hBf hf2 hb2 hpe hpr hsf hrow hrowf hold hstar hln hlm hww hsd hse HPwp HGwp HNwp HMwp HRYwp
              obtain ⟨⟨d0, d1, d2, d3, d4, d5⟩, df0, df1, df2, df3, df4, df5⟩ := block6 hbmf
              go_upto_region 14 with fail
              rw [HWZ.out]
              clear d0 df0 d1 df1 d2 df2 d3 df3 d4 df4 d5 df5 hbmf
              have HPwz : Hid (Pt g s j k wz) := HT.out.2.2.2.2
              have c1 := HPwz.out.cells.1.2.1
              have f1 := HPwz.out.cells.2.2.1
              obtain ⟨ws, HWS⟩ : ∃ ws, Hid (wz.setCell ⟨g, 1, none⟩ (.int .i64 ((j : Int) + 1)) = ws) := ⟨_, (rfl : _ = _)⟩
              have hfs : Fm (fun b => b = g) wz ws := by rw [← HWS.out]; exact Fm.set _ rfl
              have hpg : Pt g s (j + 1) k ws := by
                rw [← HWS.out]
                have := HPwz.out.set1 (j + 1)
                rw [show (((j + 1 : Nat)) : Int) = (j : Int) + 1 by omega] at this
                exact this
              have HST : Hid (LQ g s k w n m (.mk 4 Cls.empty [t, .mk 6 Cls.empty [t]], j + 1, e) (4, Cls.empty, some ⟨b2, 0, none⟩, 2, 2) none ws) := ⟨HT.out.1.trans hfs fun _ _ e => e, (hfs.block n (in_heap HT.out.2.1) (by omega)).trans HT.out.2.1, (hfs.block m (in_heap HT.out.2.2.1) (by omega)).trans HT.out.2.2.1, Or.inl ⟨HE.out, rfl, ⟨(.mk 4 Cls.empty [t', .mk 6 Cls.empty [(.mk 2 Cls.empty [])]]), al_plus HAL.out HBIG.out _ _, HT.out.2.2.2.1.move (fun z hz => ⟨hz.1, hz.2.1, hz.2.2.1, Nat.lt_of_lt_of_le hz.2.2.2 hfs.size⟩) (fun z hz => hfs.block z hz.2.2.2 (by omega))⟩, hpg⟩⟩
              have HPS : Hid (posOf g ws = j + 1) := hpg.pos
              clear hfs hpg
              go_wp2_with fail
              rw [HWS.out]
              refine ⟨⟨.mk 4 Cls.empty [t, .mk 6 Cls.empty [t]], j + 1, (4, Cls.empty, some ⟨b2, 0, none⟩, 2, 2), hj1, HST.out, ?_⟩, ?_⟩
              · rw [if_neg (by simp [HE.out]), HF.out]
                exact repL_more s s.size (s.size + 1) _ _ hj1 (by omega) (by omega)
              · refine Nat.lt_of_le_of_lt (Nat.le_of_eq (congrArg (s.size - ·) HPS.out)) ?_
                rw [HPOS.out]; omega
            · have hdb : decide ((100 : Int) < (wv : Int)) = false := by simp; omega
              clear HBIG0
              go_upto_region 13 with fail
              have hBd := HBC.out
              have hbpd := hbpc
              clear hbpc hbmc
              have hbmd : wc.heap[m]? = some (.cells #[.int .i64 q.1, .int .u64 (q.2.1.1.toNat : Int), .int .u64 (q.2.1.2.1.toNat : Int), .int .u64 (q.2.1.2.2.1.toNat : Int), .int .u64 (q.2.1.2.2.2.toNat : Int), .slice q.2.2.1 q.2.2.2.1 q.2.2.2.2] 27) := (hBd.block m (by rw [HPN.out]; exact hlm)).trans HMwp.out
              obtain ⟨⟨z0, z1, z2, z3, z4, z5⟩, zf0, zf1, zf2, zf3, zf4, zf5⟩ := block6 hbpd
              obtain ⟨⟨d0, d1, d2, d3, d4, d5⟩, df0, df1, df2, df3, df4, df5⟩ := block6 hbmd
              obtain ⟨pe, HPE⟩ : ∃ pe, Hid (wc.heap.size = pe) := ⟨_, (rfl : wc.heap.size = wc.heap.size)⟩
              obtain ⟨we, HWE⟩ : ∃ we, Hid (wc.alloc (.cells #[.int .i64 q.1, .int .u64 (q.2.1.1.toNat : Int), .int .u64 (q.2.1.2.1.toNat : Int), .int .u64 (q.2.1.2.2.1.toNat : Int), .int .u64 (q.2.1.2.2.2.toNat : Int), .slice q.2.2.1 q.2.2.2.1 q.2.2.2.2] 27) = we) := ⟨_, (rfl : _ = _)⟩
              have hrow : we.heap[pe]? = some (.cells #[.int .i64 q.1, .int .u64 (q.2.1.1.toNat : Int), .int .u64 (q.2.1.2.1.toNat : Int), .int .u64 (q.2.1.2.2.1.toNat : Int), .int .u64 (q.2.1.2.2.2.toNat : Int), .slice q.2.2.1 q.2.2.2.1 q.2.2.2.2] 27) := by rw [← HPE.out, ← HWE.out]; exact block_new wc _
              have hBe : Below wp.heap.size wp we := HWE.out ▸ hBd.alloc hBd.size _
              have hsd := hBd.size
              rw [HPE.out, HPN.out] at hsd
              go_wp2_with fail
              rw [HPE.out, HWE.out]
              refine (rpair_any 4 q (6, Cls.empty, some ⟨pe, 0, none⟩, 1, 1) _).mono ?_
              rintro _ wf ⟨b2, rfl, hb2, hf2, hbf⟩
              have hBf : Below wp.heap.size wp wf := hBe.trans (hbf.mono hBe.size)
              have hse := hBe.size
              rw [HPN.out] at hse
              have hbmf : wf.heap[m]? = some (.cells #[.int .i64 q.1, .int .u64 (q.2.1.1.toNat : Int), .int .u64 (q.2.1.2.1.toNat : Int), .int .u64 (q.2.1.2.2.1.toNat : Int), .int .u64 (q.2.1.2.2.2.toNat : Int), .slice q.2.2.1 q.2.2.2.1 q.2.2.2.2] 27) := (hBf.block m (by rw [HPN.out]; exact hlm)).trans HMwp.out
              have hpe := in_heap hf2
              have hpr := in_heap hrow
              have hsf := hbf.size
              have hrowf : wf.heap[pe]? = some (.cells #[.int .i64 q.1, .int .u64 (q.2.1.1.toNat : Int), .int .u64 (q.2.1.2.1.toNat : Int), .int .u64 (q.2.1.2.2.1.toNat : Int), .int .u64 (q.2.1.2.2.2.toNat : Int), .slice q.2.2.1 q.2.2.2.1 q.2.2.2.2] 27) := (hbf.block pe hpr).trans hrow
              obtain ⟨wz, HWZ⟩ : ∃ wz, Hid (((((((wf.setCell ⟨m, 0, none⟩ (.int .i64 4)).setCell ⟨m, 1, none⟩ (.int .u64 0)).setCell ⟨m, 2, none⟩ (.int .u64 0)).setCell ⟨m, 3, none⟩ (.int .u64 0)).setCell ⟨m, 4, none⟩ (.int .u64 0)).setCell ⟨m, 5, none⟩ (.slice (some ⟨b2, 0, none⟩) 2 2)) = wz) := ⟨_, (rfl : _ = _)⟩
              have hold : Ry wf (fun b => w.heap.size ≤ b ∧ b ≠ n ∧ b ≠ m ∧ b < wf.heap.size) (v6 q) t' := (HRYwp.out.move (fun z hz => ⟨hz.1, hz.2.1, hz.2.2.1, Nat.lt_of_lt_of_le hz.2.2.2 (hBf).size⟩) (fun z hz => (hBf).block z hz.2.2.2))
              have hstar : Ry wf (fun b => w.heap.size ≤ b ∧ b ≠ n ∧ b ≠ m ∧ b < wf.heap.size) (v6 (6, Cls.empty, some ⟨pe, 0, none⟩, 1, 1)) (.mk 6 Cls.empty [t']) := Ry.one (q := q) 6 (by omega) hrowf ⟨by omega, by omega, by omega, by omega⟩ hold
              have HT : Hid (Fm (fun b => b = g) w wz ∧ wz.heap[n]? = some (.cells #[.int .i64 0, .int .u64 0, .int .u64 0, .int .u64 0, .int .u64 0, .slice none 0 0] 27) ∧ wz.heap[m]? = some (.cells #[.int .i64 4, .int .u64 0, .int .u64 0, .int .u64 0, .int .u64 0, .slice (some ⟨b2, 0, none⟩) 2 2] 27) ∧ Ry wz (fun b => w.heap.size ≤ b ∧ b ≠ n ∧ b ≠ m ∧ b < wz.heap.size) (v6 (4, Cls.empty, some ⟨b2, 0, none⟩, 2, 2)) (.mk 4 Cls.empty [t', .mk 6 Cls.empty [t']]) ∧ Pt g s j k wz) := turnQ (q2 := (4, Cls.empty, some ⟨b2, 0, none⟩, 2, 2)) hlt hnw hmw hnm HGwp.out HNwp.out HMwp.out HPwp.out hBf (Ry.two (p := (6, Cls.empty, some ⟨pe, 0, none⟩, 1, 1)) 4 (by omega) hf2 ⟨by omega, by omega, by omega, hpe⟩ hold hstar) HWZ.out
              clear d0 df0 d1 df1 d2 df2 d3 df3 d4 df4 d5 df5 z0 zf0 z1 zf1 z2 zf2 z3 zf3 z4 zf4 z5 zf5 hbmd hbpd hBd hBe hbf hBf hf2 hb2 hpe hpr hsf hrow hrowf hold hstar hln hlm hww hsd hse HPwp HGwp HNwp HMwp HRYwp
              obtain ⟨⟨d0, d1, d2, d3, d4, d5⟩, df0, df1, df2, df3, df4, df5⟩ := block6 hbmf
              go_upto_region 14 with fail
              rw [HWZ.out]
              clear d0 df0 d1 df1 d2 df2 d3 df3 d4 df4 d5 df5 hbmf
              have HPwz : Hid (Pt g s j k wz) := HT.out.2.2.2.2
              have c1 := HPwz.out.cells.1.2.1
              have f1 := HPwz.out.cells.2.2.1
              obtain ⟨ws, HWS⟩ : ∃ ws, Hid (wz.setCell ⟨g, 1, none⟩ (.int .i64 ((j : Int) + 1)) = ws) := ⟨_, (rfl : _ = _)⟩
              have hfs : Fm (fun b => b = g) wz ws := by rw [← HWS.out]; exact Fm.set _ rfl
              have hpg : Pt g s (j + 1) k ws := by
                rw [← HWS.out]
                have := HPwz.out.set1 (j + 1)
                rw [show (((j + 1 : Nat)) : Int) = (j : Int) + 1 by omega] at this
                exact this
              have HST : Hid (LQ g s k w n m (.mk 4 Cls.empty [t, .mk 6 Cls.empty [t]], j + 1, e) (4, Cls.empty, some ⟨b2, 0, none⟩, 2, 2) none ws) := ⟨HT.out.1.trans hfs fun _ _ e => e, (hfs.block n (in_heap HT.out.2.1) (by omega)).trans HT.out.2.1, (hfs.block m (in_heap HT.out.2.2.1) (by omega)).trans HT.out.2.2.1, Or.inl ⟨HE.out, rfl, ⟨(.mk 4 Cls.empty [t', .mk 6 Cls.empty [t']]), al_two 4 Cls.empty HAL.out (al_one 6 Cls.empty HAL.out), HT.out.2.2.2.1.move (fun z hz => ⟨hz.1, hz.2.1, hz.2.2.1, Nat.lt_of_lt_of_le hz.2.2.2 hfs.size⟩) (fun z hz => hfs.block z hz.2.2.2 (by omega))⟩, hpg⟩⟩
              have HPS : Hid (posOf g ws = j + 1) := hpg.pos
              clear hfs hpg
              go_wp2_with fail
              rw [HWS.out]
              refine ⟨⟨.mk 4 Cls.empty [t, .mk 6 Cls.empty [t]], j + 1, (4, Cls.empty, some ⟨b2, 0, none⟩, 2, 2), hj1, HST.out, ?_⟩, ?_⟩
              · rw [if_neg (by simp [HE.out]), HF.out]
                exact repL_more s s.size (s.size + 1) _ _ hj1 (by omega) (by omega)
              · refine Nat.lt_of_le_of_lt (Nat.le_of_eq (congrArg (s.size - ·) HPS.out)) ?_
                rw [HPOS.out]; omega
          · have b43 : (p0 == 43) = false := by simpa using e43
            rw [if_neg (fun e => e43 (h43.2 e)), if_neg (fun e => e63 (h63.2 e))] at hrr
            have HF : Hid (rr = (t, j, e)) := by show _ = _; rw [hrr, HE.out]
            clear hrr h42 h43 h63 hp0 e42 e63 e43
            go_wp2_with fail
            refine (peek_any g s j k _ HPwr.out).mono ?_
            rintro _ wp ⟨rfl, hb⟩
            have HPwp : Hid (Pt g s j k wp) := HPwr.out.next hb
            have HGwp : Hid (Fm (fun b => b = g) w wp) := HGwr.out.trans (Fm.of (X := fun b => b = g) hb) fun _ _ e => e
            have HNwp : Hid (wp.heap[n]? = some (.cells #[.int .i64 0, .int .u64 0, .int .u64 0, .int .u64 0, .int .u64 0, .slice none 0 0] 27)) := (hb.block n (in_heap HNwr.out)).trans HNwr.out
            have HMwp : Hid (wp.heap[m]? = some (.cells #[.int .i64 q.1, .int .u64 (q.2.1.1.toNat : Int), .int .u64 (q.2.1.2.1.toNat : Int), .int .u64 (q.2.1.2.2.1.toNat : Int), .int .u64 (q.2.1.2.2.2.toNat : Int), .slice q.2.2.1 q.2.2.2.1 q.2.2.2.2] 27)) := (hb.block m (in_heap HMwr.out)).trans HMwr.out
            have HRYwp : Hid (Ry wp (fun b => w.heap.size ≤ b ∧ b ≠ n ∧ b ≠ m ∧ b < wp.heap.size) (v6 q) t') := HRYwr.out.move (fun z hz => ⟨hz.1, hz.2.1, hz.2.2.1, Nat.lt_of_lt_of_le hz.2.2.2 hb.size⟩) (fun z hz => hb.block z hz.2.2.2)
            clear hb HPwr HGwr HNwr HMwr HRYwr
            rw [HP0.out]
            clear HP0
            have HLD : Hid (LQ g s k w n m (t, j, e) q none wp) := ⟨HGwp.out, HNwp.out, HMwp.out, Or.inl ⟨HE.out, rfl, ⟨t', HAL.out, HRYwp.out⟩, HPwp.out⟩⟩
            obtain ⟨wz, HWZ⟩ : ∃ wz, Hid (((((((wp.setCell ⟨n, 0, none⟩ (.int .i64 q.1)).setCell ⟨n, 1, none⟩ (.int .u64 (q.2.1.1.toNat : Int))).setCell ⟨n, 2, none⟩ (.int .u64 (q.2.1.2.1.toNat : Int))).setCell ⟨n, 3, none⟩ (.int .u64 (q.2.1.2.2.1.toNat : Int))).setCell ⟨n, 4, none⟩ (.int .u64 (q.2.1.2.2.2.toNat : Int))).setCell ⟨n, 5, none⟩ (.slice q.2.2.1 q.2.2.2.1 q.2.2.2.2)) = wz) := ⟨_, (rfl : _ = _)⟩
            have HDN : Hid (Fm (fun b => b = g) w wz ∧ QB s g k w.heap.size (fun z => w.heap.size ≤ z ∧ z < wz.heap.size) (t, j, e) q none wz) := HLD.out.done hlt hnw HWZ.out
            have hbn := HLD.out.bn
            have hbm := HLD.out.bm
            have hbz : wz.heap[n]? = some (.cells #[.int .i64 q.1, .int .u64 (q.2.1.1.toNat : Int), .int .u64 (q.2.1.2.1.toNat : Int), .int .u64 (q.2.1.2.2.1.toNat : Int), .int .u64 (q.2.1.2.2.2.toNat : Int), .slice q.2.2.1 q.2.2.2.1 q.2.2.2.2] 27) := by rw [← HWZ.out]; exact put6_at hbn _ _ _ _ _ _
            obtain ⟨⟨d0, d1, d2, d3, d4, d5⟩, df0, df1, df2, df3, df4, df5⟩ := block6 hbm
            obtain ⟨⟨z0, z1, z2, z3, z4, z5⟩, zf0, zf1, zf2, zf3, zf4, zf5⟩ := block6 hbn
            obtain ⟨⟨v0, v1, v2, v3, v4, v5⟩, vf0, vf1, vf2, vf3, vf4, vf5⟩ := block6 hbz
            clear hbn hbm hbz vf0 vf1 vf2 vf3 vf4 vf5
            go_wp2_with fail
            rw [HWZ.out]
            refine bodyPost_ret (v := .tuple #[.agg #[.int .i64 q.1, .int .u64 (q.2.1.1.toNat : Int), .int .u64 (q.2.1.2.1.toNat : Int), .int .u64 (q.2.1.2.2.1.toNat : Int), .int .u64 (q.2.1.2.2.2.toNat : Int), .slice q.2.2.1 q.2.2.2.1 q.2.2.2.2], .pointer none]) (by simp [results, Try.results55, go_sem, v0, v1, v2, v3, v4, v5]) rfl ⟨q, none, rfl, HDN.out.1, ?_⟩
            rw [HF.out]
            exact HDN.out.2
    · subst hbb
      have he2 : e ≠ 0 := he
      have HF : Hid (rr = (t, j, e)) := by show _ = _; rw [HL.out.2, if_pos he2]
      clear he he2
      have HLD : Hid (LQ g s k w n m (t, j, e) q (some ⟨st, 0, none⟩) wr) := HL.out.1
      obtain ⟨wz, HWZ⟩ : ∃ wz, Hid (((((((wr.setCell ⟨n, 0, none⟩ (.int .i64 q.1)).setCell ⟨n, 1, none⟩ (.int .u64 (q.2.1.1.toNat : Int))).setCell ⟨n, 2, none⟩ (.int .u64 (q.2.1.2.1.toNat : Int))).setCell ⟨n, 3, none⟩ (.int .u64 (q.2.1.2.2.1.toNat : Int))).setCell ⟨n, 4, none⟩ (.int .u64 (q.2.1.2.2.2.toNat : Int))).setCell ⟨n, 5, none⟩ (.slice q.2.2.1 q.2.2.2.1 q.2.2.2.2)) = wz) := ⟨_, (rfl : _ = _)⟩
      have HDN : Hid (Fm (fun b => b = g) w wz ∧ QB s g k w.heap.size (fun z => w.heap.size ≤ z ∧ z < wz.heap.size) (t, j, e) q (some ⟨st, 0, none⟩) wz) := HLD.out.done hlt hnw HWZ.out
      have hbn := HLD.out.bn
      have hbm := HLD.out.bm
      have hbz : wz.heap[n]? = some (.cells #[.int .i64 q.1, .int .u64 (q.2.1.1.toNat : Int), .int .u64 (q.2.1.2.1.toNat : Int), .int .u64 (q.2.1.2.2.1.toNat : Int), .int .u64 (q.2.1.2.2.2.toNat : Int), .slice q.2.2.1 q.2.2.2.1 q.2.2.2.2] 27) := by rw [← HWZ.out]; exact put6_at hbn _ _ _ _ _ _
      obtain ⟨⟨d0, d1, d2, d3, d4, d5⟩, df0, df1, df2, df3, df4, df5⟩ := block6 hbm
      obtain ⟨⟨z0, z1, z2, z3, z4, z5⟩, zf0, zf1, zf2, zf3, zf4, zf5⟩ := block6 hbn
      obtain ⟨⟨v0, v1, v2, v3, v4, v5⟩, vf0, vf1, vf2, vf3, vf4, vf5⟩ := block6 hbz
      clear hbn hbm hbz vf0 vf1 vf2 vf3 vf4 vf5
      go_wp2_with fail
      rw [HWZ.out]
      refine bodyPost_ret (v := .tuple #[.agg #[.int .i64 q.1, .int .u64 (q.2.1.1.toNat : Int), .int .u64 (q.2.1.2.1.toNat : Int), .int .u64 (q.2.1.2.2.1.toNat : Int), .int .u64 (q.2.1.2.2.2.toNat : Int), .slice q.2.2.1 q.2.2.2.1 q.2.2.2.2], .pointer (some ⟨st, 0, none⟩)]) (by simp [results, Try.results55, go_sem, v0, v1, v2, v3, v4, v5]) rfl ⟨q, (some ⟨st, 0, none⟩), rfl, HDN.out.1, ?_⟩
      rw [HF.out]
      exact HDN.out.2
end Go.Proofs.Ythloedfiomfnbaa

namespace Go.Proofs.Ythloedfiomfnbaa
open Go.RowKit
open Cls Rex Txt

theorem qn_bad {s : ByteArray} {g : Nat} {k : Value} {w w1 : World} {r : Nat × Nat × Nat} {i : Nat} (hr : r = (0, i, 6)) (hf : Fm (fun b => b = g) w w1) (hp : Pt g s i k w1) : QN s g k w r (.returned (.tuple #[.int .i64 0, .pointer (some ⟨w1.heap.size, 0, none⟩)])) (w1.alloc (.cells #[.int .i64 6, .int .i64 (i : Int)] 62)) := by
  subst hr
  exact ⟨hf.trans (Fm.of (X := fun b => b = g) (bal_ _ _)) fun _ _ e => e, Or.inr ⟨by simp, _, rfl, St.new w1 6 i, hf.size, _, hp.next (bal_ _ _)⟩⟩
theorem qn_ok {s : ByteArray} {g : Nat} {k : Value} {w w1 : World} {r : Nat × Nat × Nat} {b i : Nat} (hr : r = (b, i, 0)) (hf : Fm (fun b => b = g) w w1) (hp : Pt g s i k w1) : QN s g k w r (.returned (.tuple #[.int .i64 (b : Int), .pointer none])) w1 := by
  subst hr
  exact ⟨hf, Or.inl ⟨rfl, rfl, hp⟩⟩
theorem qn_ok2 {s : ByteArray} {g : Nat} {k : Value} {w w1 : World} {r : Nat × Nat × Nat} {v : Int} {b i : Nat} (hv : v = (b : Int)) (hr : r = (b, i, 0)) (hf : Fm (fun b => b = g) w w1) (hp : Pt g s i k w1) : QN s g k w r (.returned (.tuple #[.int .i64 v, .pointer none])) w1 := by
  subst hv
  exact qn_ok hr hf hp
/-- One step on. -/
theorem pt_step {g : Nat} {s : ByteArray} {i : Nat} {k : Value} {W : World} (h : Pt g s i k W) : Pt g s (i + 1) k (W.setCell ⟨g, 1, none⟩ (.int .i64 ((i : Int) + 1))) := by
  have := h.set1 (i + 1)
  rw [show (((i + 1 : Nat)) : Int) = (i : Int) + 1 by omega] at this
  exact this
theorem fm_step {g : Nat} {w W : World} (h : Fm (fun b => b = g) w W) (v : Value) (j : Nat) : Fm (fun b => b = g) w (W.setCell ⟨g, j, none⟩ v) := h.trans (Fm.set (X := fun b => b = g) (b := g) (i := j) v rfl) fun _ _ e => e
set_option maxHeartbeats 6400000 in
set_option maxRecDepth 20000 in
theorem rchar_any (s : ByteArray) (hs : s.size ≤ 300) (g i : Nat) (k : Value) (w : World) (hP : Pt g s i k w) :
    Calls Try.prog 78 #[.pointer (some ⟨g, 0, none⟩)] w fun e w' => QN s g k w (charR s i) e w' := by
  have HPw : Hid (Pt g s i k w) := hP
  have HFw : Hid (Fm (fun b => b = g) w w) := Fm.refl _ _
  clear hP
  obtain ⟨p, HPK⟩ : ∃ p, Hid (pk s i = p) := ⟨_, (rfl : pk s i = pk s i)⟩
  have hpr := pk_in s i
  have hsg := sg_pk s i
  rw [HPK.out] at hpr hsg
  go_enter Try.func78, Try.ntmps78
  go_wp2_with fail
  refine (peek_any g s i k _ HPw.out).mono ?_
  rintro _ w1 ⟨rfl, hb⟩
  have HPw1 : Hid (Pt g s i k w1) := HPw.out.next hb
  have HFw1 : Hid (Fm (fun b => b = g) w w1) := HFw.out.trans (Fm.of (X := fun b => b = g) hb) fun _ _ e => e
  clear hb
  rw [HPK.out]
  by_cases h92 : p = 92
  · have hb92 : bt s i = 92 := (pk_is s i 92 (by omega)).1 (by rw [HPK.out]; exact h92)
    have hlt := bt_is hb92 (by omega)
    have HCR : Hid (charR s i = escR s (i + 1)) := by show _ = _; unfold charR; rw [if_pos hb92]
    subst h92
    clear hb92 hsg hpr HPK
    have c1 := HPw1.out.cells.1.2.1
    have f1 := HPw1.out.cells.2.2.1
    have hw1 : IntKind.i64.wrap ((i : Int) + 1) = (i : Int) + 1 := by unfold IntKind.wrap; simp [IntKind.bits, IntKind.signed]; omega
    clear hw1
    obtain ⟨w2, HWw2⟩ : ∃ w2, Hid (w1.setCell ⟨g, 1, none⟩ (.int .i64 ((i : Int) + 1)) = w2) := ⟨_, (rfl : _ = _)⟩
    have HPw2 : Hid (Pt g s (i + 1) k w2) := by
      show Pt _ _ _ _ _
      rw [← HWw2.out]; exact pt_step HPw1.out
    have HFw2 : Hid (Fm (fun b => b = g) w w2) := by
      show Fm _ _ _
      rw [← HWw2.out]; exact fm_step HFw1.out _ _
    go_wp2_with fail
    rw [HWw2.out]
    clear c1 f1 HWw2
    refine (peek_any g s (i + 1) k _ HPw2.out).mono ?_
    rintro _ w3 ⟨rfl, hb⟩
    have HPw3 : Hid (Pt g s (i + 1) k w3) := HPw2.out.next hb
    have HFw3 : Hid (Fm (fun b => b = g) w w3) := HFw2.out.trans (Fm.of (X := fun b => b = g) hb) fun _ _ e => e
    clear hb
    obtain ⟨p, HPK⟩ : ∃ p, Hid (pk s (i + 1) = p) := ⟨_, (rfl : pk s (i + 1) = pk s (i + 1))⟩
    have hpr := pk_in s (i + 1)
    have hsg := sg_pk s (i + 1)
    rw [HPK.out] at hpr hsg ⊢
    have HI : Hid (∀ c : Nat, c ≠ 0 → (p = (c : Int) ↔ bt s (i + 1) = c)) := fun c hc => by rw [← HPK.out]; exact pk_is s (i + 1) c hc
    by_cases h110 : p = 110
    · subst h110
      have hbc : bt s (i + 1) = 110 := (HI.out 110 (by omega)).1 (by omega)
      have hlt2 := bt_is hbc (by omega)
      have HER : Hid (escR s (i + 1) = (10, i + 1 + 1, 0)) := by show _ = _; unfold escR; rw [if_neg (by omega), if_pos hbc]
      clear hbc hsg hpr HI HPK
      have c1 := HPw3.out.cells.1.2.1
      have f1 := HPw3.out.cells.2.2.1
      obtain ⟨w4, HWw4⟩ : ∃ w4, Hid (w3.setCell ⟨g, 1, none⟩ (.int .i64 ((i : Int) + 1 + 1)) = w4) := ⟨_, (rfl : _ = _)⟩
      have HPw4 : Hid (Pt g s (i + 1 + 1) k w4) := by
        show Pt _ _ _ _ _
        rw [← HWw4.out]
        have := pt_step HPw3.out
        simpa using this
      have HFw4 : Hid (Fm (fun b => b = g) w w4) := by
        show Fm _ _ _
        rw [← HWw4.out]; exact fm_step HFw3.out _ _
      go_wp2_with fail
      go_ret2
      rw [HWw4.out]
      exact qn_ok (HCR.out.trans HER.out) HFw4.out HPw4.out
    · by_cases h116 : p = 116
      · subst h116
        have hbc : bt s (i + 1) = 116 := (HI.out 116 (by omega)).1 (by omega)
        have hlt2 := bt_is hbc (by omega)
        have HER : Hid (escR s (i + 1) = (9, i + 1 + 1, 0)) := by show _ = _; unfold escR; rw [if_neg (by omega), if_neg (by omega), if_pos hbc]
        clear hbc hsg hpr HI HPK
        have c1 := HPw3.out.cells.1.2.1
        have f1 := HPw3.out.cells.2.2.1
        obtain ⟨w4, HWw4⟩ : ∃ w4, Hid (w3.setCell ⟨g, 1, none⟩ (.int .i64 ((i : Int) + 1 + 1)) = w4) := ⟨_, (rfl : _ = _)⟩
        have HPw4 : Hid (Pt g s (i + 1 + 1) k w4) := by
          show Pt _ _ _ _ _
          rw [← HWw4.out]
          have := pt_step HPw3.out
          simpa using this
        have HFw4 : Hid (Fm (fun b => b = g) w w4) := by
          show Fm _ _ _
          rw [← HWw4.out]; exact fm_step HFw3.out _ _
        go_wp2_with fail
        go_ret2
        rw [HWw4.out]
        exact qn_ok (HCR.out.trans HER.out) HFw4.out HPw4.out
      · by_cases h115 : p = 115
        · subst h115
          have hbc : bt s (i + 1) = 115 := (HI.out 115 (by omega)).1 (by omega)
          have hlt2 := bt_is hbc (by omega)
          have HER : Hid (escR s (i + 1) = (32, i + 1 + 1, 0)) := by show _ = _; unfold escR; rw [if_neg (by omega), if_neg (by omega), if_neg (by omega), if_pos hbc]
          clear hbc hsg hpr HI HPK
          have c1 := HPw3.out.cells.1.2.1
          have f1 := HPw3.out.cells.2.2.1
          obtain ⟨w4, HWw4⟩ : ∃ w4, Hid (w3.setCell ⟨g, 1, none⟩ (.int .i64 ((i : Int) + 1 + 1)) = w4) := ⟨_, (rfl : _ = _)⟩
          have HPw4 : Hid (Pt g s (i + 1 + 1) k w4) := by
            show Pt _ _ _ _ _
            rw [← HWw4.out]
            have := pt_step HPw3.out
            simpa using this
          have HFw4 : Hid (Fm (fun b => b = g) w w4) := by
            show Fm _ _ _
            rw [← HWw4.out]; exact fm_step HFw3.out _ _
          go_wp2_with fail
          go_ret2
          rw [HWw4.out]
          exact qn_ok (HCR.out.trans HER.out) HFw4.out HPw4.out
        · by_cases h120 : p = 120
          · subst h120
            have hbc : bt s (i + 1) = 120 := (HI.out 120 (by omega)).1 (by omega)
            have hlt2 := bt_is hbc (by omega)
            have HER : Hid (escR s (i + 1) = twoR s (i + 1 + 1)) := by show _ = _; unfold escR; rw [if_pos hbc]
            clear hbc hsg hpr HI HPK
            have c1 := HPw3.out.cells.1.2.1
            have f1 := HPw3.out.cells.2.2.1
            obtain ⟨w4, HWw4⟩ : ∃ w4, Hid (w3.setCell ⟨g, 1, none⟩ (.int .i64 ((i : Int) + 1 + 1)) = w4) := ⟨_, (rfl : _ = _)⟩
            have HPw4 : Hid (Pt g s (i + 1 + 1) k w4) := by
              show Pt _ _ _ _ _
              rw [← HWw4.out]
              have := pt_step HPw3.out
              simpa using this
            have HFw4 : Hid (Fm (fun b => b = g) w w4) := by
              show Fm _ _ _
              rw [← HWw4.out]; exact fm_step HFw3.out _ _
            obtain ⟨q, HQ⟩ : ∃ q, Hid (pk s (i + 1 + 1) = q) := ⟨_, (rfl : _ = _)⟩
            have hq := pk_in s (i + 1 + 1)
            have hd := dg_pk s (i + 1 + 1)
            rw [HQ.out] at hq hd
            have hdl := dg_lt (bt s (i + 1 + 1))
            have hdn : dg (bt s (i + 1 + 1)) < 0 ∨ 0 ≤ dg (bt s (i + 1 + 1)) := by omega
            have HIN : Hid (¬ dg (bt s (i + 1 + 1)) < 0 → i + 1 + 1 < s.size) := fun h => bt_in (dg_in h)
            have HT : Hid (twoR s (i + 1 + 1) = if dg (bt s (i + 1 + 1)) < 0 then (0, i + 1 + 1, 6) else if dg (bt s (i + 1 + 1 + 1)) < 0 then (0, i + 1 + 1 + 1, 6) else (16 * (dg (bt s (i + 1 + 1))).toNat + (dg (bt s (i + 1 + 1 + 1))).toNat, i + 1 + 1 + 2, 0)) := (rfl : _ = _)
            generalize dg (bt s (i + 1 + 1)) = d1 at *
            go_wp2_with fail
            refine wp_loop_rounds 3 ?_
            rw [rounds_succ]
            go_wp2_with fail
            rw [HWw4.out]
            clear c1 f1 HWw4
            refine (peek_any g s (i + 1 + 1) k _ HPw4.out).mono ?_
            rintro _ w5 ⟨rfl, hb⟩
            have HPw5 : Hid (Pt g s (i + 1 + 1) k w5) := HPw4.out.next hb
            have HFw5 : Hid (Fm (fun b => b = g) w w5) := HFw4.out.trans (Fm.of (X := fun b => b = g) hb) fun _ _ e => e
            clear hb
            rw [HQ.out]
            go_wp2_with fail
            refine (digit_any q hq _).mono ?_
            rintro _ wq ⟨rfl, hwq⟩
            rw [hwq, hd]
            clear hwq
            rcases hdn with hdn | hdn
            · have HER2 : Hid (charR s i = (0, i + 1 + 1, 6)) := HCR.out.trans (HER.out.trans (HT.out.trans (if_pos hdn)))
              clear HT HIN
              go_wp2_with fail
              refine (wrong_any g s (i + 1 + 1) k _ HPw5.out).mono ?_
              rintro _ wx ⟨rfl, hwx⟩
              rw [hwx]
              go_wp2_with fail
              go_ret2
              exact qn_bad HER2.out HFw5.out HPw5.out
            · obtain ⟨d, rfl⟩ : ∃ d : Nat, d1 = (d : Int) := ⟨d1.toNat, by omega⟩
              have hb : decide ((d : Int) < 0) = false := by simp
              have hlt3 : i + 1 + 1 < s.size := HIN.out (by omega)
              clear HIN hdn
              go_wp2_with fail
              refine (peek_any g s (i + 1 + 1) k _ HPw5.out).mono ?_
              rintro _ w6 ⟨rfl, hb⟩
              have HPw6 : Hid (Pt g s (i + 1 + 1) k w6) := HPw5.out.next hb
              have HFw6 : Hid (Fm (fun b => b = g) w w6) := HFw5.out.trans (Fm.of (X := fun b => b = g) hb) fun _ _ e => e
              clear hb
              rw [HQ.out]
              go_wp2_with fail
              refine (digit_any q hq _).mono ?_
              rintro _ wq ⟨rfl, hwq⟩
              rw [hwq, hd]
              clear hwq hd hq HQ
              have c1 := HPw6.out.cells.1.2.1
              have f1 := HPw6.out.cells.2.2.1
              obtain ⟨w7, HWw7⟩ : ∃ w7, Hid (w6.setCell ⟨g, 1, none⟩ (.int .i64 ((i : Int) + 1 + 1 + 1)) = w7) := ⟨_, (rfl : _ = _)⟩
              have HPw7 : Hid (Pt g s (i + 1 + 1 + 1) k w7) := by
                show Pt _ _ _ _ _
                rw [← HWw7.out]
                have := pt_step HPw6.out
                simpa using this
              have HFw7 : Hid (Fm (fun b => b = g) w w7) := by
                show Fm _ _ _
                rw [← HWw7.out]; exact fm_step HFw6.out _ _
              obtain ⟨q, HQ⟩ : ∃ q, Hid (pk s (i + 1 + 1 + 1) = q) := ⟨_, (rfl : _ = _)⟩
              have hq := pk_in s (i + 1 + 1 + 1)
              have hd := dg_pk s (i + 1 + 1 + 1)
              rw [HQ.out] at hq hd
              have hdl2 := dg_lt (bt s (i + 1 + 1 + 1))
              have hdn : dg (bt s (i + 1 + 1 + 1)) < 0 ∨ 0 ≤ dg (bt s (i + 1 + 1 + 1)) := by omega
              have HIN : Hid (¬ dg (bt s (i + 1 + 1 + 1)) < 0 → i + 1 + 1 + 1 < s.size) := fun h => bt_in (dg_in h)
              generalize dg (bt s (i + 1 + 1 + 1)) = d1 at *
              go_wp2_with fail
              rw [rounds_succ]
              go_wp2_with fail
              rw [HWw7.out]
              clear c1 f1 HWw7
              refine (peek_any g s (i + 1 + 1 + 1) k _ HPw7.out).mono ?_
              rintro _ w8 ⟨rfl, hb⟩
              have HPw8 : Hid (Pt g s (i + 1 + 1 + 1) k w8) := HPw7.out.next hb
              have HFw8 : Hid (Fm (fun b => b = g) w w8) := HFw7.out.trans (Fm.of (X := fun b => b = g) hb) fun _ _ e => e
              clear hb
              rw [HQ.out]
              go_wp2_with fail
              refine (digit_any q hq _).mono ?_
              rintro _ wq ⟨rfl, hwq⟩
              rw [hwq, hd]
              clear hwq
              rcases hdn with hdn | hdn
              · have HER2 : Hid (charR s i = (0, i + 1 + 1 + 1, 6)) := HCR.out.trans (HER.out.trans (HT.out.trans ((if_neg (by omega)).trans (if_pos hdn))))
                clear HT HIN
                go_wp2_with fail
                refine (wrong_any g s (i + 1 + 1 + 1) k _ HPw8.out).mono ?_
                rintro _ wx ⟨rfl, hwx⟩
                rw [hwx]
                go_wp2_with fail
                go_ret2
                exact qn_bad HER2.out HFw8.out HPw8.out
              · obtain ⟨d2, rfl⟩ : ∃ d : Nat, d1 = (d : Int) := ⟨d1.toNat, by omega⟩
                have HER2 : Hid (charR s i = (16 * d + d2, i + 1 + 1 + 1 + 1, 0)) := HCR.out.trans (HER.out.trans (HT.out.trans ((if_neg (by omega)).trans ((if_neg (by omega)).trans (by simp)))))
                have hb2 : decide ((d2 : Int) < 0) = false := by simp
                have hlt4 : i + 1 + 1 + 1 < s.size := HIN.out (by omega)
                clear HIN hdn HT
                go_wp2_with fail
                refine (peek_any g s (i + 1 + 1 + 1) k _ HPw8.out).mono ?_
                rintro _ w9 ⟨rfl, hb⟩
                have HPw9 : Hid (Pt g s (i + 1 + 1 + 1) k w9) := HPw8.out.next hb
                have HFw9 : Hid (Fm (fun b => b = g) w w9) := HFw8.out.trans (Fm.of (X := fun b => b = g) hb) fun _ _ e => e
                clear hb
                rw [HQ.out]
                go_wp2_with fail
                refine (digit_any q hq _).mono ?_
                rintro _ wq ⟨rfl, hwq⟩
                rw [hwq, hd]
                clear hwq hd hq HQ
                have c1 := HPw9.out.cells.1.2.1
                have f1 := HPw9.out.cells.2.2.1
                obtain ⟨wz, HWwz⟩ : ∃ wz, Hid (w9.setCell ⟨g, 1, none⟩ (.int .i64 ((i : Int) + 1 + 1 + 1 + 1)) = wz) := ⟨_, (rfl : _ = _)⟩
                have HPwz : Hid (Pt g s (i + 1 + 1 + 1 + 1) k wz) := by
                  show Pt _ _ _ _ _
                  rw [← HWwz.out]
                  have := pt_step HPw9.out
                  simpa using this
                have HFwz : Hid (Fm (fun b => b = g) w wz) := by
                  show Fm _ _ _
                  rw [← HWwz.out]; exact fm_step HFw9.out _ _
                go_wp2_with fail
                rw [rounds_succ]
                go_wp2_with fail
                go_ret2
                rw [HWwz.out]
                exact qn_ok2 (by omega) HER2.out HFwz.out HPwz.out
          · have e1 : (p == 110) = false := by simpa using h110
            have e2 : (p == 116) = false := by simpa using h116
            have e3 : (p == 115) = false := by simpa using h115
            have e4 : (p == 120) = false := by simpa using h120
            have n1 : bt s (i + 1) ≠ 110 := fun e => h110 ((HI.out 110 (by omega)).2 e)
            have n2 : bt s (i + 1) ≠ 116 := fun e => h116 ((HI.out 116 (by omega)).2 e)
            have n3 : bt s (i + 1) ≠ 115 := fun e => h115 ((HI.out 115 (by omega)).2 e)
            have n4 : bt s (i + 1) ≠ 120 := fun e => h120 ((HI.out 120 (by omega)).2 e)
            obtain ⟨sg, HSG⟩ : ∃ sg, Hid (sgI p = sg) := ⟨_, (rfl : sgI p = sgI p)⟩
            have hcs := sgn_any p w3
            rw [HSG.out] at hcs hsg
            cases sg with
            | true =>
              have hb0 : bt s (i + 1) ≠ 0 := sign_ne hsg.symm
              have hlt2 := bt_in hb0
              have HER : Hid (escR s (i + 1) = (bt s (i + 1), i + 1 + 1, 0)) := by show _ = _; unfold escR; rw [if_neg n4, if_neg n1, if_neg n2, if_neg n3, if_pos hsg.symm]
              have HPB : Hid (p = (bt s (i + 1) : Int)) := (HI.out _ hb0).2 rfl
              generalize bt s (i + 1) = bb at HER HPB
              have hpb := HPB.out
              subst hpb
              clear hsg hpr HI HPK n1 n2 n3 n4 hb0 h110 h116 h115 h120 HSG HPB
              go_wp2_with fail
              refine hcs.mono ?_
              rintro _ wq ⟨rfl, hwq⟩
              rw [hwq]
              clear hwq hcs
              have c1 := HPw3.out.cells.1.2.1
              have f1 := HPw3.out.cells.2.2.1
              obtain ⟨w4, HWw4⟩ : ∃ w4, Hid (w3.setCell ⟨g, 1, none⟩ (.int .i64 ((i : Int) + 1 + 1)) = w4) := ⟨_, (rfl : _ = _)⟩
              have HPw4 : Hid (Pt g s (i + 1 + 1) k w4) := by
                show Pt _ _ _ _ _
                rw [← HWw4.out]
                have := pt_step HPw3.out
                simpa using this
              have HFw4 : Hid (Fm (fun b => b = g) w w4) := by
                show Fm _ _ _
                rw [← HWw4.out]; exact fm_step HFw3.out _ _
              go_wp2_with fail
              go_ret2
              rw [HWw4.out]
              exact qn_ok (HCR.out.trans HER.out) HFw4.out HPw4.out
            | false =>
              have HER : Hid (escR s (i + 1) = (0, i + 1, 6)) := by show _ = _; unfold escR; rw [if_neg n4, if_neg n1, if_neg n2, if_neg n3, if_neg (by rw [← hsg]; simp)]
              clear hsg hpr HI HPK n1 n2 n3 n4 h110 h116 h115 h120 HSG
              go_wp2_with fail
              refine hcs.mono ?_
              rintro _ wq ⟨rfl, hwq⟩
              rw [hwq]
              clear hwq hcs
              go_wp2_with fail
              refine (wrong_any g s (i + 1) k _ HPw3.out).mono ?_
              rintro _ wx ⟨rfl, hwx⟩
              rw [hwx]
              go_wp2_with fail
              go_ret2
              exact qn_bad (HCR.out.trans HER.out) HFw3.out HPw3.out
  · have hb92 : bt s i ≠ 92 := fun e => h92 (by rw [← HPK.out]; exact (pk_is s i 92 (by omega)).2 e)
    have e92 : (p != 92) = true := by simpa using h92
    by_cases hr : 33 ≤ p ∧ p ≤ 126
    · have b1 : decide (p < 33) = false := by simp; omega
      have b2 : decide ((126 : Int) < p) = false := by simp; omega
      have hpb : p = (bt s i : Int) := by rw [← HPK.out]; exact pk_bt s i (by rw [HPK.out]; omega)
      obtain ⟨sg, HSG⟩ : ∃ sg, Hid (sgI p = sg) := ⟨_, (rfl : sgI p = sgI p)⟩
      have hcs := sgn_any p w1
      rw [HSG.out] at hcs hsg
      cases sg with
      | true =>
        have HER : Hid (charR s i = (0, i, 6)) := by show _ = _; unfold charR; rw [if_neg hb92, if_neg (by rw [← hsg]; simp)]
        clear hpb hb92 h92 hr hsg HPK HSG hpr
        go_wp2_with fail
        refine hcs.mono ?_
        rintro _ wq ⟨rfl, hwq⟩
        rw [hwq]
        clear hwq hcs
        go_wp2_with fail
        refine (wrong_any g s i k _ HPw1.out).mono ?_
        rintro _ wx ⟨rfl, hwx⟩
        rw [hwx]
        go_wp2_with fail
        go_ret2
        exact qn_bad HER.out HFw1.out HPw1.out
      | false =>
        have HER : Hid (charR s i = (bt s i, i + 1, 0)) := by show _ = _; unfold charR; rw [if_neg hb92, if_pos ⟨by omega, hsg.symm⟩]
        have hlt := bt_in (s := s) (i := i) (by omega)
        generalize bt s i = bb at HER hpb hb92 hsg
        subst hpb
        clear hb92 h92 hr hsg HPK HSG hpr
        go_wp2_with fail
        refine hcs.mono ?_
        rintro _ wq ⟨rfl, hwq⟩
        rw [hwq]
        clear hwq hcs
        have c1 := HPw1.out.cells.1.2.1
        have f1 := HPw1.out.cells.2.2.1
        obtain ⟨w2, HWw2⟩ : ∃ w2, Hid (w1.setCell ⟨g, 1, none⟩ (.int .i64 ((i : Int) + 1)) = w2) := ⟨_, (rfl : _ = _)⟩
        have HPw2 : Hid (Pt g s (i + 1) k w2) := by
          show Pt _ _ _ _ _
          rw [← HWw2.out]; exact pt_step HPw1.out
        have HFw2 : Hid (Fm (fun b => b = g) w w2) := by
          show Fm _ _ _
          rw [← HWw2.out]; exact fm_step HFw1.out _ _
        go_wp2_with fail
        go_ret2
        rw [HWw2.out]
        exact qn_ok HER.out HFw2.out HPw2.out
    · have HER : Hid (charR s i = (0, i, 6)) := by
        show _ = _
        unfold charR
        rw [if_neg hb92, if_neg]
        rintro ⟨⟨h1, h2⟩, -⟩
        have : ¬ pk s i < (33 : Nat) := fun h => by have := (pk_low s i 33 (by omega)).1 h; omega
        have h3 : pk s i < (127 : Nat) := (pk_low s i 127 (by omega)).2 (by omega)
        rw [HPK.out] at this h3
        omega
      clear hb92 h92 hsg HPK
      by_cases h33 : p < 33
      · have b1 : decide (p < 33) = true := by simp; omega
        clear hr hpr h33
        go_wp2_with fail
        refine (wrong_any g s i k _ HPw1.out).mono ?_
        rintro _ wx ⟨rfl, hwx⟩
        rw [hwx]
        go_wp2_with fail
        go_ret2
        exact qn_bad HER.out HFw1.out HPw1.out
      · have b1 : decide (p < 33) = false := by simp; omega
        have b2 : decide ((126 : Int) < p) = true := by simp; omega
        clear hr hpr h33
        go_wp2_with fail
        refine (wrong_any g s i k _ HPw1.out).mono ?_
        rintro _ wx ⟨rfl, hwx⟩
        rw [hwx]
        go_wp2_with fail
        go_ret2
        exact qn_bad HER.out HFw1.out HPw1.out
end Go.Proofs.Ythloedfiomfnbaa
