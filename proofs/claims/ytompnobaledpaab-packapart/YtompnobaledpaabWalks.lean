/-
  Lists of texts in memory, and the contracts of pack.Num, pack.Text, pack.List, strings.Builder's WriteString and slices.Equal at this program: each answers what YtompnobaledpaabMath says; what was there stays. Conditions: as each says.
-/
import Derived.Test.YtompnobaledpaabRows
import Derived.Test.YtompnobaledpaabMath
import Derived.Test.YtompnobaledpaabShelf
import Derived.WalkKit
import Derived.WalkLawsBesides
import Derived.WalkSpells
import Derived.Laws.BitsAllLaws
import Derived.Laws.IdiomStrings
import Derived.Laws.BytesArg
import Derived.Laws.Concat
import Derived.OwnWalk
import Derived.Below
import Derived.Deep.AppendLies
import Derived.Lib.Builder
import Derived.Lib.AppendStr
import Derived.Laws.Externs
namespace Go.Proofs.Ytompnobaledpaab
open Go.RowKit
open Pack

theorem ret_int {k : IntKind} {a b : Int} (h : a = b) : Ending.returned (.int k a) = .returned (.int k b) := by rw [h]
theorem val_int {k : IntKind} {a b : Int} (h : a = b) : Value.int k a = .int k b := by rw [h]
theorem info5 : (Try.prog.info? 5).map (fun i => (i.zero, i.size, i.bytes)) = some (some (.int .u8 0), 1, 1) := by kernel_rfl
/-- A text's bytes as they lie in memory. -/
def lies (l : List UInt8) : List Value := l.map (fun c => Value.int .u8 (c.toNat : Int))
theorem own_ge {w : World} {base e size n : Nat} {v : Value} {xs : List Value} (h : w.ownsRow base e size v n xs) : ∀ k, v.ownBlock = some k → base ≤ k := by
  intro k hk
  rcases h.2 with ⟨rfl, _⟩ | ⟨g, cap, cur, rfl, hg, _⟩
  · simp [Value.ownBlock] at hk
  · simp [Value.ownBlock] at hk; omega
/-- What a text's bytes, in a slice of one's own, are as a string. -/
theorem conv_own {w : World} {base : Nat} {v : Value} {n : Nat} {l : List UInt8} (h : w.ownsRow base 5 1 v n (lies l)) : (convert 31 9 v).run Try.prog w = .ok (.string ⟨l.toArray⟩) w := by
  obtain ⟨hl, h | ⟨g, cap, cur, rfl, _, hb, _, _, _, ht⟩⟩ := h
  · obtain ⟨rfl, rfl⟩ := h
    have : l = [] := by
      have : l.length = 0 := by simpa [lies] using hl
      exact List.length_eq_zero_iff.1 this
    subst this
    exact run_convert_bytes_nil w 31 5 Try.underlying31 Try.underlying5 0 0 9 Try.underlying9
  · have hn : n = l.length := by simpa [lies] using hl.symm
    subst hn
    refine run_convert_bytes_back w 31 9 5 ⟨g, 0, none⟩ cap l Try.underlying31 Try.underlying5 Try.underlying9 fun j hj => ?_
    have hadd : (⟨g, 0, none⟩ : Addr).add j = ⟨g, j, none⟩ := by unfold Addr.add; split <;> simp_all
    rw [hadd, cell_of_row w g j cur 5 (0, 0) hb]
    have h2 : (cur.toList.take (l.length * 1))[j]? = (lies l)[j]? := by rw [ht]
    rw [List.getElem?_take_of_lt (by omega)] at h2
    have h3 : (lies l)[j]? = some (Value.int .u8 (l[j].toNat : Int)) := by simp [lies, List.getElem?_eq_getElem hj]
    rw [← h3, ← h2]
    simp
theorem lies_byte (pre : List UInt8) (m : Nat) (hm : m < 128) : lies (pre ++ [UInt8.ofNat (m + 128)]) = lies pre ++ [.int .u8 ((m : Int) + 128)] := by
  unfold lies; rw [List.map_append]; congr 1
  have : (UInt8.ofNat (m + 128)).toNat = m + 128 := by rw [UInt8.toNat_ofNat']; omega
  simp only [List.map_cons, List.map_nil, this]; simp
theorem lies_byte2 (pre : List UInt8) (m : Nat) (hm : m < 128) : lies (pre ++ [UInt8.ofNat m]) = lies pre ++ [.int .u8 (m : Int)] := by
  unfold lies; rw [List.map_append]; congr 1
  have : (UInt8.ofNat m).toNat = m := by rw [UInt8.toNat_ofNat']; omega
  simp only [List.map_cons, List.map_nil, this]
set_option maxHeartbeats 800000 in
set_option maxRecDepth 20000 in
theorem num_any (n : Nat) (hn : n < 18446744073709551616) (w : World) :
    Calls Try.prog 6 #[.int .u64 (n : Int)] w fun e w' => e = .returned (.string ⟨(num n).toArray⟩) ∧ Below w.heap.size w w' := by
  obtain ⟨i0, hi, hz0, hz1, hz2⟩ := info_parts info5
  have hlen := (num_len n hn).1
  go_enter Try.func6, Try.ntmps6
  go_wp2
  go_loopw [0, 3] (fun t v wr => ∃ (m : Nat) (pre : List UInt8), m < 18446744073709551616 ∧ pre.length ≤ 9 ∧ Hid (pre ++ num m = num n) ∧ t = .int .u64 (m : Int) ∧ wr.ownsRow w.heap.size 5 1 v pre.length (lies pre) ∧ Below w.heap.size w wr) (fun t _ _ => (intOf t).toNat)
  case atStart => exact ⟨n, [], hn, by simp, rfl, rfl, World.ownsRow_nil _ _ _ _, Below.refl _ _⟩
  case round =>
    obtain ⟨m, pre, hm, hpre, HP, rfl, hown, hbel⟩ := hrel
    have hsz := hbel.size
    by_cases h128 : 128 ≤ m
    · have HP2 : Hid ((pre ++ [UInt8.ofNat (m % 128 + 128)]) ++ num (m / 128) = num n) := by
        show (pre ++ [UInt8.ofNat (m % 128 + 128)]) ++ num (m / 128) = num n
        rw [← HP.out, num_big h128]; simp
      have hp2 : pre.length + 1 ≤ 9 := by
        have h1 := congrArg List.length HP2.out
        have h2 := (num_len (m / 128) (by omega)).2
        simp at h1
        omega
      go_wp2_with (at_builtin; refine wpList_append_own _ rfl _ _ 31 rfl w.heap.size 5 i0 (.int .u8 0) 1 1 Try.underlying31 hi hz0 hz1 hz2 rfl (by decide) _ _ _ rfl (hown.alloc _) ⟨wr.heap.size, 0, none⟩ 1 1 [.int .u8 ((m : Int) % 128 + 128)] rfl rfl (World.news_of_block (t := 5) (fr := (0, 0)) (heap_alloc_new wr _)) (by simp [Value.oneCell']) (by unfold maxLen; omega) (by omega) (by simp; omega) ?_)
      intro v' w1 hown' hgrow _
      have R : w1.ownsRow w.heap.size 5 1 v' (pre ++ [UInt8.ofNat (m % 128 + 128)]).length (lies (pre ++ [UInt8.ofNat (m % 128 + 128)])) ∧ Below w.heap.size w w1 :=
        ⟨by rw [lies_byte pre _ (by omega)]; simpa using hown', Below.grown (hbel.alloc hsz _) hgrow (by simp; omega) (own_ge hown)⟩
      clear hown' hgrow hown hbel
      go_wp2
      go_roundw
      case rel => exact ⟨m / 128, pre ++ [UInt8.ofNat (m % 128 + 128)], by omega, by simpa using hp2, HP2, val_int (by simp), R.1, R.2⟩
      case measure => simp [intOf]; omega
    · have HP2 : Hid (pre ++ [UInt8.ofNat m] = num n) := by
        show pre ++ [UInt8.ofNat m] = num n
        rw [← HP.out, num_small (by omega)]
      go_wp2_with (at_builtin; refine wpList_append_own _ rfl _ _ 31 rfl w.heap.size 5 i0 (.int .u8 0) 1 1 Try.underlying31 hi hz0 hz1 hz2 rfl (by decide) _ _ _ rfl (hown.alloc _) ⟨wr.heap.size, 0, none⟩ 1 1 [.int .u8 (m : Int)] rfl rfl (World.news_of_block (t := 5) (fr := (0, 0)) (heap_alloc_new wr _)) (by simp [Value.oneCell']) (by unfold maxLen; omega) (by omega) (by simp; omega) ?_)
      intro v' w1 hown' hgrow _
      have R : w1.ownsRow w.heap.size 5 1 v' (pre.length + 1) (lies (num n)) ∧ Below w.heap.size w w1 :=
        ⟨by rw [← HP2.out, lies_byte2 pre _ (by omega)]; exact hown', Below.grown (hbel.alloc hsz _) hgrow (by simp; omega) (own_ge hown)⟩
      have hconv := conv_own R.1
      clear hown' hgrow hown hbel
      go_wp2
      go_ret
      exact ⟨rfl, R.2⟩
theorem cat_text (s : ByteArray) : ByteArray.mk (num s.size).toArray ++ s = ByteArray.mk (text s.data.toList).toArray := by
  apply ByteArray.ext
  unfold text
  simp
theorem text_ok (s : ByteArray) (h : s.size ≤ 4096) (w : World) :
    Calls Try.prog 8 #[.string s] w fun e w' => e = .returned (.tuple #[.string ⟨(text s.data.toList).toArray⟩, .int .i64 0]) ∧ Below w.heap.size w w' := by
  have hl := (num_len s.size (by omega)).1
  have hs1 : (ByteArray.mk (num s.size).toArray).size + s.size ≤ 9223372036854775807 := by show (num s.size).toArray.size + s.size ≤ _; simp; omega
  have hq : (s.size : Int) ≤ 4096 := by omega
  go_enter Try.func8, Try.ntmps8
  go_wp2_with fail
  refine (num_any s.size (by omega) _).mono ?_
  rintro e w1 ⟨rfl, hb1⟩
  go_wp2_with fail
  go_ret2
  exact ⟨by rw [cat_text]; rfl, hb1⟩
theorem text_large (s : ByteArray) (h : 4096 < s.size) (w : World) :
    Calls Try.prog 8 #[.string s] w fun e w' => e = .returned (.tuple #[.string ⟨#[]⟩, .int .i64 2]) ∧ w' = w := by
  have hq : (4096 : Int) < (s.size : Int) := by omega
  go_enter Try.func8, Try.ntmps8
  go_wp2_with fail
  go_ret2
  exact ⟨rfl, rfl⟩
theorem grown_of_below {w w' : World} (h : Below w.heap.size w w') : w.grownBy w' none := ⟨h.os, h.tape, h.output, h.size, fun k hk _ => h.block k hk⟩
theorem owns_below {w w' : World} {base e size n : Nat} {v : Value} {xs : List Value} (h : w.ownsRow base e size v n xs) (hb : Below w.heap.size w w') : w'.ownsRow base e size v n xs := by
  refine h.kept (grown_of_below hb) ?_
  cases hv : v.ownBlock with
  | none => exact Or.inl rfl
  | some k => exact Or.inr (by simp)
theorem builder_below {w w' : World} {B b : Nat} {bs : List Value} (h : Lib.IsBuilder 33 5 B b bs w) (hb : Below w.heap.size w w') : Lib.IsBuilder 33 5 B b bs w' := by
  rcases h with h | h
  · have hlt := h.lt
    obtain ⟨h1, v, h2, h3, h4⟩ := h
    exact Or.inl ⟨h1, v, (hb.block b hlt).trans h2, owns_below h3 hb, h4⟩
  · have hlt := h.lt
    obtain ⟨h1, v, h2, h3, h4⟩ := h
    exact Or.inr ⟨h1, v, (hb.block b hlt).trans h2, owns_below h3 hb, h4⟩
/-- A value is a slice that holds these texts. -/
def Strs (w : World) (v : Value) (ls : List ByteArray) : Prop :=
  ∃ ao cap, v = .slice ao ls.length cap ∧ ls.length ≤ 9223372036854775807 ∧ (ls = [] ∨ ∃ b o, ao = some ⟨b, o, none⟩ ∧ b < w.heap.size ∧ ∀ i, i < ls.length → w.cell? ⟨b, o + i, none⟩ = some (.string (ls.getD i ByteArray.empty)))
theorem Strs.below {w w' : World} {v : Value} {ls : List ByteArray} (h : Strs w v ls) {B : Nat} (hb : Below B w w') (hB : w.heap.size ≤ B) : Strs w' v ls := by
  obtain ⟨ao, cap, hv, hm, h | ⟨b, o, h1, h2, h3⟩⟩ := h
  · exact ⟨ao, cap, hv, hm, Or.inl h⟩
  · exact ⟨ao, cap, hv, hm, Or.inr ⟨b, o, h1, Nat.lt_of_lt_of_le h2 hb.size, fun i hi => (hb.cell (p := ⟨b, o + i, none⟩) (by simp; omega)).trans (h3 i hi)⟩⟩
theorem Strs.drew {w : World} {v : Value} {ls : List ByteArray} (h : Strs w v ls) (q : Nat) : Strs (w.drewN q) v ls := by
  induction q generalizing w with
  | zero => exact h
  | succ q ih => exact ih h
theorem strs_of_own {w : World} {base : Nat} {v : Value} {ls : List ByteArray} (h : w.ownsRow base 9 1 v ls.length (ls.map Value.string)) (hm : ls.length ≤ 9223372036854775807) : Strs w v ls := by
  obtain ⟨hl, ⟨h1, h2⟩ | ⟨g, cap, cur, hv, hg, hh, hn, hc, hs, ht⟩⟩ := h
  · exact ⟨none, 0, by rw [h1, h2], hm, Or.inl (List.length_eq_zero_iff.1 h2)⟩
  · refine ⟨some ⟨g, 0, none⟩, cap, hv, hm, Or.inr ⟨g, 0, rfl, ?_, fun i hi => ?_⟩⟩
    · rcases Nat.lt_or_ge g w.heap.size with h' | h'
      · exact h'
      · simp [Array.getElem?_eq_none h'] at hh
    · have e : w.cell? ⟨g, 0 + i, none⟩ = cur[i]? := by simp [World.cell?, hh]
      rw [e]
      have h2 : (cur.toList.take (ls.length * 1))[i]? = (ls.map Value.string)[i]? := by rw [ht]
      rw [List.getElem?_take_of_lt (by omega)] at h2
      have h3 : (ls.map Value.string)[i]? = some (.string (ls.getD i ByteArray.empty)) := by simp [List.getD, List.getElem?_eq_getElem hi]
      rw [← h3, ← h2]; simp
theorem equal_any (w : World) (v1 v2 : Value) (l1 l2 : List ByteArray) (h1 : Strs w v1 l1) (h2 : Strs w v2 l2) :
    Calls Try.prog 5 #[v1, v2] w fun e w' => e = .returned (.bool (decide (l1 = l2))) ∧ ∃ q, w' = w.drewN q := by
  obtain ⟨a1, c1, rfl, m1, h1⟩ := h1
  obtain ⟨a2, c2, rfl, m2, h2⟩ := h2
  by_cases e1 : l1 = []
  · subst e1
    refine (Try.slices_Equal_string_empty a1 a2 c1 l2.length c2 w m2).mono ?_
    rintro e w' ⟨rfl, rfl⟩
    refine ⟨?_, 0, rfl⟩
    have : (l2.length = 0) ↔ ([] = l2) := by rw [List.length_eq_zero_iff]; exact eq_comm
    simp [this]
  · by_cases e2 : l1.length = l2.length
    · have e3 : l2 ≠ [] := by intro e; subst e; exact e1 (List.length_eq_zero_iff.1 e2)
      obtain ⟨b1, o1, rfl, _, c1'⟩ := h1.resolve_left e1
      obtain ⟨b2, o2, rfl, _, c2'⟩ := h2.resolve_left e3
      refine (Try.slices_Equal_string b1 o1 l1.length c1 b2 o2 l2.length c2 l1 l2 w (Nat.le_refl _) (Nat.le_refl _) m1 m2 c1' c2').mono ?_
      rintro e w' ⟨rfl, q, rfl⟩
      exact ⟨by simp, q, rfl⟩
    · refine (Try.slices_Equal_string_lens a1 a2 l1.length c1 l2.length c2 w e2).mono ?_
      rintro e w' ⟨rfl, rfl⟩
      have : l1 ≠ l2 := by intro e; exact e2 (by rw [e])
      exact ⟨by simp [this], 0, rfl⟩
theorem size51 : (Try.prog.info? 33).map (·.size) = some 2 := by kernel_rfl
theorem lies51 : liesAt Try.prog Try.prog.depth 33 (2 / Try.prog.cellsOf 33) 0 33 1 = true := by kernel_rfl
set_option maxRecDepth 100000 in
theorem check_used (b : Nat) (w : World) (h0 : w.cell? ⟨b, 0, none⟩ = some (.pointer (some ⟨b, 0, none⟩))) :
    Calls Try.prog 10 #[.pointer (some ⟨b, 0, none⟩)] w fun e w' => e = .returned (.tuple #[]) ∧ w' = w := by
  obtain ⟨j, hj, _⟩ := Option.map_eq_some_iff.1 size51
  have hne := Lib.run_neq_ptr_same w ⟨b, 0, none⟩ Try.underlying30 hj
  go_enter Try.func10, Try.ntmps10
  go_wp2
  go_end0
  exact ⟨rfl, rfl⟩
set_option maxRecDepth 100000 in
theorem check_fresh (b : Nat) (w : World) (h0 : w.cell? ⟨b, 0, none⟩ = some (.pointer none)) (hsh : w.shape? b = some (33, 2)) (hfz : w.frozen? ⟨b, 0, none⟩ = false) :
    Calls Try.prog 10 #[.pointer (some ⟨b, 0, none⟩)] w fun e w' => e = .returned (.tuple #[]) ∧ w' = w.setCell ⟨b, 0, none⟩ (.pointer (some ⟨b, 0, none⟩)) := by
  obtain ⟨j, hj, hjs⟩ := Option.map_eq_some_iff.1 size51
  have hu := Lib.run_to_unsafe w ⟨b, 0, none⟩ Try.underlying30 Try.underlying42 hj (by rw [hjs]; decide) hsh (Nat.zero_lt_succ 1)
  have hf := Lib.run_from_unsafe w ⟨b, 0, none⟩ Try.underlying42 Try.underlying30 hj hsh lies51
  go_enter Try.func10, Try.ntmps10
  go_wp2
  rw [run_callFunc_extern Try.func11 (by kernel_rfl) (by kernel_rfl) (by kernel_rfl) (e := Extern.AbiNoEscape.same) (by kernel_rfl), Lib.run_noEscape]
  simp only [Result.andThen]
  rw [Oper.upon_value]
  go_wp2
  go_end0
  exact ⟨rfl, rfl⟩
theorem check_any (B b : Nat) (bs : List Value) (w : World) (h : Lib.IsBuilder 33 5 B b bs w) :
    Calls Try.prog 10 #[.pointer (some ⟨b, 0, none⟩)] w fun e w' => e = .returned (.tuple #[]) ∧ Lib.BuilderAt 33 5 B b (.pointer (some ⟨b, 0, none⟩)) bs w' ∧ Below B w w' := by
  rcases h with h | h
  · refine (check_fresh b w h.cell0 h.shape h.frozen0).mono ?_
    rintro e w' ⟨rfl, rfl⟩
    exact ⟨rfl, h.used _, (Below.refl B w).setCell (p := ⟨b, 0, none⟩) h.1 _⟩
  · refine (check_used b w h.cell0).mono ?_
    rintro e w' ⟨rfl, rfl⟩
    exact ⟨rfl, h, Below.refl B _⟩
set_option maxHeartbeats 800000 in
set_option maxRecDepth 100000 in
/-- A text is laid behind what the builder holds. -/
theorem write_any (B b : Nat) (l : List UInt8) (s : ByteArray) (w : World) (h : Lib.IsBuilder 33 5 B b (Lib.byteCells l) w) (hlen : l.length + s.size ≤ 1000000) (hBw : B ≤ w.heap.size) :
    Calls Try.prog 7 #[.pointer (some ⟨b, 0, none⟩), .string s] w fun e w' => e = .returned (.tuple #[.int .i64 s.size, .nilIface]) ∧ Lib.IsBuilder 33 5 B b (Lib.byteCells (l ++ s.data.toList)) w' ∧ Below B w w' := by
  obtain ⟨i0, hi, hz0, hz1, hz2⟩ := info_parts info5
  have hbl := Lib.byteCells_length l
  go_enter Try.func7, Try.ntmps7
  go_wp2_with (go_at_call 10; refine (check_any B b _ _ h).mono ?_)
  rintro e w1 ⟨rfl, h1, hb1⟩
  have hlt := h1.lt
  obtain ⟨hB, v, hbk, hown, hne⟩ := h1
  have hb1s := hb1.size
  have c0 : w1.cell? ⟨b, 0, none⟩ = some (.pointer (some ⟨b, 0, none⟩)) := by rw [Lib.cell_of_heap hbk]; rfl
  have c1 : w1.cell? ⟨b, 1, none⟩ = some v := by rw [Lib.cell_of_heap hbk]; rfl
  go_wp2_with (at_builtin; refine Lib.wpList_append_own_string _ rfl _ _ 31 9 rfl B 5 i0 Try.underlying31 Try.underlying9 hi hz0 hz1 hz2 _ _ _ rfl hown s rfl (by unfold maxLen; omega) (by omega) (by omega) ?_)
  intro v' w2 hown' hgrow _
  have hb2 : w2.heap[b]? = some (.cells #[.pointer (some ⟨b, 0, none⟩), v] 33 (0, 0)) := by
    rw [hgrow.block b hlt (fun e => hne e.symm)]
    exact hbk
  have d0 : w2.cell? ⟨b, 0, none⟩ = some (.pointer (some ⟨b, 0, none⟩)) := by rw [Lib.cell_of_heap hb2]; rfl
  have d1 : w2.cell? ⟨b, 1, none⟩ = some v := by rw [Lib.cell_of_heap hb2]; rfl
  have f1 : w2.frozen? ⟨b, 1, none⟩ = false := Lib.frozen_of_heap hb2 1
  obtain ⟨ao, n', cap, rfl⟩ : ∃ ao n' cap, v' = .slice ao n' cap := by
    rcases hown'.2 with ⟨hv, _⟩ | ⟨g, cap, cur, hv, _⟩
    · exact ⟨_, _, _, hv⟩
    · exact ⟨_, _, _, hv⟩
  have R : Lib.IsBuilder 33 5 B b (Lib.byteCells (l ++ s.data.toList)) (w2.setCell ⟨b, 1, none⟩ (.slice ao n' cap)) ∧ Below B w (w2.setCell ⟨b, 1, none⟩ (.slice ao n' cap)) := by
    constructor
    · refine Or.inr (Lib.BuilderAt.put (T := 33) (e := 5) hB hb2 (bs' := Lib.byteCells (l ++ s.data.toList)) ?_ (by decide))
      have e : Lib.byteCells (l ++ s.data.toList) = Lib.byteCells l ++ Lib.strCells s := by rw [Lib.byteCells_append]; rfl
      rw [e, List.length_append, Lib.strCells_length, hbl]
      exact hown'
    · exact (hb1.grown hgrow (by omega) (fun k hk => (hown.lt k hk).1)).setCell (p := ⟨b, 1, none⟩) hB _
  clear hown hown' hgrow
  go_wp2
  go_ret2
  exact ⟨rfl, R.1, R.2⟩
/-- The bytes of texts. -/
def bytes (ls : List ByteArray) : List (List UInt8) := ls.map (fun s => s.data.toList)
/-- The text of a list, the empty one where it is none. -/
def listT (l : List (List UInt8)) : List UInt8 := if listE l = 0 then list l else []
/-- The first k texts of a list, laid behind its number. -/
def upto (ls : List ByteArray) (k : Nat) : List UInt8 := num ls.length ++ (((bytes ls).take k).map text).flatten
theorem bytes_length (ls : List ByteArray) : (bytes ls).length = ls.length := by simp [bytes]
theorem bytes_at (ls : List ByteArray) (k : Nat) (h : k < ls.length) : (bytes ls)[k]'(by rw [bytes_length]; exact h) = (ls.getD k ByteArray.empty).data.toList := by
  simp [bytes, List.getD, List.getElem?_eq_getElem h]
theorem upto_zero (ls : List ByteArray) : upto ls 0 = num ls.length := by simp [upto]
theorem upto_succ (ls : List ByteArray) (k : Nat) (h : k < ls.length) : upto ls (k + 1) = upto ls k ++ text (ls.getD k ByteArray.empty).data.toList := by
  unfold upto
  rw [List.take_succ_eq_append_getElem (by rw [bytes_length]; exact h), bytes_at ls k h]
  simp
theorem upto_all (ls : List ByteArray) : upto ls ls.length = list (bytes ls) := by
  unfold upto list
  rw [List.take_of_length_le (by rw [bytes_length]; exact Nat.le_refl _), bytes_length]
theorem text_len (s : ByteArray) (h : s.size ≤ 4096) : (text s.data.toList).length ≤ 4106 := by
  have := (num_len s.size (by omega)).1
  unfold text; simp; omega
theorem upto_len (ls : List ByteArray) (h : ls.length ≤ 100) : ∀ k, k ≤ ls.length → (∀ i, i < k → (ls.getD i ByteArray.empty).size ≤ 4096) → (upto ls k).length ≤ 10 + 4106 * k := by
  intro k
  induction k with
  | zero => intro _ _; rw [upto_zero]; have := (num_len ls.length (by omega)).1; omega
  | succ k ih =>
    intro hk hs
    rw [upto_succ ls k (by omega), List.length_append]
    have h1 := ih (by omega) (fun i hi => hs i (by omega))
    have h2 := text_len _ (hs k (by omega))
    omega
theorem listE_long (ls : List ByteArray) (h : 100 < ls.length) : listE (bytes ls) = 2 := by
  unfold listE; rw [if_pos (Or.inl (by rw [bytes_length]; exact h))]
theorem listE_large (ls : List ByteArray) (k : Nat) (hk : k < ls.length) (h : 4096 < (ls.getD k ByteArray.empty).size) : listE (bytes ls) = 2 := by
  unfold listE; rw [if_pos (Or.inr ?_)]
  rw [List.any_eq_true]
  refine ⟨(bytes ls)[k]'(by rw [bytes_length]; exact hk), List.getElem_mem _, ?_⟩
  rw [bytes_at ls k hk]
  simpa using h
theorem listE_all (ls : List ByteArray) (h : ls.length ≤ 100) (hs : ∀ i, i < ls.length → (ls.getD i ByteArray.empty).size ≤ 4096) : listE (bytes ls) = 0 := by
  refine listE_of _ (by rw [bytes_length]; exact h) fun s hm => ?_
  obtain ⟨i, hi, rfl⟩ := List.getElem_of_mem hm
  rw [bytes_length] at hi
  rw [bytes_at ls i hi]
  simpa using hs i hi
theorem listT_bad (ls : List ByteArray) (h : listE (bytes ls) = 2) : listT (bytes ls) = [] := by unfold listT; rw [if_neg (by omega)]
theorem listT_ok (ls : List ByteArray) (h : listE (bytes ls) = 0) : listT (bytes ls) = upto ls ls.length := by unfold listT; rw [if_pos h, upto_all]
set_option maxHeartbeats 1600000 in
set_option maxRecDepth 20000 in
theorem list_any (v : Value) (ls : List ByteArray) (w : World) (h : Strs w v ls) :
    Calls Try.prog 4 #[v] w fun e w' => e = .returned (.tuple #[.string ⟨(listT (bytes ls)).toArray⟩, .int .i64 ((listE (bytes ls) : Nat) : Int)]) ∧ Below w.heap.size w w' := by
  have hS := h
  obtain ⟨ao, cap, rfl, hm, _⟩ := h
  by_cases hl : 100 < ls.length
  · have hq : (100 : Int) < (ls.length : Int) := by omega
    rw [listE_long ls hl, listT_bad ls (listE_long ls hl)]
    go_enter Try.func4, Try.ntmps4
    go_wp2_with fail
    go_ret2
    exact ⟨rfl, Below.refl _ _⟩
  · have hq : (ls.length : Int) ≤ 100 := by omega
    have HS : Hid (Strs w (.slice ao ls.length cap) ls) := hS
    clear hS
    go_enter Try.func4, Try.ntmps4
    go_wp2_with fail
    refine (num_any ls.length (by omega) _).mono ?_
    rintro e w1 ⟨rfl, hb1⟩
    have hf : Lib.IsBuilder 33 5 w.heap.size w.heap.size (Lib.byteCells []) w1 := builder_below (Lib.fresh_isBuilder 33 5 w) hb1
    have hbel1 : Below w.heap.size w w1 := ((Below.refl _ w).alloc (Nat.le_refl _) _).trans (hb1.mono (by simp))
    clear hb1
    go_wp2_with fail
    refine (write_any w.heap.size w.heap.size [] _ w1 hf (by have := (num_len ls.length (by omega)).1; show ([] : List UInt8).length + (num ls.length).toArray.size ≤ _; simp; omega) hbel1.size).mono ?_
    rintro e w2 ⟨rfl, hB2, hb2⟩
    have hB3 : Lib.IsBuilder 33 5 w.heap.size w.heap.size (Lib.byteCells (upto ls 0)) w2 := by rw [upto_zero]; exact hB2
    have hbel2 := hbel1.trans hb2
    clear hf hbel1 hB2 hb2
    go_wp2_with fail
    go_loopw [19] (fun i wr => ∃ k : Nat, k ≤ ls.length ∧ i = .int .i64 (k : Int) ∧ Hid (∀ i, i < k → (ls.getD i ByteArray.empty).size ≤ 4096) ∧ Hid (Lib.IsBuilder 33 5 w.heap.size w.heap.size (Lib.byteCells (upto ls k)) wr) ∧ Below w.heap.size w wr) (fun i _ => ls.length - (intOf i).toNat)
    case atStart => exact ⟨0, Nat.zero_le _, rfl, fun i hi => absurd hi (Nat.not_lt_zero _), hB3, hbel2⟩
    case round =>
      clear hB3 hbel2
      obtain ⟨k, hk, rfl, HL, HB, hbel⟩ := hrel
      have hul := upto_len ls (by omega) k hk HL.out
      by_cases hlt : k < ls.length
      · obtain ⟨b, o, hao, hbo, hcell⟩ : ∃ b o, ao = some ⟨b, o, none⟩ ∧ b < w.heap.size ∧ ∀ i, i < ls.length → w.cell? ⟨b, o + i, none⟩ = some (.string (ls.getD i ByteArray.empty)) := by
          obtain ⟨ao', cap', hv, _, h | ⟨b, o, h1, h2, h3⟩⟩ := HS.out
          · rw [h] at hlt; simp at hlt
          · injection hv with hv1 _ _
            exact ⟨b, o, by rw [hv1, h1], h2, h3⟩
        subst hao
        obtain ⟨s, hs⟩ : ∃ s, s = ls.getD k ByteArray.empty := ⟨_, rfl⟩
        have hc : wr.cell? ⟨b, o + k, none⟩ = some (.string s) := by rw [hs, hbel.cell (p := ⟨b, o + k, none⟩) hbo]; exact hcell k hlt
        have HE : Hid (s = ls.getD k ByteArray.empty) := hs
        clear hs hcell
        by_cases h4 : 4096 < s.size
        · have hE : Hid (listE (bytes ls) = 2) := listE_large ls k hlt (by rw [← HE.out]; exact h4)
          go_wp2_with fail
          refine (text_large s h4 _).mono ?_
          rintro e w4 ⟨rfl, hw4⟩
          subst hw4
          go_wp2_with fail
          go_ret2
          exact ⟨by rw [hE.out, listT_bad ls hE.out]; rfl, hbel⟩
        · have htl := text_len s (by omega)
          go_wp2_with fail
          refine (text_ok s (by omega) _).mono ?_
          rintro e w4 ⟨rfl, hb4⟩
          have hB4 := builder_below HB.out hb4
          have hbel4 := hbel.trans (hb4.mono hbel.size)
          go_wp2_with fail
          refine (write_any w.heap.size w.heap.size (upto ls k) _ w4 hB4 (by show (upto ls k).length + (text s.data.toList).toArray.size ≤ _; simp; omega) hbel4.size).mono ?_
          rintro e w5 ⟨rfl, hB5, hb5⟩
          have R : Hid (∀ i, i < k + 1 → (ls.getD i ByteArray.empty).size ≤ 4096) ∧ Hid (Lib.IsBuilder 33 5 w.heap.size w.heap.size (Lib.byteCells (upto ls (k + 1))) w5) ∧ Below w.heap.size w w5 := by
            refine ⟨fun i hi => ?_, ?_, hbel4.trans hb5⟩
            · rcases Nat.lt_succ_iff_lt_or_eq.1 hi with h | h
              · exact HL.out i h
              · subst h; rw [← HE.out]; omega
            · show Lib.IsBuilder 33 5 w.heap.size w.heap.size (Lib.byteCells (upto ls (k + 1))) w5
              rw [upto_succ ls k hlt, ← HE.out]; exact hB5
          clear hB5 hb5 hB4 hb4 hbel4 hbel HB
          go_wp2_with fail
          go_roundw
          case rel => exact ⟨k + 1, by omega, by go_num, R.1, R.2.1, R.2.2⟩
          case measure => simp [intOf]; omega
      · have ek : k = ls.length := by omega
        have hE : Hid (listE (bytes ls) = 0) := listE_all ls (by omega) (fun i hi => HL.out i (by omega))
        go_wp2_with fail
        refine (Try.Builder_String_any w.heap.size w.heap.size (upto ls k) wr HB.out hbel.size).mono ?_
        rintro e w4 ⟨rfl, hb4⟩
        go_wp2_with fail
        go_ret2
        exact ⟨by rw [hE.out, listT_ok ls hE.out]; rfl, hbel.trans hb4⟩
end Go.Proofs.Ytompnobaledpaab
