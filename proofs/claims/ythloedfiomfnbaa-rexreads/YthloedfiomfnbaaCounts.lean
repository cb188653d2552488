/-
  The contracts of class.Count and class.Bytes: how many bytes a class has, all of them rising, for every class; each leaves what lay below the heap's end as it was.
-/
import Derived.Test.YthloedfiomfnbaaBits
import Derived.Test.YthloedfiomfnbaaChars
import Derived.OwnWalk
import Derived.Below
import Derived.Laws.AppendOwn
import Derived.Deep.AppendLies
import Derived.Laws.IdiomStrings
import Derived.Laws.BytesArg
namespace Go.Proofs.Ythloedfiomfnbaa
open Go.RowKit
open Cls

theorem int_u64 {a b : Int} (h : a = b) : Value.int .u64 a = .int .u64 b := by rw [h]
theorem int_i64 {a b : Int} (h : a = b) : Value.int .i64 a = .int .i64 b := by rw [h]

theorem cells_lay {w W : World} {c : Cl} (h : Lays (w.alloc (.cells #[.int .u64 (c.1.toNat : Int), .int .u64 (c.2.1.toNat : Int), .int .u64 (c.2.2.1.toNat : Int), .int .u64 (c.2.2.2.toNat : Int)] 24)) W) :
    (W.cell? ⟨w.heap.size, 0, none⟩ = some (.int .u64 (c.1.toNat : Int)) ∧ W.cell? ⟨w.heap.size, 1, none⟩ = some (.int .u64 (c.2.1.toNat : Int)) ∧ W.cell? ⟨w.heap.size, 2, none⟩ = some (.int .u64 (c.2.2.1.toNat : Int)) ∧ W.cell? ⟨w.heap.size, 3, none⟩ = some (.int .u64 (c.2.2.2.toNat : Int))) := by
  have hb := h.below
  refine ⟨(hb.cell (by simp)).trans (by simp), (hb.cell (by simp)).trans (by simp), (hb.cell (by simp)).trans (by simp), (hb.cell (by simp)).trans (by simp)⟩

theorem wrap64_id (a : Int) (h1 : -9223372036854775808 ≤ a) (h2 : a ≤ 9223372036854775807) : wrap64 a = a := by
  unfold wrap64; omega
theorem count_step (c : Cl) (k : Nat) (hk : k < 256) : wrap64 ((countTo c k : Int) + wrap64 (bit c k : Int)) = (countTo c (k + 1) : Int) := by
  have h1 := countTo_le c k
  have h2 : bit c k ≤ 1 := by unfold bit; split <;> omega
  rw [wrap64_id (bit c k : Int) (by omega) (by omega), wrap64_id _ (by omega) (by omega), countTo_succ]; omega

set_option maxHeartbeats 1000000 in
set_option maxRecDepth 20000 in
theorem count_any (c : Cl) (w : World) :
    Calls Try.prog 45 #[.agg #[.int .u64 (c.1.toNat : Int), .int .u64 (c.2.1.toNat : Int), .int .u64 (c.2.2.1.toNat : Int), .int .u64 (c.2.2.2.toNat : Int)]] w fun e w' => e = .returned (.int .i64 (count c : Int)) ∧ Lays w w' := by
  go_enter Try.func45, Try.ntmps45
  go_wp2
  go_loopw [3, 5] (fun n i wr => ∃ k : Nat, k ≤ 256 ∧ i = .int .i64 (k : Int) ∧ n = .int .i64 (countTo c k : Int) ∧ Hid (Lays (w.alloc (.cells #[.int .u64 (c.1.toNat : Int), .int .u64 (c.2.1.toNat : Int), .int .u64 (c.2.2.1.toNat : Int), .int .u64 (c.2.2.2.toNat : Int)] 24)) wr)) (fun _ i _ => 256 - (intOf i).toNat)
  case atStart => exact ⟨0, by omega, rfl, rfl, Lays.refl _⟩
  case round =>
    obtain ⟨k, hk, rfl, rfl, HL⟩ := hrel
    obtain ⟨c0, c1, c2, c3⟩ := cells_lay HL.out
    by_cases hlt : k < 256
    · have hn := countTo_le c k
      go_wp2_with (go_at_call 56; refine (bit_any c _ k (by first | rfl | omega) hlt _).mono ?_; rintro e w1 ⟨rfl, hl⟩)
      go_roundw
      case rel => exact ⟨k + 1, by omega, by go_num, int_i64 (count_step c k hlt), HL.out.trans hl⟩
      case measure => simp [intOf]; omega
    · go_wp2
      go_ret
      have e : k = 256 := by omega
      subst e
      exact ⟨rfl, ((Lays.refl w).alloc _).trans HL.out⟩

/-! ### Bytes -/
def lies (l : List UInt8) : List Value := l.map fun b => .int .u8 (b.toNat : Int)
theorem lies_snoc (l : List UInt8) (m : Nat) (hm : m < 256) : lies (l ++ [m.toUInt8]) = lies l ++ [.int .u8 (m : Int)] := by
  unfold lies; rw [List.map_append]; congr 1
  have : (m.toUInt8).toNat = m := by show (UInt8.ofNat m).toNat = m; rw [UInt8.toNat_ofNat']; omega
  simp only [List.map_cons, List.map_nil, this]
theorem own_below {w w' : World} {base e size n : Nat} {v : Value} {xs : List Value} (h : w.ownsRow base e size v n xs) {B : Nat} (hb : Below B w w') (hB : w.heap.size ≤ B) : w'.ownsRow base e size v n xs := by
  obtain ⟨h1, h2 | ⟨g, cap, cur, hv, hg, hh, h3⟩⟩ := h
  · exact ⟨h1, Or.inl h2⟩
  · refine ⟨h1, Or.inr ⟨g, cap, cur, hv, hg, ?_, h3⟩⟩
    have hlt : g < w.heap.size := by
      rcases Nat.lt_or_ge g w.heap.size with h' | h'
      · exact h'
      · rw [Array.getElem?_eq_none h'] at hh; cases hh
    rw [hb.block g (by omega)]; exact hh
theorem own_ge {w : World} {B : Nat} {e : TypeId} {size : Nat} {v : Value} {n : Nat} {xs : List Value} (h : w.ownsRow B e size v n xs) : ∀ j, v.ownBlock = some j → B ≤ j := by
  obtain ⟨_, h | ⟨g, cap, cur, rfl, hB, _⟩⟩ := h
  · obtain ⟨rfl, _⟩ := h; intro j hj; simp [Value.ownBlock] at hj
  · intro j hj; simp [Value.ownBlock] at hj; omega
theorem cells_below {w W : World} {c : Cl} {B : Nat} (h : Below B (w.alloc (.cells #[.int .u64 (c.1.toNat : Int), .int .u64 (c.2.1.toNat : Int), .int .u64 (c.2.2.1.toNat : Int), .int .u64 (c.2.2.2.toNat : Int)] 24)) W) (hB : w.heap.size < B) :
    (W.cell? ⟨w.heap.size, 0, none⟩ = some (.int .u64 (c.1.toNat : Int)) ∧ W.cell? ⟨w.heap.size, 1, none⟩ = some (.int .u64 (c.2.1.toNat : Int)) ∧ W.cell? ⟨w.heap.size, 2, none⟩ = some (.int .u64 (c.2.2.1.toNat : Int)) ∧ W.cell? ⟨w.heap.size, 3, none⟩ = some (.int .u64 (c.2.2.2.toNat : Int))) :=
  ⟨(h.cell hB).trans (by simp), (h.cell hB).trans (by simp), (h.cell hB).trans (by simp), (h.cell hB).trans (by simp)⟩
theorem conv_own {w : World} {base : Nat} {v : Value} {n : Nat} {l : List UInt8} (h : w.ownsRow base 5 1 v n (lies l)) : (convert 74 9 v).run Try.prog w = .ok (.string ⟨l.toArray⟩) w := by
  obtain ⟨hl, h | ⟨g, cap, cur, rfl, _, hb, _, _, _, ht⟩⟩ := h
  · obtain ⟨rfl, rfl⟩ := h
    have : l = [] := by
      have : l.length = 0 := by simpa [lies] using hl
      exact List.length_eq_zero_iff.1 this
    subst this
    exact run_convert_bytes_nil w 74 5 Try.underlying74 Try.underlying5 0 0 9 Try.underlying9
  · have hn : n = l.length := by simpa [lies] using hl.symm
    subst hn
    refine run_convert_bytes_back w 74 9 5 ⟨g, 0, none⟩ cap l Try.underlying74 Try.underlying5 Try.underlying9 fun j hj => ?_
    have hadd : (⟨g, 0, none⟩ : Addr).add j = ⟨g, j, none⟩ := by unfold Addr.add; split <;> simp_all
    rw [hadd, cell_of_row w g j cur 5 (0, 0) hb]
    have h2 : (cur.toList.take (l.length * 1))[j]? = (lies l)[j]? := by rw [ht]
    rw [List.getElem?_take_of_lt (by omega)] at h2
    have h3 : (lies l)[j]? = some (Value.int .u8 (l[j].toNat : Int)) := by simp [lies, List.getElem?_eq_getElem hj]
    rw [← h3, ← h2]
    simp
theorem info5 : (Try.prog.info? 5).map (fun i => (i.zero, i.size, i.bytes)) = some (some (.int .u8 0), 1, 1) := by kernel_rfl
theorem bytesTo_le (c : Cl) (k : Nat) : (bytesTo c k).length ≤ k := by rw [bytesTo_length]; exact countTo_le c k

set_option maxHeartbeats 1000000 in
set_option maxRecDepth 20000 in
theorem bytes_any (c : Cl) (w : World) :
    Calls Try.prog 47 #[.agg #[.int .u64 (c.1.toNat : Int), .int .u64 (c.2.1.toNat : Int), .int .u64 (c.2.2.1.toNat : Int), .int .u64 (c.2.2.2.toNat : Int)]] w fun e w' => e = .returned (.string ⟨(Cls.bytes c).toArray⟩) ∧ Below w.heap.size w w' := by
  obtain ⟨i0, hi, hz0, hz1, hz2⟩ := info_parts info5
  go_enter Try.func47, Try.ntmps47
  go_wp2
  go_loopw [3, 6] (fun v i wr => ∃ k : Nat, k ≤ 256 ∧ i = .int .i64 (k : Int) ∧ wr.ownsRow (w.heap.size + 1) 5 1 v (bytesTo c k).length (lies (bytesTo c k)) ∧ Below (w.heap.size + 1) (w.alloc (.cells #[.int .u64 (c.1.toNat : Int), .int .u64 (c.2.1.toNat : Int), .int .u64 (c.2.2.1.toNat : Int), .int .u64 (c.2.2.2.toNat : Int)] 24)) wr) (fun _ i _ => 256 - (intOf i).toNat)
  case atStart => exact ⟨0, by omega, rfl, World.ownsRow_nil _ _ _ _, Below.refl _ _⟩
  case round =>
    obtain ⟨k, hk, rfl, hown, hbel⟩ := hrel
    obtain ⟨c0, c1, c2, c3⟩ := cells_below hbel (Nat.lt_succ_self _)
    have hsz := hbel.size
    simp at hsz
    have hlen := bytesTo_le c k
    by_cases hlt : k < 256
    · cases hm : mem c k with
      | true =>
        have HE : Hid (bytesTo c (k + 1) = bytesTo c k ++ [k.toUInt8]) := by show bytesTo c (k + 1) = _; rw [bytesTo_succ, if_pos hm]
        go_wp2_with (first
          | (go_at_call 60; refine (has_any c _ k (by first | rfl | omega) hlt _).mono ?_; rintro e w1 ⟨rfl, hl⟩; have hb1 := hl.below; have hs1 := hb1.size; have hown1 := own_below hown hb1 (Nat.le_refl _))
          | (at_builtin; refine wpList_append_own _ rfl _ _ 74 rfl (w.heap.size + 1) 5 i0 (.int .u8 0) 1 1 Try.underlying74 hi hz0 hz1 hz2 rfl (by decide) _ _ _ rfl (hown1.alloc _) ⟨w1.heap.size, 0, none⟩ 1 1 [.int .u8 (k : Int)] rfl rfl (World.news_of_block (t := 5) (fr := (0, 0)) (heap_alloc_new w1 _)) (by simp [Value.oneCell']) (by unfold maxLen; omega) (by omega) (by simp; omega) ?_; intro v' w2 hown' hgrow _)
          | go_in)
        go_roundw
        case rel =>
          refine ⟨k + 1, by omega, by go_num, ?_, (((hbel.trans (hb1.mono hsz)).alloc (by omega) _).grown hgrow (by simp; omega) (own_ge hown1))⟩
          rw [HE.out, lies_snoc _ _ hlt]
          simpa using hown'
        case measure => simp [intOf]; omega
      | false =>
        have HE : Hid (bytesTo c (k + 1) = bytesTo c k) := by show bytesTo c (k + 1) = _; rw [bytesTo_succ, if_neg (by simp [hm]), List.append_nil]
        go_wp2_with (go_at_call 60; refine (has_any c _ k (by first | rfl | omega) hlt _).mono ?_; rintro e w1 ⟨rfl, hl⟩; have hb1 := hl.below; have hs1 := hb1.size; have hown1 := own_below hown hb1 (Nat.le_refl _))
        go_roundw
        case rel => exact ⟨k + 1, by omega, by go_num, by rw [HE.out]; exact hown1, hbel.trans (hb1.mono hsz)⟩
        case measure => simp [intOf]; omega
    · have e : k = 256 := by omega
      subst e
      have hconv := conv_own hown
      go_wp2
      go_ret
      exact ⟨rfl, ((Below.refl _ w).alloc (Nat.le_refl _) _).trans (hbel.mono (Nat.le_succ _))⟩
end Go.Proofs.Ythloedfiomfnbaa
