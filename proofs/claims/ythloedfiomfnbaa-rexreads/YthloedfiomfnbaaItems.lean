/-
  The contract of rex.writtenItems: a class's runs, one behind the other.
-/
import Derived.Test.YthloedfiomfnbaaBuild
namespace Go.Proofs.Ythloedfiomfnbaa
open Go.RowKit
open Cls Txt

theorem list_loop (b : ByteArray) : ∀ (k i : Nat) (r : List UInt8), b.size - i = k → ByteArray.toList.loop b i r = r.reverse ++ b.data.toList.drop i := by
  intro k
  induction k with
  | zero =>
    intro i r h
    unfold ByteArray.toList.loop
    rw [if_neg (by omega), List.drop_eq_nil_of_le (by simp; omega)]; simp
  | succ k ih =>
    intro i r h
    unfold ByteArray.toList.loop
    rw [if_pos (by omega), ih _ _ (by omega)]
    have h2 : i < b.data.toList.length := by simp; omega
    rw [List.drop_eq_getElem_cons h2]
    have h3 : b.get! i = b.data.toList[i] := by
      have h4 : i < b.data.size := by simpa using h2
      show b.data[i]! = _
      rw [getElem!_pos b.data i h4]; simp
    rw [h3]; simp
theorem list_data (b : ByteArray) : b.toList = b.data.toList := by
  unfold ByteArray.toList
  rw [list_loop b b.size 0 [] (by omega)]; simp
theorem S_size (l : List UInt8) : (S l).size = l.length := by show l.toArray.size = _; simp
theorem S_at (l : List UInt8) (i : Nat) (h : i < (S l).size) : (S l)[i] = l[i]'(by rw [S_size] at h; exact h) := by
  show l.toArray[i] = _
  simp
theorem S_front (l : List UInt8) (n : Nat) : (S l).extract 0 n = S (l.take n) := by
  apply ByteArray.ext
  apply Array.toList_inj.1
  simp
theorem S_back (l : List UInt8) (n : Nat) : (S l).extract n l.length = S (l.drop n) := by
  apply ByteArray.ext
  apply Array.toList_inj.1
  simp
  rw [List.take_of_length_le (by simp)]
theorem bytesFrom_mem (c : Cl) (k : Nat) (b : UInt8) (h : b ∈ bytesFrom c k) : ∃ x, k ≤ x ∧ x < 256 ∧ mem c x = true ∧ b = x.toUInt8 := by
  simp only [bytesFrom, List.mem_map, List.mem_filter, List.mem_range'] at h
  obtain ⟨x, ⟨⟨i, hi, rfl⟩, hm⟩, rfl⟩ := h
  exact ⟨k + 1 * i, by omega, by omega, hm, rfl⟩
theorem u8_ne {x y : Nat} (hx : x < 256) (hy : y < 256) (h : x ≠ y) : x.toUInt8 ≠ y.toUInt8 := by
  intro e
  have := congrArg UInt8.toNat e
  have h1 : x.toUInt8.toNat = x := by show (UInt8.ofNat x).toNat = x; rw [UInt8.toNat_ofNat']; omega
  have h2 : y.toUInt8.toNat = y := by show (UInt8.ofNat y).toNat = y; rw [UInt8.toNat_ofNat']; omega
  omega
theorem u8_succ (x : Nat) : (x + 1).toUInt8 = x.toUInt8 + 1 := by
  show UInt8.ofNat (x + 1) = UInt8.ofNat x + 1
  simp
structure RunAt (c : Cl) (L : List UInt8) (a n : Nat) : Prop where
  a_lt : a < 256
  n_pos : 1 ≤ n
  n_le : n ≤ L.length
  last : a + n = lastOf (mem c) a + 1
  take : L.take n = (List.range' a n).map Nat.toUInt8
  rest : L.drop n = bytesFrom c (lastOf (mem c) a + 1)
  each : ∀ i (h : i < L.length), i < n → L[i] = (a + i).toUInt8
  stop : ∀ (h : n < L.length), L[n] ≠ (a + n).toUInt8
theorem runAt_of {c : Cl} {k a : Nat} {L : List UInt8} (hL : L = bytesFrom c k) (ha : a < 256) (hp : bytesFrom c k = (List.range' a (lastOf (mem c) a + 1 - a)).map Nat.toUInt8 ++ bytesFrom c (lastOf (mem c) a + 1)) : RunAt c L a (lastOf (mem c) a + 1 - a) := by
  have hle := lastOf_le (mem c) a ha
  rw [← hL] at hp
  have hlen : ((List.range' a (lastOf (mem c) a + 1 - a)).map Nat.toUInt8).length = lastOf (mem c) a + 1 - a := by simp
  refine ⟨ha, by omega, ?_, by omega, ?_, ?_, fun i h hi => ?_, fun h => ?_⟩
  · rw [hp, List.length_append, hlen]; omega
  · rw [hp, List.take_append_of_le_length (by omega), List.take_of_length_le (by omega)]
  · rw [hp, List.drop_append_of_le_length (by omega), List.drop_of_length_le (by omega)]; rfl
  · have : L[i]? = some (a + i).toUInt8 := by
      rw [hp, List.getElem?_append_left (by omega)]
      simp [hi]
    rw [List.getElem?_eq_getElem h] at this
    exact Option.some.inj this
  · have hm : L[lastOf (mem c) a + 1 - a] ∈ bytesFrom c (lastOf (mem c) a + 1) := by
      have : L[lastOf (mem c) a + 1 - a]? = (bytesFrom c (lastOf (mem c) a + 1))[0]? := by
        conv => lhs; rw [hp]
        rw [List.getElem?_append_right (by omega), hlen, Nat.sub_self]
      rw [List.getElem?_eq_getElem h] at this
      exact List.mem_of_getElem? this.symm
    obtain ⟨x, h1, h2, h3, h4⟩ := bytesFrom_mem c _ _ hm
    rw [h4, show a + (lastOf (mem c) a + 1 - a) = lastOf (mem c) a + 1 by omega]
    have hx : x ≠ lastOf (mem c) a + 1 := by
      intro e
      have := lastOf_stop (mem c) a ha (by omega)
      rw [← e, h3] at this; cases this
    exact u8_ne h2 (by omega) hx
def strOf : Value → Nat
  | .string s => s.size
  | _ => 0

set_option maxHeartbeats 4000000 in
set_option maxRecDepth 20000 in
theorem items_any (c : Cl) (w : World) :
    Calls Try.prog 49 #[.agg #[.int .u64 (c.1.toNat : Int), .int .u64 (c.2.1.toNat : Int), .int .u64 (c.2.2.1.toNat : Int), .int .u64 (c.2.2.2.toNat : Int)]] w fun e w' => e = .returned (.string (S (runsT (mem c)))) ∧ Below w.heap.size w w' := by
  go_enter Try.func49, Try.ntmps49
  go_wp2_with fail
  have B0 : Below w.heap.size w (w.alloc (.cells #[.int .u64 (c.1.toNat : Int), .int .u64 (c.2.1.toNat : Int), .int .u64 (c.2.2.1.toNat : Int), .int .u64 (c.2.2.2.toNat : Int)] 24)) := (Below.refl _ _).alloc (Nat.le_refl _) _
  refine (bytes_any c _).mono ?_
  rintro _ w1 ⟨rfl, hb1⟩
  have HF : Hid (Lib.IsBuilder 88 5 (w.heap.size + 1) (w.heap.size + 1) (Lib.byteCells []) w1 ∧ Below w.heap.size w w1 ∧ w.heap.size + 1 ≤ w1.heap.size) := by
    have := Lib.fresh_isBuilder 88 5 (w.alloc (.cells #[.int .u64 (c.1.toNat : Int), .int .u64 (c.2.1.toNat : Int), .int .u64 (c.2.2.1.toNat : Int), .int .u64 (c.2.2.2.toNat : Int)] 24))
    have e : (w.alloc (.cells #[.int .u64 (c.1.toNat : Int), .int .u64 (c.2.1.toNat : Int), .int .u64 (c.2.2.1.toNat : Int), .int .u64 (c.2.2.2.toNat : Int)] 24)).heap.size = w.heap.size + 1 := by simp
    rw [e] at this
    refine ⟨builder_below this hb1, (B0.alloc (by simp) _).trans (hb1.mono (by simp; omega)), ?_⟩
    have := hb1.size
    simp at this; omega
  clear hb1 B0
  go_wp2_with fail
  go_loopw [4] (fun v wr => ∃ (k : Nat) (L : List UInt8), k ≤ 256 ∧ v = .string (S L) ∧ Hid (L = bytesFrom c k ∧ (k = 0 ∨ k = 256 ∨ mem c k = false) ∧ Lib.IsBuilder 88 5 (w.heap.size + 1) (w.heap.size + 1) (Lib.byteCells (runsTo (mem c) k)) wr ∧ Below w.heap.size w wr ∧ w.heap.size + 1 ≤ wr.heap.size)) (fun v _ => strOf v)
  case atStart => exact ⟨0, Cls.bytes c, by omega, rfl, (bytesFrom_zero c).symm, Or.inl rfl, HF.out⟩
  case round =>
    clear HF
    obtain ⟨k, L, hk, rfl, HI⟩ := hrel
    by_cases h0 : L = []
    · have hem : L.isEmpty = true := by rw [h0]; rfl
      have HK : Hid (runsTo (mem c) k = runsT (mem c)) := by
        show _ = _
        obtain ⟨h1, h2, -⟩ := HI.out
        rw [h0] at h1
        have := runsTo_none (mem c) k (256 - k) (fun j g1 g2 => by
          unfold startB
          have : mem c j = false := by
            cases e : mem c j with
            | false => rfl
            | true =>
              exfalso
              have hn := bytesFrom_skip
              have hm : j.toUInt8 ∈ bytesFrom c k := by
                simp only [bytesFrom, List.mem_map, List.mem_filter, List.mem_range']
                exact ⟨j, ⟨⟨j - k, by omega, by omega⟩, e⟩, rfl⟩
              rw [← h1] at hm; simp at hm
          rw [this]; rfl)
        rw [show k + (256 - k) = 256 by omega] at this
        exact this.symm
      clear h0
      go_wp2_with fail
      refine (Try.Builder_String_any (w.heap.size + 1) (w.heap.size + 1) (runsTo (mem c) k) wr HI.out.2.2.1 HI.out.2.2.2.2).mono ?_
      rintro _ w2 ⟨rfl, hb2⟩
      have HB : Hid (Below w.heap.size w w2) := HI.out.2.2.2.1.trans (hb2.mono (Nat.le_succ _))
      clear hb2
      go_wp2_with fail
      go_ret
      exact ⟨by rw [HK.out]; rfl, HB.out⟩
    · obtain ⟨a, ha1, ha2, ha3, ha4, ha5⟩ := bytesFrom_run c k hk (by rw [← HI.out.1]; exact h0)
      have HR : Hid (RunAt c L a (lastOf (mem c) a + 1 - a)) := runAt_of HI.out.1 ha2 ha5
      have hle := lastOf_le (mem c) a ha2
      have HT : Hid (runsTo (mem c) (lastOf (mem c) a + 1) = runsTo (mem c) k ++ runText a (lastOf (mem c) a)) := by
        refine runsTo_run (mem c) k a ?_ ha1 ha2 ha3 ha4
        rcases HI.out.2.1 with h | h | h
        · exact Or.inl h
        · omega
        · exact Or.inr h
      obtain ⟨n, HN⟩ : ∃ n, Hid (lastOf (mem c) a + 1 - a = n) := ⟨_, (rfl : lastOf (mem c) a + 1 - a = lastOf (mem c) a + 1 - a)⟩
      rw [HN.out] at HR
      have hL0 : L.length ≤ 256 := by
        rw [HI.out.1]; unfold bytesFrom; rw [List.length_map]
        have := List.length_filter_le (mem c) (List.range' k (256 - k)); simp at this; omega
      have hem : L.isEmpty = false := by
        cases L with
        | nil => exact absurd rfl h0
        | cons _ _ => rfl
      have hn1 := HR.out.n_pos
      have hn2 : n ≤ (S L).size := by rw [S_size]; exact HR.out.n_le
      have hn3 : (n : Int) ≤ ((S L).size : Int) := by omega
      clear ha4 ha5 h0
      go_wp2_with fail
      refine (runLength_any (S L) n hn1 hn2 (by rw [S_size]; exact hL0) (fun i hi h1 hin => ?_) (fun h => ?_) wr).mono ?_
      · rw [S_at, S_at, HR.out.each i _ hin, HR.out.each (i - 1) _ (by omega), ← u8_succ, show a + (i - 1) + 1 = a + i by omega]
      · rw [S_at, S_at, HR.out.each (n - 1) _ (by omega), ← u8_succ, show a + (n - 1) + 1 = a + n by omega]
        exact HR.out.stop _
      rintro _ w2 ⟨rfl, hb2⟩
      have H2 : Hid (Lib.IsBuilder 88 5 (w.heap.size + 1) (w.heap.size + 1) (Lib.byteCells (runsTo (mem c) k)) w2 ∧ Below w.heap.size w w2 ∧ w.heap.size + 1 ≤ w2.heap.size) := ⟨builder_below HI.out.2.2.1 hb2, HI.out.2.2.2.1.trans (hb2.mono (by have := HI.out.2.2.2.2; omega)), Nat.le_trans HI.out.2.2.2.2 hb2.size⟩
      clear hb2
      have HX1 : Hid ((S L).extract 0 n = S (L.take n)) := S_front L n
      have HX2 : Hid ((S L).extract n L.length = S (L.drop n)) := S_back L n
      go_wp2_with fail
      rw [HX1.out]
      have hts : (S (L.take n)).size = n := by rw [S_size, List.length_take]; have := HR.out.n_le; omega
      have hla : lastOf (mem c) a < 256 := by omega
      refine (writtenRun_any (S (L.take n)) a (lastOf (mem c) a) (by omega) (by have := HR.out.n_le; omega) ha2 hla ?_ ?_ (by have := HR.out.last; omega) w2).mono ?_
      · rw [S_at]; simp only [List.getElem_take]; rw [HR.out.each 0 (by have := HR.out.n_le; omega) (by omega)]; rfl
      · rw [S_at]; simp only [List.getElem_take]
        have hh : (S (L.take n)).size - 1 = n - 1 := by omega
        rw [HR.out.each _ (by have := HR.out.n_le; omega) (by omega), hh]
        congr 1
        have := HR.out.last; omega
      rintro _ w3 ⟨rfl, hb3⟩
      have H3 : Hid (Lib.IsBuilder 88 5 (w.heap.size + 1) (w.heap.size + 1) (Lib.byteCells (runsTo (mem c) k)) w3 ∧ Below w.heap.size w w3 ∧ w.heap.size + 1 ≤ w3.heap.size) := ⟨builder_below H2.out.1 hb3, H2.out.2.1.trans (hb3.mono (by have := H2.out.2.2; omega)), Nat.le_trans H2.out.2.2 hb3.size⟩
      clear hb3 H2 hts
      have hrl := runsTo_length (mem c) k
      have htl := runText_length a (lastOf (mem c) a)
      go_wp2_with fail
      refine (write_any (w.heap.size + 1) (w.heap.size + 1) (runsTo (mem c) k) (S (runText a (lastOf (mem c) a))) w3 H3.out.1 (by rw [S_size]; omega) H3.out.2.2).mono ?_
      rintro _ w4 ⟨rfl, hB4, hb4⟩
      have H4 : Hid (Lib.IsBuilder 88 5 (w.heap.size + 1) (w.heap.size + 1) (Lib.byteCells (runsTo (mem c) (lastOf (mem c) a + 1))) w4 ∧ Below w.heap.size w w4 ∧ w.heap.size + 1 ≤ w4.heap.size) := by
        refine ⟨?_, H3.out.2.1.trans (hb4.mono (Nat.le_succ _)), Nat.le_trans H3.out.2.2 hb4.size⟩
        rw [HT.out]
        exact hB4
      clear hB4 hb4 H3
      go_wp2_with fail
      rw [HX2.out, HR.out.rest]
      go_roundw
      case rel =>
        refine ⟨lastOf (mem c) a + 1, bytesFrom c (lastOf (mem c) a + 1), by omega, rfl, rfl, ?_, H4.out⟩
        by_cases e : lastOf (mem c) a = 255
        · right; left; omega
        · right; right; exact lastOf_stop (mem c) a ha2 (by omega)
      case measure =>
        show (S _).size < (S L).size
        rw [S_size, S_size, ← HR.out.rest, List.length_drop]
        have := HR.out.n_le; omega
end Go.Proofs.Ythloedfiomfnbaa
