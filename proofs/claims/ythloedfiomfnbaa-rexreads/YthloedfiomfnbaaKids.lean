/-
  The contracts of slices.Index and slices.Contains at numbers; a tree's Kids as they lie in memory.
-/
import Derived.Test.YthloedfiomfnbaaClassT
import Derived.Test.YthloedfiomfnbaaChecks
import Derived.Test.YthloedfiomfnbaaFree
namespace Go.Proofs.Ythloedfiomfnbaa
open Go.RowKit
open Cls Rex Txt

/-- A value is a slice that holds these numbers. -/
def Ints (w : World) (v : Value) (l : List Int) : Prop :=
  ∃ ao cap, v = .slice ao l.length cap ∧ l.length ≤ 9223372036854775807 ∧ (l = [] ∨ ∃ b o, ao = some ⟨b, o, none⟩ ∧ b < w.heap.size ∧ ∀ i (hi : i < l.length), w.cell? ⟨b, o + i, none⟩ = some (.int .i64 l[i]))
theorem Ints.below {w w' : World} {v : Value} {l : List Int} (h : Ints w v l) (hb : Below w.heap.size w w') : Ints w' v l := by
  obtain ⟨ao, cap, hv, hm, h | ⟨b, o, h1, h2, h3⟩⟩ := h
  · exact ⟨ao, cap, hv, hm, Or.inl h⟩
  · exact ⟨ao, cap, hv, hm, Or.inr ⟨b, o, h1, Nat.lt_of_lt_of_le h2 hb.size, fun i hi => (hb.cell (p := ⟨b, o + i, none⟩) h2).trans (h3 i hi)⟩⟩
set_option maxHeartbeats 1600000 in
set_option maxRecDepth 20000 in
theorem index_any (v : Value) (l : List Int) (x : Int) (w : World) (h : Ints w v l) :
    Calls Try.prog 66 #[v, .int .i64 x] w fun e w' => (∃ z : Int, e = .returned (.int .i64 z) ∧ (0 ≤ z ↔ l.contains x = true)) ∧ w' = w := by
  obtain ⟨ao, cap, rfl, hm, hcs⟩ := h
  go_enter Try.func66, Try.ntmps66
  go_wp2_with fail
  go_loopw [8] (fun i wr => ∃ q : Nat, q ≤ l.length ∧ i = .int .i64 (q : Int) ∧ Hid (∀ i (hi : i < l.length), i < q → l[i] ≠ x) ∧ wr = w) (fun i _ => l.length - (intOf i).toNat)
  case atStart => exact ⟨0, by omega, rfl, fun i _ hi => by omega, rfl⟩
  case round =>
    obtain ⟨q, hq, rfl, HA, rfl⟩ := hrel
    by_cases hlt : q < l.length
    · obtain ⟨b, o, rfl, hb, hc⟩ := hcs.resolve_left (by intro e; subst e; simp at hlt)
      have c0 := hc q hlt
      obtain ⟨z, HZ⟩ : ∃ z, Hid (l[q] = z) := ⟨_, (rfl : l[q] = l[q])⟩
      rw [HZ.out] at c0
      have hk1 : (q : Int) < (l.length : Int) := by omega
      clear hcs hc
      by_cases h1 : x = z
      · subst h1
        go_wp2_with fail
        go_ret
        refine ⟨⟨(q : Int), rfl, ?_⟩, rfl⟩
        constructor
        · intro _; simp; rw [← HZ.out]; exact List.getElem_mem hlt
        · intro _; omega
      · have hb1 : (x == z) = false := by simp; exact h1
        go_wp2_with fail
        go_roundw
        case rel =>
          refine ⟨q + 1, by omega, by go_num, fun i hi h2 => ?_, by trivial⟩
          by_cases e : i = q
          · subst e; rw [HZ.out]; exact fun e => h1 e.symm
          · exact HA.out i hi (by omega)
        case measure => simp [intOf]; omega
    · go_wp2_with fail
      go_ret
      refine ⟨⟨-1, rfl, ?_⟩, rfl⟩
      constructor
      · intro h; omega
      · intro h
        simp at h
        obtain ⟨i, hi, e⟩ := List.getElem_of_mem h
        exact absurd e (HA.out i hi (by omega))

set_option maxHeartbeats 1600000 in
set_option maxRecDepth 20000 in
theorem contains_any (v : Value) (l : List Int) (x : Int) (w : World) (h : Ints w v l) :
    Calls Try.prog 50 #[v, .int .i64 x] w fun e w' => e = .returned (.bool (l.contains x)) ∧ w' = w := by
  have HI := index_any v l x w h
  obtain ⟨ao, cap, rfl, hm, hcs⟩ := h
  go_enter Try.func50, Try.ntmps50
  go_wp2_with fail
  refine HI.mono ?_
  rintro _ w1 ⟨⟨z, rfl, hz⟩, rfl⟩
  have HZ : Hid (0 ≤ z ↔ l.contains x = true) := hz
  clear hz HI
  go_wp2_with fail
  go_ret
  refine ⟨ret_bool ?_, rfl⟩
  rw [Bool.eq_iff_iff, decide_eq_true_eq]
  exact HZ.out

theorem no_way {p : Prop} (h : false = true) : p := by cases h
theorem dep_of {l : List Edge} {d : Nat → Bool} (h : ∀ e ∈ l, Region.binds .any e = true → d e.on = true) (j : Nat) (hj : l.any (fun e => Region.binds .any e && e.on == j) = true) : d j = true := by
  obtain ⟨e, he, h2⟩ := List.any_eq_true.1 hj
  simp only [Bool.and_eq_true, beq_iff_eq] at h2
  rw [← h2.2]; exact h e he h2.1
/-- A Kid, as it lies in memory. -/
theorem rx_kid {w : World} {B b o : Nat} {kids : List T} {vals : Nat → Value} (h3 : ∀ i, i < kids.length → ∀ j, j < 6 → w.cell? ⟨b, o + i * 6 + j, none⟩ = (vals i).cells[j]?) (hr : ∀ i (hi : i < kids.length), Rx w B (vals i) kids[i]) (i : Nat) (hi : i < kids.length) :
    ∃ u0 u1 u2 u3 u4 u5, Rx w B (.agg #[u0, u1, u2, u3, u4, u5]) kids[i] ∧ w.cell? ⟨b, o + i * 6, none⟩ = some u0 ∧ w.cell? ⟨b, o + i * 6 + 1, none⟩ = some u1 ∧ w.cell? ⟨b, o + i * 6 + 2, none⟩ = some u2 ∧ w.cell? ⟨b, o + i * 6 + 3, none⟩ = some u3 ∧ w.cell? ⟨b, o + i * 6 + 4, none⟩ = some u4 ∧ w.cell? ⟨b, o + i * 6 + 5, none⟩ = some u5 := by
  have hx := hr i hi
  obtain ⟨k, c, ao, cap, ks, vs, hv, -⟩ := hx.shape
  have h := h3 i hi
  rw [hv] at hx h
  refine ⟨_, _, _, _, _, _, hx, ?_, ?_, ?_, ?_, ?_, ?_⟩
  · have := h 0 (by omega); simpa [Value.cells] using this
  · have := h 1 (by omega); simpa [Value.cells] using this
  · have := h 2 (by omega); simpa [Value.cells] using this
  · have := h 3 (by omega); simpa [Value.cells] using this
  · have := h 4 (by omega); simpa [Value.cells] using this
  · have := h 5 (by omega); simpa [Value.cells] using this
theorem is_kind {t : T} {x : E} (h : Is t x) : t.kind = kindOf x := by cases h <;> rfl
/-- A block of numbers as a slice. -/
theorem ints_block {w : World} {g : Nat} {l : List Int} (h : w.heap[g]? = some (.cells ((l.map (Value.int .i64)).toArray) 3 (0, 0))) (hl : l.length ≤ 9223372036854775807) : Ints w (.slice (some ⟨g, 0, none⟩) l.length l.length) l := by
  refine ⟨_, _, rfl, hl, Or.inr ⟨g, 0, rfl, ?_, fun i hi => ?_⟩⟩
  · rcases Nat.lt_or_ge g w.heap.size with h' | h'
    · exact h'
    · simp [Array.getElem?_eq_none h'] at h
  · simp [World.cell?, h, hi]

/-- What written is to do at a tree. -/
def WC (x : E) : Prop := ∀ (t : T) (v : Value) (B : Nat) (w : World), Is t x → Rx w B v t → B ≤ w.heap.size →
    Calls Try.prog 24 #[v] w fun e w' => e = .returned (.string (S (text x))) ∧ Below w.heap.size w w'

set_option maxHeartbeats 1000000 in
set_option maxRecDepth 20000 in
theorem kid_any {x : E} (hw : WC x) (hn : x.nodes ≤ 100) (t : T) (v kv : Value) (ks : List Int) (B : Nat) (w : World) (hi : Is t x) (hx : Rx w B v t) (hB : B ≤ w.heap.size) (hk : Ints w kv ks) :
    Calls Try.prog 33 #[v, kv] w fun e w' => e = .returned (.string (S (inBr ks (kindOf x) (text x)))) ∧ Below w.heap.size w w' := by
  have hlen : (text x).length ≤ 232000 := by have := text_length x; omega
  have HW : Hid (∀ W, Rx W B v t → B ≤ W.heap.size → Calls Try.prog 24 #[v] W fun e w' => e = .returned (.string (S (text x))) ∧ Below W.heap.size W w') := fun W h1 h2 => hw t v B W hi h1 h2
  have HK : Hid (t.kind = kindOf x) := is_kind hi
  obtain ⟨L, HL⟩ : ∃ L, Hid (text x = L) := ⟨_, (rfl : text x = text x)⟩
  rw [HL.out] at HW hlen ⊢
  have hsl : (S L).size ≤ 232000 := by rw [S_size]; exact hlen
  have HX : Hid (Rx w B v t) := hx
  have HKI : Hid (Ints w kv ks) := hk
  obtain ⟨k, c, ao, cap, kids, vals, rfl, rfl, -⟩ := hx.shape
  obtain ⟨akv, ckv, rfl, -, -⟩ := hk
  have B0 : Below w.heap.size w (w.alloc (Obj.cells #[.int .i64 k, .int .u64 (c.1.toNat : Int), .int .u64 (c.2.1.toNat : Int), .int .u64 (c.2.2.1.toNat : Int), .int .u64 (c.2.2.2.toNat : Int), .slice ao kids.length cap] 27)) := (Below.refl _ _).alloc (Nat.le_refl _) _
  have HB : Hid (Below w.heap.size w (w.alloc (Obj.cells #[.int .i64 k, .int .u64 (c.1.toNat : Int), .int .u64 (c.2.1.toNat : Int), .int .u64 (c.2.2.1.toNat : Int), .int .u64 (c.2.2.2.toNat : Int), .slice ao kids.length cap] 27))) := B0
  clear hw hi B0
  have hcc := contains_any _ ks k _ (HKI.out.below HB.out)
  have HKK : Hid (k = kindOf x) := HK.out
  obtain ⟨r, HR⟩ : ∃ r, Hid (ks.contains k = r) := ⟨_, (rfl : ks.contains k = ks.contains k)⟩
  rw [HR.out] at hcc
  have HT : Hid (inBr ks (kindOf x) L = if r = true then [40] ++ L ++ [41] else L) := by show _ = _; unfold inBr; rw [← HKK.out, HR.out]
  go_enter Try.func33, Try.ntmps33
  go_wp2_with fail
  refine hcc.mono ?_
  rintro _ w1 ⟨rfl, hw1⟩
  have HW1 : Hid (Below w.heap.size w w1 ∧ w1 = w.alloc (Obj.cells #[.int .i64 k, .int .u64 (c.1.toNat : Int), .int .u64 (c.2.1.toNat : Int), .int .u64 (c.2.2.1.toNat : Int), .int .u64 (c.2.2.2.toNat : Int), .slice ao kids.length cap] 27)) := ⟨by rw [hw1]; exact HB.out, hw1⟩
  clear hw1 hcc
  have y0 : w1.cell? ⟨w.heap.size, 0, none⟩ = some (.int .i64 k) := by rw [HW1.out.2]; simp
  have y1 : w1.cell? ⟨w.heap.size, 1, none⟩ = some (.int .u64 (c.1.toNat : Int)) := by rw [HW1.out.2]; simp
  have y2 : w1.cell? ⟨w.heap.size, 2, none⟩ = some (.int .u64 (c.2.1.toNat : Int)) := by rw [HW1.out.2]; simp
  have y3 : w1.cell? ⟨w.heap.size, 3, none⟩ = some (.int .u64 (c.2.2.1.toNat : Int)) := by rw [HW1.out.2]; simp
  have y4 : w1.cell? ⟨w.heap.size, 4, none⟩ = some (.int .u64 (c.2.2.2.toNat : Int)) := by rw [HW1.out.2]; simp
  have y5 : w1.cell? ⟨w.heap.size, 5, none⟩ = some (.slice ao kids.length cap) := by rw [HW1.out.2]; simp
  have hcall := HW.out w1 (HX.out.next (HW1.out.1.mono hB)) (Nat.le_trans hB HW1.out.1.size)
  cases r with
  | true =>
    go_wp2_with fail
    refine hcall.mono ?_
    rintro _ w2 ⟨rfl, hb2⟩
    have HB2 : Hid (Below w.heap.size w w2) := HW1.out.1.trans (hb2.mono HW1.out.1.size)
    clear hb2 hcall y0 y1 y2 y3 y4 y5
    go_wp2_with fail
    go_ret
    exact ⟨ret_str (by rw [HT.out]; simp), HB2.out⟩
  | false =>
    go_wp2_with fail
    refine hcall.mono ?_
    rintro _ w2 ⟨rfl, hb2⟩
    have HB2 : Hid (Below w.heap.size w w2) := HW1.out.1.trans (hb2.mono HW1.out.1.size)
    clear hb2 hcall y0 y1 y2 y3 y4 y5
    go_wp2_with fail
    go_ret
    exact ⟨by rw [HT.out]; rfl, HB2.out⟩
end Go.Proofs.Ythloedfiomfnbaa
