/-
  pushref.spans at a star.
-/
import Derived.Test.YtdnagboonjcehaaSpanC
namespace Go.Proofs.Ytdnagboonjcehaa
open Go.RowKit
open Cls Rex
/-- While a star's rows are made: row i has been made up to m, of m up to j. -/
def Q0 (R : Nat → Nat → Prop) (m i : Nat) (F : Nat → Nat → Bool) : Prop := ∀ u v, u < m → v < m → (F u v = true ↔ i ≤ u ∧ R u v)
def Q1 (A : Nat → Nat → Bool) (R : Nat → Nat → Prop) (m i x : Nat) (F : Nat → Nat → Bool) : Prop := ∀ u v, u < m → v < m → (F u v = true ↔ (i < u ∧ R u v) ∨ (u = i ∧ (v = i ∨ ∃ y, i < y ∧ y < x ∧ y ≤ v ∧ A i y = true ∧ R y v)))
def Q2 (A : Nat → Nat → Bool) (R : Nat → Nat → Prop) (m i x j : Nat) (F : Nat → Nat → Bool) : Prop := ∀ u v, u < m → v < m → (F u v = true ↔ ((i < u ∧ R u v) ∨ (u = i ∧ (v = i ∨ ∃ y, i < y ∧ y < x ∧ y ≤ v ∧ A i y = true ∧ R y v))) ∨ (u = i ∧ A i x = true ∧ x ≤ v ∧ v < j ∧ R x v))
theorem q_in {A : Nat → Nat → Bool} {R : Nat → Nat → Prop} {m i : Nat} {F : Nat → Nat → Bool} (h : Q0 R m (i + 1) F) : Q1 A R m i (i + 1) (upd F i i true) := fun u v hu hv => by
  unfold upd
  by_cases e : u = i ∧ v = i
  · rw [if_pos e]; simp [e]
  · rw [if_neg e, h u v hu hv]
    constructor
    · rintro ⟨h1, h2⟩; exact Or.inl ⟨by omega, h2⟩
    · rintro (⟨h1, h2⟩ | ⟨h0, h1 | ⟨y, h1, h2, _⟩⟩)
      · exact ⟨by omega, h2⟩
      · exact absurd ⟨h0, h1⟩ e
      · omega
theorem q_in2 {A : Nat → Nat → Bool} {R : Nat → Nat → Prop} {m i x : Nat} {F : Nat → Nat → Bool} (h : Q1 A R m i x F) : Q2 A R m i x x F := fun u v hu hv => by
  rw [h u v hu hv]
  constructor
  · exact Or.inl
  · rintro (h | ⟨_, _, h1, h2, _⟩)
    · exact h
    · omega
theorem q_step {A : Nat → Nat → Bool} {R : Nat → Nat → Prop} {m i x j : Nat} {F : Nat → Nat → Bool} (h : Q2 A R m i x j F) (ha : A i x = true) (hx : x ≤ j) (hix : i < x) (hi : i < m) (hj : j < m) : Q2 A R m i x (j + 1) (upd F i j (F i j || F x j)) := fun u v hu hv => by
  have hxj : F x j = true ↔ R x j := by
    rw [h x j (by omega) hj]
    constructor
    · rintro ((h1 | ⟨h0, _⟩) | ⟨h0, _⟩)
      · exact h1.2
      · omega
      · omega
    · exact fun h1 => Or.inl (Or.inl ⟨hix, h1⟩)
  unfold upd
  by_cases e : u = i ∧ v = j
  · obtain ⟨rfl, rfl⟩ := e
    rw [if_pos ⟨rfl, rfl⟩, Bool.or_eq_true, hxj, h u v hu hv]
    constructor
    · rintro ((h1 | ⟨_, h2, h3, h4, h5⟩) | h1)
      · exact Or.inl h1
      · exact Or.inr ⟨rfl, h2, h3, by omega, h5⟩
      · exact Or.inr ⟨rfl, ha, hx, by omega, h1⟩
    · rintro (h1 | ⟨_, h2, h3, h4, h5⟩)
      · exact Or.inl (Or.inl h1)
      · exact Or.inr h5
  · rw [if_neg e, h u v hu hv]
    constructor
    · rintro (h1 | ⟨h0, h2, h3, h4, h5⟩)
      · exact Or.inl h1
      · exact Or.inr ⟨h0, h2, h3, by omega, h5⟩
    · rintro (h1 | ⟨h0, h2, h3, h4, h5⟩)
      · exact Or.inl h1
      · exact Or.inr ⟨h0, h2, h3, by have : v ≠ j := fun hv' => e ⟨h0, hv'⟩; omega, h5⟩
theorem q_out2 {A : Nat → Nat → Bool} {R : Nat → Nat → Prop} {m i x j : Nat} {F : Nat → Nat → Bool} (h : Q2 A R m i x j F) (hj : A i x = true → m ≤ j) (hx : i < x) : Q1 A R m i (x + 1) F := fun u v hu hv => by
  rw [h u v hu hv]
  constructor
  · rintro ((h1 | ⟨h0, h1 | ⟨y, h1, h2, h3⟩⟩) | ⟨h0, h2, h3, h4, h5⟩)
    · exact Or.inl h1
    · exact Or.inr ⟨h0, Or.inl h1⟩
    · exact Or.inr ⟨h0, Or.inr ⟨y, h1, by omega, h3⟩⟩
    · exact Or.inr ⟨h0, Or.inr ⟨x, hx, by omega, h3, h2, h5⟩⟩
  · rintro (h1 | ⟨h0, h1 | ⟨y, h1, h2, h3, h4, h5⟩⟩)
    · exact Or.inl (Or.inl h1)
    · exact Or.inl (Or.inr ⟨h0, Or.inl h1⟩)
    · by_cases e : y = x
      · subst e; exact Or.inr ⟨h0, h4, h3, by have := hj h4; omega, h5⟩
      · exact Or.inl (Or.inr ⟨h0, Or.inr ⟨y, h1, by omega, h3, h4, h5⟩⟩)
theorem q_out {A : Nat → Nat → Bool} {x0 : E} {l : List UInt8} {m i x : Nat} {F : Nat → Nat → Bool} (h : Q1 A (Sp (.star x0) l) m i x F) (hx : m ≤ x) (hm : m = l.length + 1) (hA : ∀ u v, u < m → v < m → (A u v = true ↔ Sp x0 l u v)) : Q0 (Sp (.star x0) l) m i F := fun u v hu hv => by
  rw [h u v hu hv]
  constructor
  · rintro (h1 | ⟨rfl, h1 | ⟨y, h1, h2, h3, h4, h5⟩⟩)
    · exact ⟨by omega, h1.2⟩
    · exact ⟨by omega, (sp_star x0 l u v (by omega)).2 (Or.inl h1.symm)⟩
    · exact ⟨by omega, (sp_star x0 l u v (by omega)).2 (Or.inr ⟨y, h1, h3, (hA u y hu (by omega)).1 h4, h5⟩)⟩
  · rintro ⟨h1, h2⟩
    by_cases e : u = i
    · subst e
      rcases (sp_star x0 l u v (by omega)).1 h2 with h3 | ⟨y, g1, g2, g3, g4⟩
      · exact Or.inr ⟨rfl, Or.inl h3.symm⟩
      · exact Or.inr ⟨rfl, Or.inr ⟨y, g1, by omega, g2, (hA u y hu (by omega)).2 g3, g4⟩⟩
    · exact Or.inl ⟨by omega, h2⟩
theorem sga_put {w : World} {O : Obj} {g m : Nat} {F : Nat → Nat → Bool} {W W' : World} {ga : Nat} {A : Nat → Nat → Bool} (h : Sg w O g m F W ∧ Tb W ga m A ∧ g + m < ga) (hs : Below W.heap.size W W') (i j : Nat) (b : Bool) (hi : i < m) : Sg w O g m (upd F i j b) (W'.setCell ⟨g + 1 + i, j, none⟩ (.bool b)) ∧ Tb (W'.setCell ⟨g + 1 + i, j, none⟩ (.bool b)) ga m A ∧ g + m < ga :=
  ⟨h.1.put hs i j b, (h.2.1.next hs).other _ (Or.inl (by have := h.2.2; show g + 1 + i < ga; omega)) _, h.2.2⟩
set_option maxHeartbeats 4000000 in
set_option maxRecDepth 20000 in
theorem spans_star (a : T) (x : E) (IH : SC a x) : SC (.mk 6 empty [a]) (.star x) := by
  intro v B s w hs hx hBw
  obtain ⟨k_, c_, ao, cap, kids_, vals, rfl, ht, -, -, hc, hr⟩ := hx.shape
  injection ht with e1 e2 e3
  subst e1 e2 e3
  obtain ⟨b, o, rfl, hbB, hcl⟩ : ∃ b o, ao = some ⟨b, o, none⟩ ∧ b < B ∧ ∀ j, j < 6 → w.cell? ⟨b, o + 0 * 6 + j, none⟩ = (vals 0).cells[j]? := by
    rcases hc with h | ⟨b, o, h1, h2, h3⟩
    · cases h
    · exact ⟨b, o, h1, h2, h3 0 (by simp)⟩
  have HX : Hid (Rx w B (vals 0) a) := hr 0 (by simp)
  have HIH : Hid (SC a x) := IH
  clear hx hc hr IH
  simp only [List.length_cons, List.length_nil, Nat.zero_add]
  obtain ⟨w0, HW0⟩ : ∃ w0, Hid (w.alloc (.cells #[.int .i64 6, .int .u64 (empty.1.toNat : Int), .int .u64 (empty.2.1.toNat : Int), .int .u64 (empty.2.2.1.toNat : Int), .int .u64 (empty.2.2.2.toNat : Int), .slice (some ⟨b, o, none⟩) 1 cap] 27) = w0) := ⟨_, (rfl : w.alloc (.cells #[.int .i64 6, .int .u64 (empty.1.toNat : Int), .int .u64 (empty.2.1.toNat : Int), .int .u64 (empty.2.2.1.toNat : Int), .int .u64 (empty.2.2.2.toNat : Int), .slice (some ⟨b, o, none⟩) 1 cap] 27) = w.alloc (.cells #[.int .i64 6, .int .u64 (empty.1.toNat : Int), .int .u64 (empty.2.1.toNat : Int), .int .u64 (empty.2.2.1.toNat : Int), .int .u64 (empty.2.2.2.toNat : Int), .slice (some ⟨b, o, none⟩) 1 cap] 27))⟩
  have hb0 : Below w.heap.size w w0 := by rw [← HW0.out]; exact box_keep w _
  have hz0 : w0.heap[w.heap.size]? = some (.cells #[.int .i64 6, .int .u64 (empty.1.toNat : Int), .int .u64 (empty.2.1.toNat : Int), .int .u64 (empty.2.2.1.toNat : Int), .int .u64 (empty.2.2.2.toNat : Int), .slice (some ⟨b, o, none⟩) 1 cap] 27) := by rw [← HW0.out]; exact block_new w _
  obtain ⟨g, HG⟩ : ∃ g, Hid (w0.heap.size = g) := ⟨_, (rfl : w0.heap.size = w0.heap.size)⟩
  have hbl := blank_any s.size (by omega) w0
  rw [HG.out] at hbl
  have hgl : w.heap.size + 1 ≤ g := by rw [← HG.out, ← HW0.out]; simp
  go_enter Try.func22, Try.ntmps22
  go_wp2_with fail
  rw [HW0.out]
  refine hbl.mono ?_
  rintro _ W1 ⟨rfl, hT, hBl, hsz⟩
  have hB1 : Below w0.heap.size w0 W1 := by rw [HG.out]; exact hBl
  have H0 : Hid (Sg w (.cells #[.int .i64 6, .int .u64 (empty.1.toNat : Int), .int .u64 (empty.2.1.toNat : Int), .int .u64 (empty.2.2.1.toNat : Int), .int .u64 (empty.2.2.2.toNat : Int), .slice (some ⟨b, o, none⟩) 1 cap] 27) g (s.size + 1) (fun _ _ => false) W1) := ⟨hb0.trans (hB1.mono hb0.size), blk_next hB1 hz0, hT, hgl⟩
  clear hT hBl hsz hbl hB1 hb0 hz0
  have y0 := cell_of_row W1 w.heap.size 0 _ 27 (0, 0) H0.out.box
  simp only [List.getElem?_toArray, List.getElem?_cons_zero] at y0
  have y5 := cell_of_row W1 w.heap.size 5 _ 27 (0, 0) H0.out.box
  simp only [List.getElem?_toArray, List.getElem?_cons_zero, List.getElem?_cons_succ] at y5
  obtain ⟨k9, c9, ao9, n9, p9, hv, q0, q1, q2, q3, q4, q5⟩ := kid_cells (HX.out.next (H0.out.below.mono hBw)) (fun j hj => ((H0.out.below.mono hBw).cell (p := ⟨b, o + 0 * 6 + j, none⟩) hbB).trans (hcl j hj))
  have hcall := HIH.out (vals 0) B s W1 hs (HX.out.next (H0.out.below.mono hBw)) (Nat.le_trans hBw H0.out.below.size)
  rw [hv] at hcall
  simp only [Nat.zero_mul, Nat.add_zero] at q0 q1 q2 q3 q4 q5
  clear hcl hv HX HIH
  go_wp2_with fail
  refine hcall.mono ?_
  rintro _ W2 ⟨ga, rfl, hga, ⟨A, hTA, hA⟩, hB2⟩
  have HA : Hid (∀ u v, u < (s.size + 1) → v < (s.size + 1) → (A u v = true ↔ Sp x s.data.toList u v)) := hA
  have HS2 : Hid (Sg w (.cells #[.int .i64 6, .int .u64 (empty.1.toNat : Int), .int .u64 (empty.2.1.toNat : Int), .int .u64 (empty.2.2.1.toNat : Int), .int .u64 (empty.2.2.2.toNat : Int), .slice (some ⟨b, o, none⟩) 1 cap] 27) g (s.size + 1) (fun _ _ => false) W2 ∧ Tb W2 ga (s.size + 1) A ∧ g + (s.size + 1) < ga) := ⟨⟨H0.out.below.trans (hB2.mono H0.out.below.size), blk_next hB2 H0.out.box, H0.out.o.next hB2, H0.out.lo⟩, hTA, by have := (H0.out.o.rows s.size (by omega)).lt; omega⟩
  clear y0 y5 q0 q1 q2 q3 q4 q5 hcall hTA hA hB2
  go_wp2_with fail
  go_loopw [13] (fun z wr => ∃ (i : Nat) (F : Nat → Nat → Bool), i ≤ (s.size + 1) ∧ z = .int .i64 ((i : Int) - 1) ∧ Hid ((Sg w (.cells #[.int .i64 6, .int .u64 (empty.1.toNat : Int), .int .u64 (empty.2.1.toNat : Int), .int .u64 (empty.2.2.1.toNat : Int), .int .u64 (empty.2.2.2.toNat : Int), .slice (some ⟨b, o, none⟩) 1 cap] 27) g (s.size + 1) F wr ∧ Tb wr ga (s.size + 1) A ∧ g + (s.size + 1) < ga) ∧ Q0 (Sp (.star x) s.data.toList) (s.size + 1) i F)) (fun z _ => ((intOf z) + 1).toNat)
  case atStart => exact ⟨(s.size + 1), _, by omega, by go_num, ⟨HS2.out, fun u v hu _ => by simp; omega⟩⟩
  case round =>
    obtain ⟨i', F0, hi, rfl, HI⟩ := hrel
    by_cases hlt : 0 < i'
    · obtain ⟨i, HII⟩ : ∃ i, Hid (i' = i + 1) := ⟨i' - 1, (by omega : i' = i' - 1 + 1)⟩
      have hil : i < (s.size + 1) := by have := HII.out; omega
      have hz : ((i' : Int) - 1) = (i : Int) := by have := HII.out; omega
      have HI' : Hid ((Sg w (.cells #[.int .i64 6, .int .u64 (empty.1.toNat : Int), .int .u64 (empty.2.1.toNat : Int), .int .u64 (empty.2.2.1.toNat : Int), .int .u64 (empty.2.2.2.toNat : Int), .slice (some ⟨b, o, none⟩) 1 cap] 27) g (s.size + 1) F0 wr ∧ Tb wr ga (s.size + 1) A ∧ g + (s.size + 1) < ga) ∧ Q0 (Sp (.star x) s.data.toList) (s.size + 1) (i + 1) F0) := by rw [← HII.out]; exact HI.out
      rw [hz]
      clear hz HI
      have c1 := HI'.out.1.1.o.top.cell (i := i) hil
      have c2 := (HI'.out.1.1.o.rows i hil).cell (i := i) hil
      have f2 := (HI'.out.1.1.o.rows i hil).frozen i
      go_wp2_with fail
      clear c1 c2 f2
      go_loopw [14] (fun z wr => ∃ (y : Nat) (F : Nat → Nat → Bool), i < y ∧ y ≤ (s.size + 1) ∧ z = .int .i64 (y : Int) ∧ Hid ((Sg w (.cells #[.int .i64 6, .int .u64 (empty.1.toNat : Int), .int .u64 (empty.2.1.toNat : Int), .int .u64 (empty.2.2.1.toNat : Int), .int .u64 (empty.2.2.2.toNat : Int), .slice (some ⟨b, o, none⟩) 1 cap] 27) g (s.size + 1) F wr ∧ Tb wr ga (s.size + 1) A ∧ g + (s.size + 1) < ga) ∧ Q1 A (Sp (.star x) s.data.toList) (s.size + 1) i y F)) (fun z _ => (s.size + 1) - (intOf z).toNat)
      case atStart => exact ⟨i + 1, _, by omega, by omega, by go_num, ⟨sga_put HI'.out.1 (Below.refl _ _) i i true hil, q_in HI'.out.2⟩⟩
      case round =>
        obtain ⟨y, F1, hix, hx, rfl, HI1⟩ := hrel
        by_cases hxl : y ≤ s.size
        · have hxl' : (y : Int) ≤ (s.size : Int) := by omega
          go_wp2_with fail
          go_loopw [15] (fun z wr => ∃ (j : Nat) (F : Nat → Nat → Bool), y ≤ j ∧ j ≤ (s.size + 1) ∧ z = .int .i64 (j : Int) ∧ Hid ((Sg w (.cells #[.int .i64 6, .int .u64 (empty.1.toNat : Int), .int .u64 (empty.2.1.toNat : Int), .int .u64 (empty.2.2.1.toNat : Int), .int .u64 (empty.2.2.2.toNat : Int), .slice (some ⟨b, o, none⟩) 1 cap] 27) g (s.size + 1) F wr ∧ Tb wr ga (s.size + 1) A ∧ g + (s.size + 1) < ga) ∧ Q2 A (Sp (.star x) s.data.toList) (s.size + 1) i y j F)) (fun z _ => (s.size + 1) - (intOf z).toNat)
          case atStart => exact ⟨y, F1, by omega, by omega, rfl, ⟨HI1.out.1, q_in2 HI1.out.2⟩⟩
          case round =>
            obtain ⟨j, F, hxj, hj, rfl, HI2⟩ := hrel
            obtain ⟨av, HAV⟩ : ∃ av, Hid (A i y = av) := ⟨_, (rfl : A i y = A i y)⟩
            have c3 := HI2.out.1.2.1.top.cell (i := i) hil
            have c4 := (HI2.out.1.2.1.rows i hil).cell (i := y) (by omega)
            rw [HAV.out] at c4
            cases av
            case false =>
              go_wp2_with fail
              go_roundw
              case rel => exact ⟨y + 1, F, by omega, by omega, by go_num, ⟨HI2.out.1, q_out2 HI2.out.2 (fun h => by rw [HAV.out] at h; cases h) hix⟩⟩
              case measure => simp [intOf]; omega
            case true =>
              by_cases hjl : j ≤ s.size
              · have hjl' : (j : Int) ≤ (s.size : Int) := by omega
                obtain ⟨fv, HFV⟩ : ∃ fv, Hid (F i j = fv) := ⟨_, (rfl : F i j = F i j)⟩
                obtain ⟨bv, HBV⟩ : ∃ bv, Hid (F y j = bv) := ⟨_, (rfl : F y j = F y j)⟩
                have d1 : ∀ p : Kp (Sm wr), p.W.cell? ⟨g, i, none⟩ = some (.slice (some ⟨g + 1 + i, 0, none⟩) (s.size + 1) (s.size + 1)) := fun p => (p.h.cell _).trans (HI2.out.1.1.o.top.cell (i := i) hil)
                have d2 : ∀ p : Kp (Sm wr), p.W.cell? ⟨g + 1 + i, j, none⟩ = some (.bool fv) := fun p => (p.h.cell _).trans (by rw [← HFV.out]; exact (HI2.out.1.1.o.rows i hil).cell (i := j) (by omega))
                have d3 : ∀ p : Kp (Sm wr), p.W.cell? ⟨g, y, none⟩ = some (.slice (some ⟨g + 1 + y, 0, none⟩) (s.size + 1) (s.size + 1)) := fun p => (p.h.cell _).trans (HI2.out.1.1.o.top.cell (i := y) (by omega))
                have d4 : ∀ p : Kp (Sm wr), p.W.cell? ⟨g + 1 + y, j, none⟩ = some (.bool bv) := fun p => (p.h.cell _).trans (by rw [← HBV.out]; exact (HI2.out.1.1.o.rows y (by omega)).cell (i := j) (by omega))
                go_wp2_with fail
                have hne : Nonempty (Kp (Sm wr)) := ⟨⟨_, Sm.drew wr⟩⟩
                refine wp_region_tail [_, _, _, _, _, _, _, _, _, _, _, _, _, _, _, _, _, _, _, _, _, _] _ rfl mixed (by kernel_rfl) (Sm.drew wr) ?_
                simp only [List.cons_append, List.nil_append]
                cases fv
                case false =>
                  repeat (go_big_quiet_step (fail))
                  refine wpQuiet_nil ?_
                  intro p
                  have HP : Hid (Sm wr p.W) := p.h
                  have f1 := (p.h.frozen ⟨g + 1 + i, j, none⟩).trans ((HI2.out.1.1.o.rows i hil).frozen j)
                  have d2' := d2 p
                  generalize p.W = W6 at HP f1 d2' ⊢
                  clear p d1 d2 d3 d4 c3 c4 hne
                  go_simp
                  go_wp2_with fail
                  go_roundw
                  case rel => exact ⟨j + 1, _, by omega, by omega, by go_num, ⟨sga_put HI2.out.1 (HP.out.below _) i j bv hil, by have := q_step HI2.out.2 HAV.out hxj hix hil (by omega); rw [HFV.out, HBV.out] at this; exact this⟩⟩
                  case measure => simp [intOf]; omega
                case true =>
                  repeat (go_big_quiet_step (fail))
                  refine wpQuiet_nil ?_
                  intro p
                  have HP : Hid (Sm wr p.W) := p.h
                  have f1 := (p.h.frozen ⟨g + 1 + i, j, none⟩).trans ((HI2.out.1.1.o.rows i hil).frozen j)
                  have d2' := d2 p
                  generalize p.W = W6 at HP f1 d2' ⊢
                  clear p d1 d2 d3 d4 c3 c4 hne
                  go_simp
                  go_wp2_with fail
                  go_roundw
                  case rel => exact ⟨j + 1, _, by omega, by omega, by go_num, ⟨sga_put HI2.out.1 (HP.out.below _) i j true hil, by have := q_step HI2.out.2 HAV.out hxj hix hil (by omega); rw [HFV.out, HBV.out] at this; exact this⟩⟩
                  case measure => simp [intOf]; omega
              · have hjl' : ¬ (j : Int) ≤ (s.size : Int) := by omega
                go_wp2_with fail
                go_roundw
                case rel => exact ⟨y + 1, F, by omega, by omega, by go_num, ⟨HI2.out.1, q_out2 HI2.out.2 (fun _ => by omega) hix⟩⟩
                case measure => simp [intOf]; omega
        · have hxl' : ¬ (y : Int) ≤ (s.size : Int) := by omega
          go_wp2_with fail
          go_roundw
          case rel => exact ⟨i, F1, by omega, by go_num, ⟨HI1.out.1, q_out HI1.out.2 (by omega) (by rw [len_of]) HA.out⟩⟩
          case measure => simp [intOf]
    · obtain rfl : i' = 0 := by omega
      go_wp2_with fail
      go_ret
      refine ⟨g, rfl, by omega, ⟨F0, HI.out.1.1.o, fun u v hu hv => ?_⟩, HI.out.1.1.below⟩
      rw [HI.out.2 u v hu hv]
      exact ⟨fun h => h.2, fun h => ⟨by omega, h⟩⟩
end Go.Proofs.Ytdnagboonjcehaa
