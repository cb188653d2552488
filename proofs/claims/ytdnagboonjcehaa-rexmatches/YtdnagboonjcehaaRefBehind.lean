/-
  The contract of pushref.behind: one table's spans with another one's behind.
-/
import Derived.Test.YtdnagboonjcehaaTables
import Derived.Test.YtdnagboonjcehaaTails
namespace Go.Proofs.Ytdnagboonjcehaa
open Go.RowKit
open Cls Rex

/-- A world with the same memory. -/
structure Sm (w W : World) : Prop where
  heap : W.heap = w.heap
  os : W.os = w.os
  tape : W.tape = w.tape
  output : W.output = w.output
theorem Sm.drew (w : World) : Sm w w.drew := ⟨rfl, rfl, rfl, rfl⟩
theorem Sm.cell {w W : World} (h : Sm w W) (a : Addr) : W.cell? a = w.cell? a := by simp [World.cell?, h.heap]
theorem Sm.frozen {w W : World} (h : Sm w W) (a : Addr) : W.frozen? a = w.frozen? a := by simp [World.frozen?, h.heap]
theorem Sm.below {w W : World} (h : Sm w W) (B : Nat) : Below B w W := ⟨h.os, h.tape, h.output, by rw [h.heap]; exact Nat.le_refl _, fun k _ => by rw [h.heap]⟩
theorem Tb.sm {w W : World} {g m : Nat} {F : Nat → Nat → Bool} (h : Tb w g m F) (hs : Sm w W) : Tb W g m F := h.of fun b _ _ => by rw [hs.heap]
/-- One table's spans with another one's behind. -/
def Rb (A B : Nat → Nat → Bool) (u v : Nat) : Prop := ∃ x, u ≤ x ∧ x ≤ v ∧ A u x = true ∧ B x v = true
def Sp0 (A B : Nat → Nat → Bool) (m i : Nat) (F : Nat → Nat → Bool) : Prop := ∀ u v, u < m → v < m → (F u v = true ↔ u < i ∧ Rb A B u v)
def Sp1 (A B : Nat → Nat → Bool) (m i x : Nat) (F : Nat → Nat → Bool) : Prop := ∀ u v, u < m → v < m → (F u v = true ↔ (u < i ∧ Rb A B u v) ∨ (u = i ∧ ∃ y, i ≤ y ∧ y < x ∧ y ≤ v ∧ A i y = true ∧ B y v = true))
def Sp2 (A B : Nat → Nat → Bool) (m i x j : Nat) (F : Nat → Nat → Bool) : Prop := ∀ u v, u < m → v < m → (F u v = true ↔ ((u < i ∧ Rb A B u v) ∨ (u = i ∧ ∃ y, i ≤ y ∧ y < x ∧ y ≤ v ∧ A i y = true ∧ B y v = true)) ∨ (u = i ∧ A i x = true ∧ x ≤ v ∧ v < j ∧ B x v = true))
theorem sp_in {A B : Nat → Nat → Bool} {m i : Nat} {F : Nat → Nat → Bool} (h : Sp0 A B m i F) : Sp1 A B m i i F := fun u v hu hv => by
  rw [h u v hu hv]
  constructor
  · exact Or.inl
  · rintro (h | ⟨_, y, h1, h2, _⟩)
    · exact h
    · omega
theorem sp_in2 {A B : Nat → Nat → Bool} {m i x : Nat} {F : Nat → Nat → Bool} (h : Sp1 A B m i x F) : Sp2 A B m i x x F := fun u v hu hv => by
  rw [h u v hu hv]
  constructor
  · exact Or.inl
  · rintro (h | ⟨_, _, h1, h2, _⟩)
    · exact h
    · omega
theorem sp_step {A B : Nat → Nat → Bool} {m i x j : Nat} {F : Nat → Nat → Bool} (h : Sp2 A B m i x j F) (ha : A i x = true) (hx : x ≤ j) (hi : i < m) (hj : j < m) : Sp2 A B m i x (j + 1) (upd F i j (F i j || B x j)) := fun u v hu hv => by
  unfold upd
  by_cases e : u = i ∧ v = j
  · obtain ⟨rfl, rfl⟩ := e
    rw [if_pos ⟨rfl, rfl⟩, Bool.or_eq_true, h u v hu hv]
    constructor
    · rintro ((h1 | ⟨_, h2, h3, h4, h5⟩) | h1)
      · exact Or.inl h1
      · exact Or.inr ⟨rfl, h2, h3, by omega, h5⟩
      · exact Or.inr ⟨rfl, ha, hx, by omega, h1⟩
    · rintro (h1 | ⟨_, h2, h3, h4, h5⟩)
      · exact Or.inl (Or.inl h1)
      · exact Or.inr h5
  · rw [if_neg e, h u v hu hv]
    constructor
    · rintro (h1 | ⟨h0, h2, h3, h4, h5⟩)
      · exact Or.inl h1
      · exact Or.inr ⟨h0, h2, h3, by omega, h5⟩
    · rintro (h1 | ⟨h0, h2, h3, h4, h5⟩)
      · exact Or.inl h1
      · exact Or.inr ⟨h0, h2, h3, by have : v ≠ j := fun hv' => e ⟨h0, hv'⟩; omega, h5⟩
theorem sp_out2 {A B : Nat → Nat → Bool} {m i x j : Nat} {F : Nat → Nat → Bool} (h : Sp2 A B m i x j F) (hj : A i x = true → m ≤ j) (hx : i ≤ x) : Sp1 A B m i (x + 1) F := fun u v hu hv => by
  rw [h u v hu hv]
  constructor
  · rintro ((h1 | ⟨h0, y, h1, h2, h3⟩) | ⟨h0, h2, h3, h4, h5⟩)
    · exact Or.inl h1
    · exact Or.inr ⟨h0, y, h1, by omega, h3⟩
    · exact Or.inr ⟨h0, x, hx, by omega, h3, h2, h5⟩
  · rintro (h1 | ⟨h0, y, h1, h2, h3, h4, h5⟩)
    · exact Or.inl (Or.inl h1)
    · by_cases e : y = x
      · subst e; exact Or.inr ⟨h0, h4, h3, by have := hj h4; omega, h5⟩
      · exact Or.inl (Or.inr ⟨h0, y, h1, by omega, h3, h4, h5⟩)
theorem sp_out {A B : Nat → Nat → Bool} {m i x : Nat} {F : Nat → Nat → Bool} (h : Sp1 A B m i x F) (hx : m ≤ x) : Sp0 A B m (i + 1) F := fun u v hu hv => by
  rw [h u v hu hv]
  constructor
  · rintro (h1 | ⟨rfl, y, h1, h2, h3, h4, h5⟩)
    · exact ⟨by omega, h1.2⟩
    · exact ⟨by omega, y, h1, h3, h4, h5⟩
  · rintro ⟨h1, h2⟩
    by_cases e : u = i
    · subst e
      obtain ⟨y, g1, g2, g3, g4⟩ := h2
      exact Or.inr ⟨rfl, y, g1, by omega, g2, g3, g4⟩
    · exact Or.inl ⟨by omega, h2⟩
/-- What behind keeps: the two tables, and out. -/
structure Bh (w : World) (ga gb g m : Nat) (A B F : Nat → Nat → Bool) (W : World) : Prop where
  below : Below w.heap.size w W
  a : Tb W ga m A
  b : Tb W gb m B
  o : Tb W g m F
  lo : w.heap.size ≤ g
  la : ga + m < g
  lb : gb + m < g
theorem Bh.put {w : World} {ga gb g m : Nat} {A B F : Nat → Nat → Bool} {W W' : World} (h : Bh w ga gb g m A B F W) (hs : Sm W W') (i j : Nat) (b : Bool) : Bh w ga gb g m A B (upd F i j b) (W'.setCell ⟨g + 1 + i, j, none⟩ (.bool b)) := by
  have h1 := h.lo
  have h2 := h.la
  have h3 := h.lb
  exact ⟨(h.below.trans (hs.below _)).setCell (p := ⟨g + 1 + i, j, none⟩) (by show w.heap.size ≤ g + 1 + i; omega) _, (h.a.sm hs).other _ (Or.inr (by show ga + m < g + 1 + i; omega)) _, (h.b.sm hs).other _ (Or.inr (by show gb + m < g + 1 + i; omega)) _, (h.o.sm hs).set i j b, h1, h2, h3⟩
set_option maxHeartbeats 4000000 in
set_option maxRecDepth 20000 in
theorem refBehind_any (n ga gb : Nat) (hn : n ≤ 200) (A B : Nat → Nat → Bool) (w : World) (hA : Tb w ga (n + 1) A) (hB : Tb w gb (n + 1) B) :
    Calls Try.prog 30 #[.slice (some ⟨ga, 0, none⟩) (n + 1) (n + 1), .slice (some ⟨gb, 0, none⟩) (n + 1) (n + 1)] w fun e w' => e = .returned (.slice (some ⟨w.heap.size, 0, none⟩) (n + 1) (n + 1)) ∧ (∃ F, Tb w' w.heap.size (n + 1) F ∧ ∀ u v, u < n + 1 → v < n + 1 → (F u v = true ↔ Rb A B u v)) ∧ Below w.heap.size w w' ∧ w.heap.size + 1 + (n + 1) ≤ w'.heap.size := by
  obtain ⟨g, HG⟩ : ∃ g, Hid (w.heap.size = g) := ⟨_, (rfl : w.heap.size = w.heap.size)⟩
  have hla : ga + (n + 1) < g := by have := (hA.rows n (by omega)).lt; have := HG.out; omega
  have hlb : gb + (n + 1) < g := by have := (hB.rows n (by omega)).lt; have := HG.out; omega
  have HAB : Hid (Tb w ga (n + 1) A ∧ Tb w gb (n + 1) B) := ⟨hA, hB⟩
  clear hA hB
  go_enter Try.func30, Try.ntmps30
  go_wp2_with fail
  have hbl := blank_any n hn w
  rw [HG.out] at hbl
  refine hbl.mono ?_
  rintro _ W1 ⟨rfl, hT, hBl, hsz⟩
  have H0 : Hid (Bh w ga gb g (n + 1) A B (fun _ _ => false) W1 ∧ Sp0 A B (n + 1) 0 (fun _ _ => false) ∧ g + 1 + (n + 1) ≤ W1.heap.size) := ⟨⟨by rw [HG.out]; exact hBl, HAB.out.1.next (by rw [HG.out]; exact hBl), HAB.out.2.next (by rw [HG.out]; exact hBl), hT, by rw [HG.out]; exact Nat.le_refl _, hla, hlb⟩, fun u v _ _ => by simp, by omega⟩
  clear hT hBl hsz hbl
  go_wp2_with fail
  go_loopw [6] (fun z wr => ∃ (i : Nat) (F : Nat → Nat → Bool), i ≤ n + 1 ∧ z = .int .i64 (i : Int) ∧ Hid (Bh w ga gb g (n + 1) A B F wr ∧ Sp0 A B (n + 1) i F ∧ g + 1 + (n + 1) ≤ wr.heap.size)) (fun z _ => n + 1 - (intOf z).toNat)
  case atStart => exact ⟨0, _, by omega, rfl, H0⟩
  case round =>
    obtain ⟨i, F0, hi, rfl, HI⟩ := hrel
    by_cases hlt : i < n + 1
    · have hlt' : (i : Int) < ((n + 1 : Nat) : Int) := by omega
      have hlt2 : (i : Int) < (n : Int) + 1 := by omega
      go_wp2_with fail
      go_loopw [7] (fun z wr => ∃ (x : Nat) (F : Nat → Nat → Bool), i ≤ x ∧ x ≤ n + 1 ∧ z = .int .i64 (x : Int) ∧ Hid (Bh w ga gb g (n + 1) A B F wr ∧ Sp1 A B (n + 1) i x F ∧ g + 1 + (n + 1) ≤ wr.heap.size)) (fun z _ => n + 1 - (intOf z).toNat)
      case atStart => exact ⟨i, F0, by omega, by omega, rfl, ⟨HI.out.1, sp_in HI.out.2.1, HI.out.2.2⟩⟩
      case round =>
        obtain ⟨x, F1, hix, hx, rfl, HI1⟩ := hrel
        by_cases hxl : x < n + 1
        · have hxl' : (x : Int) < ((n + 1 : Nat) : Int) := by omega
          have hxl2 : (x : Int) < (n : Int) + 1 := by omega
          go_wp2_with fail
          go_loopw [8] (fun z wr => ∃ (j : Nat) (F : Nat → Nat → Bool), x ≤ j ∧ j ≤ n + 1 ∧ z = .int .i64 (j : Int) ∧ Hid (Bh w ga gb g (n + 1) A B F wr ∧ Sp2 A B (n + 1) i x j F ∧ g + 1 + (n + 1) ≤ wr.heap.size)) (fun z _ => n + 1 - (intOf z).toNat)
          case atStart => exact ⟨x, F1, by omega, by omega, rfl, ⟨HI1.out.1, sp_in2 HI1.out.2.1, HI1.out.2.2⟩⟩
          case round =>
            obtain ⟨j, F, hxj, hj, rfl, HI2⟩ := hrel
            obtain ⟨av, HAV⟩ : ∃ av, Hid (A i x = av) := ⟨_, (rfl : A i x = A i x)⟩
            have c1 := HI2.out.1.a.top.cell (i := i) hlt
            have c2 := (HI2.out.1.a.rows i hlt).cell (i := x) hxl
            rw [HAV.out] at c2
            cases av
            case false =>
              go_wp2_with fail
              go_roundw
              case rel => exact ⟨x + 1, F, by omega, by omega, by go_num, ⟨HI2.out.1, sp_out2 HI2.out.2.1 (fun h => by rw [HAV.out] at h; cases h) hix, HI2.out.2.2⟩⟩
              case measure => simp [intOf]; omega
            case true =>
              by_cases hjl : j < n + 1
              · have hjl' : (j : Int) < ((n + 1 : Nat) : Int) := by omega
                have hjl2 : (j : Int) < (n : Int) + 1 := by omega
                obtain ⟨fv, HFV⟩ : ∃ fv, Hid (F i j = fv) := ⟨_, (rfl : F i j = F i j)⟩
                obtain ⟨bv, HBV⟩ : ∃ bv, Hid (B x j = bv) := ⟨_, (rfl : B x j = B x j)⟩
                have d1 : ∀ p : Kp (Sm wr), p.W.cell? ⟨g, i, none⟩ = some (.slice (some ⟨g + 1 + i, 0, none⟩) (n + 1) (n + 1)) := fun p => (p.h.cell _).trans (HI2.out.1.o.top.cell (i := i) hlt)
                have d2 : ∀ p : Kp (Sm wr), p.W.cell? ⟨g + 1 + i, j, none⟩ = some (.bool fv) := fun p => (p.h.cell _).trans (by rw [← HFV.out]; exact (HI2.out.1.o.rows i hlt).cell (i := j) hjl)
                have d3 : ∀ p : Kp (Sm wr), p.W.cell? ⟨gb, x, none⟩ = some (.slice (some ⟨gb + 1 + x, 0, none⟩) (n + 1) (n + 1)) := fun p => (p.h.cell _).trans (HI2.out.1.b.top.cell (i := x) hxl)
                have d4 : ∀ p : Kp (Sm wr), p.W.cell? ⟨gb + 1 + x, j, none⟩ = some (.bool bv) := fun p => (p.h.cell _).trans (by rw [← HBV.out]; exact (HI2.out.1.b.rows x hxl).cell (i := j) hjl)
                go_wp2_with fail
                have hne : Nonempty (Kp (Sm wr)) := ⟨⟨_, Sm.drew wr⟩⟩
                refine wp_region_tail [_, _, _, _, _, _, _, _, _, _, _, _, _, _, _, _, _, _, _, _, _, _] _ rfl mixed (by kernel_rfl) (Sm.drew wr) ?_
                simp only [List.cons_append, List.nil_append]
                cases fv
                case false =>
                  repeat (go_big_quiet_step (fail))
                  refine wpQuiet_nil ?_
                  intro p
                  have HP : Hid (Sm wr p.W) := p.h
                  have f1 := (p.h.frozen ⟨g + 1 + i, j, none⟩).trans ((HI2.out.1.o.rows i hlt).frozen j)
                  have d2' := d2 p
                  generalize p.W = W6 at HP f1 d2' ⊢
                  clear p d1 d2 d3 d4 c1 c2 hne
                  go_simp
                  go_wp2_with fail
                  go_roundw
                  case rel => exact ⟨j + 1, _, by omega, by omega, by go_num, ⟨HI2.out.1.put HP.out i j bv, by have := sp_step HI2.out.2.1 HAV.out hxj hlt hjl; rw [HFV.out, HBV.out] at this; exact this, by simp only [World.setCell, Array.size_modify]; rw [HP.out.heap]; exact HI2.out.2.2⟩⟩
                  case measure => simp [intOf]; omega
                case true =>
                  repeat (go_big_quiet_step (fail))
                  refine wpQuiet_nil ?_
                  intro p
                  have HP : Hid (Sm wr p.W) := p.h
                  have f1 := (p.h.frozen ⟨g + 1 + i, j, none⟩).trans ((HI2.out.1.o.rows i hlt).frozen j)
                  have d2' := d2 p
                  generalize p.W = W6 at HP f1 d2' ⊢
                  clear p d1 d2 d3 d4 c1 c2 hne
                  go_simp
                  go_wp2_with fail
                  go_roundw
                  case rel => exact ⟨j + 1, _, by omega, by omega, by go_num, ⟨HI2.out.1.put HP.out i j true, by have := sp_step HI2.out.2.1 HAV.out hxj hlt hjl; rw [HFV.out, HBV.out] at this; exact this, by simp only [World.setCell, Array.size_modify]; rw [HP.out.heap]; exact HI2.out.2.2⟩⟩
                  case measure => simp [intOf]; omega
              · have hjl' : ¬ (j : Int) < ((n + 1 : Nat) : Int) := by omega
                have hjl2 : ¬ (j : Int) < (n : Int) + 1 := by omega
                go_wp2_with fail
                go_roundw
                case rel => exact ⟨x + 1, F, by omega, by omega, by go_num, ⟨HI2.out.1, sp_out2 HI2.out.2.1 (fun _ => by omega) hix, HI2.out.2.2⟩⟩
                case measure => simp [intOf]; omega
        · have hxl' : ¬ (x : Int) < ((n + 1 : Nat) : Int) := by omega
          have hxl2 : ¬ (x : Int) < (n : Int) + 1 := by omega
          go_wp2_with fail
          go_roundw
          case rel => exact ⟨i + 1, F1, by omega, by go_num, ⟨HI1.out.1, sp_out HI1.out.2.1 (by omega), HI1.out.2.2⟩⟩
          case measure => simp [intOf]; omega
    · have hlt' : ¬ (i : Int) < ((n + 1 : Nat) : Int) := by omega
      have hlt2 : ¬ (i : Int) < (n : Int) + 1 := by omega
      go_wp2_with fail
      go_ret
      refine ⟨by rw [HG.out]; rfl, ⟨F0, by rw [HG.out]; exact HI.out.1.o, fun u v hu hv => ?_⟩, HI.out.1.below, by rw [HG.out]; exact HI.out.2.2⟩
      rw [HI.out.2.1 u v hu hv]
      exact ⟨fun h => h.2, fun h => ⟨by omega, h⟩⟩
end Go.Proofs.Ytdnagboonjcehaa
