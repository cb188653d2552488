/-
  The contract of pushlaw.SamePacked.
-/
import Derived.Test.YtkogbokelaanjaaPkEqf
namespace Go.Proofs.Ytkogbokelaanjaa
open Go.RowKit
open Dfa

def eqO (O P : Nat → Nat) : Bool := (List.range 256).all fun j => (O j : Int) == (P j : Int)
theorem run_eqItems_of (d : Nat) (f g : Nat → Nat) (w : World) : ∀ is : List Nat, (∀ i ∈ is, i < 256) → (Op.eqItems (d + 1) 5 1 (ol f).toArray (ol g).toArray is).run Try.prog w = .ok (is.all fun i => (f i : Int) == (g i : Int)) w
  | [], _ => by simp [Op.eqItems]
  | i :: is, h => by
    have hi := h i (by simp)
    have ih := run_eqItems_of d f g w is (fun j hj => h j (by simp [hj]))
    have u5 := Try.underlying5
    have p1 : (part 5 (ol f).toArray (i * 1)).run Try.prog w = .ok (.int .u8 (f i : Int)) w := by
      have h2 := ol_at f i hi
      simp [part, isAgg, run_underlying u5, h2]
    have p2 : (part 5 (ol g).toArray (i * 1)).run Try.prog w = .ok (.int .u8 (g i : Int)) w := by
      have h2 := ol_at g i hi
      simp [part, isAgg, run_underlying u5, h2]
    simp only [Op.eqItems, Sem.run_bind, p1, p2, Result.andThen_ok, run_equalIn_int w d 5 .u8 .u8 (f i : Int) (g i : Int) u5]
    by_cases e : (f i : Int) = (g i : Int)
    · simp [e, ih]
    · simp [e]
theorem info5 : (Try.prog.info? 5).map (fun i => (i.zero, i.size, i.bytes)) = some (some (.int .u8 0), 1, 1) := by kernel_rfl
theorem eql26 (f g : Nat → Nat) (w : World) : (Op.equalIn 10000 26 (.agg (ol f).toArray) (.agg (ol g).toArray)).run Try.prog w = .ok (eqO f g) w := by
  obtain ⟨i, hi, _, _, _⟩ := info_parts info5
  rw [show (10000 : Nat) = 9999 + 1 from rfl, run_equalIn_array w 9999 _ _ Try.underlying26 hi]
  simp only [cells5]
  rw [run_eqItems_of 9998 f g w (List.range 256) (fun i hi => by simpa using hi)]
  rfl

set_option maxHeartbeats 1600000 in
set_option maxRecDepth 20000 in
theorem samePacked_any (O P : Nat → Nat) (nv tv xv uv : Value) (n m n' m' : Nat) (L M : Nat → Nat) (X Y : Nat → Nat → Int) (T U : Nat → Int) (w : World) (hx : Nx w nv n L X) (ht : Ts w tv m T) (hy : Nx w xv n' M Y) (hu : Ts w uv m' U) :
    Calls Try.prog 7 #[.agg (pl O nv tv).toArray, .agg (pl P xv uv).toArray] w fun e w' => e = .returned (.bool ((eqO O P && eqN n n' L M X Y) && eqT m m' T U)) ∧ Below w.heap.size w w' := by
  obtain ⟨l, HLL⟩ : ∃ l, Hid (pl O nv tv = l) := ⟨_, (rfl : pl O nv tv = pl O nv tv)⟩
  obtain ⟨l2, HL2⟩ : ∃ l, Hid (pl P xv uv = l) := ⟨_, (rfl : pl P xv uv = pl P xv uv)⟩
  have HP : Hid (Px w w.heap.size O nv tv n m L X T l ((w.alloc (Obj.cells l.toArray 29)).alloc (Obj.cells l2.toArray 29))) := (Px.box HLL.out hx ht).step ((Below.refl _ _).alloc (Nat.le_refl _) _)
  have B1 : Below w.heap.size w (w.alloc (Obj.cells l.toArray 29)) := (Below.refl _ _).alloc (Nat.le_refl _) _
  have HQ : Hid (Px (w.alloc (Obj.cells l.toArray 29)) (w.heap.size + 1) P xv uv n' m' M Y U l2 ((w.alloc (Obj.cells l.toArray 29)).alloc (Obj.cells l2.toArray 29))) := by
    have := Px.box HL2.out (hy.below B1 (Nat.le_refl _)) (hu.below B1 (Nat.le_refl _))
    rwa [show (w.alloc (Obj.cells l.toArray 29)).heap.size = w.heap.size + 1 by simp] at this
  have heq := eql26 O P
  have HR1 : Hid (((w.alloc (Obj.cells l.toArray 29)).alloc (Obj.cells l2.toArray 29)).rangeAt w.heap.size 0 (ol O)) := HP.out.cols
  have HR2 : Hid (((w.alloc (Obj.cells l.toArray 29)).alloc (Obj.cells l2.toArray 29)).rangeAt (w.heap.size + 1) 0 (ol P)) := HQ.out.cols
  have HZ1 : Hid ((Try.prog.info? 26).map (·.size) = some (ol O).length) := by show _ = _; rw [ol_length]; exact size26
  have HZ2 : Hid ((Try.prog.info? 26).map (·.size) = some (ol P).length) := by show _ = _; rw [ol_length]; exact size26
  have c0 := HP.out.c1
  have c1 := HQ.out.c1
  obtain ⟨a1, k1, rfl, -⟩ := id hx
  obtain ⟨a2, k2, rfl, -⟩ := id ht
  obtain ⟨a3, k3, rfl, -⟩ := id hy
  obtain ⟨a4, k4, rfl, -⟩ := id hu
  rw [HLL.out, HL2.out]
  clear hx ht hy hu B1 HLL HL2
  obtain ⟨o1, HO1⟩ : ∃ l, Hid (ol O = l) := ⟨_, (rfl : ol O = ol O)⟩
  obtain ⟨o2, HO2⟩ : ∃ l, Hid (ol P = l) := ⟨_, (rfl : ol P = ol P)⟩
  rw [HO1.out] at HR1 HZ1 heq
  rw [HO2.out] at HR2 HZ2 heq
  obtain ⟨e, HE⟩ : ∃ q, Hid (eqO O P = q) := ⟨_, (rfl : eqO O P = eqO O P)⟩
  rw [HE.out] at heq ⊢
  clear HO1 HO2
  go_enter Try.func7, Try.ntmps7
  cases e
  case false =>
    go_wp2_with (first | refine wpList_load_mid rfl 26 _ rfl w.heap.size 0 rfl o1 _ HR1.out Try.underlying26 rfl HZ1.out ?_ | refine wpList_load_mid rfl 26 _ rfl (w.heap.size + 1) 0 rfl o2 _ HR2.out Try.underlying26 rfl HZ2.out ?_)
    go_ret
    exact ⟨by rfl, HP.out.below⟩
  case true =>
    go_wp2_with (first | refine wpList_load_mid rfl 26 _ rfl w.heap.size 0 rfl o1 _ HR1.out Try.underlying26 rfl HZ1.out ?_ | refine wpList_load_mid rfl 26 _ rfl (w.heap.size + 1) 0 rfl o2 _ HR2.out Try.underlying26 rfl HZ2.out ?_)
    refine (equalF_any _ _ n n' L M X Y _ HP.out.next HQ.out.next).mono ?_
    rintro _ w1 ⟨rfl, hb1⟩
    have HP1 := HP.out.step hb1
    have HQ1 := HQ.out.step hb1
    have d0 := HP1.c2
    have d1 := HQ1.c2
    have HT1 : Hid (Ts w1 (.slice a2 m k2) m T) := HP1.tags
    have HU1 : Hid (Ts w1 (.slice a4 m' k4) m' U) := HQ1.tags
    have HB1 : Hid (Below w.heap.size w w1) := HP1.below
    clear hb1 HP HQ HP1 HQ1 c0 c1 heq HR1 HR2
    obtain ⟨e, HEQ⟩ : ∃ q, Hid (eqN n n' L M X Y = q) := ⟨_, (rfl : _ = _)⟩
    rw [HEQ.out]
    cases e
    case false =>
      go_wp2_with fail
      go_ret
      exact ⟨by rw [HEQ.out]; rfl, HB1.out⟩
    case true =>
      go_wp2_with fail
      refine (equalT_any _ _ m m' T U _ HT1.out HU1.out).mono ?_
      rintro _ w2 ⟨rfl, hb2⟩
      obtain ⟨e, HEQ2⟩ : ∃ q, Hid (eqT m m' T U = q) := ⟨_, (rfl : eqT m m' T U = eqT m m' T U)⟩
      rw [HEQ2.out]
      go_wp2_with fail
      go_ret
      exact ⟨by rw [HEQ.out, HEQ2.out]; rfl, HB1.out.trans (hb2.mono HB1.out.size)⟩
end Go.Proofs.Ytkogbokelaanjaa
