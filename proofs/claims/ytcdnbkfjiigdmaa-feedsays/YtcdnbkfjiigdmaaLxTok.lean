/-
  The contract of the document's own answer: pushref.Tokens.
-/
import Derived.Test.YtcdnbkfjiigdmaaLxLex
import Derived.BigQuiet
namespace Go.Proofs.Ytcdnbkfjiigdmaa
open Go.RowKit
open Dfa

theorem tail_list (s : ByteArray) (k : Nat) : (s.extract k s.size).data.toList = s.data.toList.drop k := by
  rw [ByteArray.data_extract]
  simp only [Array.toList_extract, List.extract_eq_take_drop]
  exact List.take_of_length_le (by rw [List.length_drop, data_size]; exact Nat.le_refl _)
/-- What pushref.Tokens holds. -/
structure Bt (w : World) (rv tv v : Value) (ts : List (Int × Nat × Nat)) (W : World) : Prop where
  c0 : W.cell? ⟨w.heap.size, 0, none⟩ = some rv
  c1 : W.cell? ⟨w.heap.size, 1, none⟩ = some tv
  lt : w.heap.size < W.heap.size
  own : W.ownsRow (w.heap.size + 1) 37 3 v ts.length (tcs ts)
  below : Below w.heap.size w W
theorem Bt.next {w : World} {rv tv v : Value} {ts : List (Int × Nat × Nat)} {W W' : World} (h : Bt w rv tv v ts W) (hb : Below W.heap.size W W') : Bt w rv tv v ts W' :=
  ⟨(hb.cell (p := ⟨w.heap.size, 0, none⟩) h.lt).trans h.c0, (hb.cell (p := ⟨w.heap.size, 1, none⟩) h.lt).trans h.c1, Nat.lt_of_lt_of_le h.lt hb.size, own_below h.own hb (Nat.le_refl _), h.below.trans (hb.mono h.below.size)⟩
/-- The place of the error, or none. -/
def badOf : Option Nat → Int
  | none => -1
  | some p => (p : Int)

set_option maxHeartbeats 1600000 in
set_option maxRecDepth 20000 in
theorem tokens_ok (rv tv : Value) (n : Nat) (R : Nat → Nat → Int) (T : Nat → Int) (s : ByteArray) (w : World) (hr : Rw w rv n R) (ht : Ts w tv n T) (h0 : 0 < n) (hok : rowsOk n R = true) (hs : s.size ≤ 2000) :
    Calls Try.prog 16 #[.agg #[rv, tv], .string s] w fun e w' => ∃ v, e = .returned (.tuple #[v, .int .i64 (badOf (Dfa.all R T s.data.toList).2)]) ∧
      w'.ownsRow w.heap.size 37 3 v (Dfa.all R T s.data.toList).1.length (tcs (Dfa.all R T s.data.toList).1) ∧ Below w.heap.size w w' := by
  obtain ⟨i0, hi, hz0, hz1, hz2⟩ := info_parts info37
  have HRW : Hid (Rw w rv n R ∧ Ts w tv n T ∧ rowsOk n R = true) := ⟨hr, ht, hok⟩
  have hT := Tk.start R T s.data.toList
  obtain ⟨an, HA⟩ : ∃ a, Hid (Dfa.all R T s.data.toList = a) := ⟨_, (rfl : Dfa.all R T s.data.toList = Dfa.all R T s.data.toList)⟩
  rw [HA.out]
  obtain ⟨er, HER⟩ : ∃ x, Hid (badOf an.2 = x) := ⟨_, (rfl : badOf an.2 = badOf an.2)⟩
  rw [HER.out]
  clear hr ht hok
  go_enter Try.func16, Try.ntmps16
  go_wp2_with fail
  go_loopw [6, 7] (fun v a wr => ∃ (k : Nat) (ts : List (Int × Nat × Nat)), a = .int .i64 (k : Int) ∧ Tk R T s.data.toList ts k ∧ Bt w rv tv v ts wr) (fun _ a _ => s.size - (intOf a).toNat)
  case atStart => exact ⟨0, [], rfl, hT, by simp, by simp, by simp, World.ownsRow_nil _ _ _ _, (Below.refl _ _).alloc (Nat.le_refl _) _⟩
  case round =>
    obtain ⟨k, ts, rfl, htk, hbt⟩ := hrel
    have HTK : Hid (Tk R T s.data.toList ts k) := htk
    have hk : k ≤ s.size := by have := htk.1; rwa [data_size] at this
    have htl : ts.length ≤ k := htk.2.1
    obtain ⟨va, vc, rfl⟩ := own_form hbt.own
    have HB : Hid (Bt w rv tv (.slice va ts.length vc) ts wr) := hbt
    clear htk hT hbt
    by_cases hlt : k < s.size
    · have hk1 : (k : Int) < (s.size : Int) := by omega
      have hk0 : (0 : Int) ≤ (k : Int) := by omega
      have hk2 : (k : Int) ≤ (s.size : Int) := by omega
      have HL2 : Hid (k < s.data.toList.length) := by show _ < _; rw [data_size]; exact hlt
      have hle := lng_le R T (s.data.toList.drop k)
      rw [List.length_drop, data_size] at hle
      have HNX : Hid (¬ (lng R T (s.data.toList.drop k)).2 = 0 → Tk R T s.data.toList (ts ++ [((lng R T (s.data.toList.drop k)).1, k, k + (lng R T (s.data.toList.drop k)).2)]) (k + (lng R T (s.data.toList.drop k)).2)) := fun h => HTK.out.next HL2.out h
      have HBD : Hid ((lng R T (s.data.toList.drop k)).2 = 0 → an = (ts, some k)) := fun h => by rw [← HA.out]; exact HTK.out.bad HL2.out h
      have HCL : Hid (∀ p : Kp (Bt w rv tv (.slice va ts.length vc) ts), Calls Try.prog 19 #[.agg #[rv, tv], .string (s.extract k s.size)] p.W fun e w'' => e = .returned (.tuple #[.int .i64 (lng R T (s.data.toList.drop k)).1, .int .i64 ((lng R T (s.data.toList.drop k)).2 : Int)]) ∧ ∃ q : Kp (Bt w rv tv (.slice va ts.length vc) ts), w'' = q.W) := fun p => by
        have := refLong_any rv tv n R T (s.extract k s.size) p.W (HRW.out.1.below p.h.below (Nat.le_refl _)) (HRW.out.2.1.below p.h.below (Nat.le_refl _)) h0 HRW.out.2.2 (by simp; omega)
        rw [tail_list] at this
        exact Kp.calls p (fun _ _ h hb => h.next hb) this
      obtain ⟨zr, HZ⟩ : ∃ z, Hid (lng R T (s.data.toList.drop k) = z) := ⟨_, (rfl : lng _ _ _ = lng _ _ _)⟩
      rw [HZ.out] at HNX HBD HCL hle
      obtain ⟨r, z⟩ := zr
      simp only at HNX HBD HCL hle
      have p0 : ∀ p : Kp (Bt w rv tv (.slice va ts.length vc) ts), p.W.cell? ⟨w.heap.size, 0, none⟩ = some rv := fun p => p.h.c0
      have p1 : ∀ p : Kp (Bt w rv tv (.slice va ts.length vc) ts), p.W.cell? ⟨w.heap.size, 1, none⟩ = some tv := fun p => p.h.c1
      have hne : Nonempty (Kp (Bt w rv tv (.slice va ts.length vc) ts)) := ⟨⟨_, HB.out⟩⟩
      go_wp2_with fail
      refine wp_region_kept mixed (by kernel_rfl) (HB.out.next (Below.refl _ _).drew) ?_
      repeat (go_big_quiet_step (first | (go_at_call 19; with_reducible exact HCL.out _)))
      refine wpQuiet_nil ?_
      intro W2 hw2
      obtain ⟨⟨W2, HS2⟩, rfl⟩ := hw2
      have HB2 : Hid (Bt w rv tv (.slice va ts.length vc) ts W2) := HS2
      clear HS2 HB HCL hne p0 p1
      have hlt2 := HB2.out.lt
      by_cases hz : z = 0
      · subst hz
        have HE : Hid (an = (ts, some k)) := HBD.out rfl
        go_wp2_with fail
        go_ret2
        exact ⟨_, by rw [← HER.out, HE.out]; rfl, by rw [HE.out]; exact own_less HB2.out.own (by omega), HB2.out.below⟩
      · have hzb : ((z : Int) == 0) = false := by simp; omega
        have HNX2 : Hid (Tk R T s.data.toList (ts ++ [(r, k, k + z)]) (k + z)) := HNX.out hz
        have hsz : (k : Int) + (z : Int) ≤ 2000 := by omega
        have hzp : 0 < z := by omega
        clear HNX HBD hz
        have HO3 : Hid ((W2.alloc (Obj.cells #[Value.int .i64 r, Value.int .i64 (k : Int), Value.int .i64 ((k : Int) + (z : Int))] 37)).ownsRow (w.heap.size + 1) 37 3 (.slice va ts.length vc) ts.length (tcs ts)) := HB2.out.own.alloc _
        go_wp2_with (at_builtin; refine wpList_append_own _ rfl _ _ 31 rfl (w.heap.size + 1) 37 i0 (.agg #[.int .i64 0, .int .i64 0, .int .i64 0]) 3 24 Try.underlying31 hi hz0 hz1 hz2 rfl (by decide) _ _ _ rfl HO3.out ⟨W2.heap.size, 0, none⟩ 1 1 [.int .i64 r, .int .i64 (k : Int), .int .i64 ((k : Int) + (z : Int))] rfl rfl (World.news_of_block (t := 37) (fr := (0, 0)) (heap_alloc_new W2 _)) (by simp [Value.oneCell']) (by unfold maxLen; omega) (by omega) (by simp; omega) ?_)
        intro v' w4 hown' hgrow _
        have s4 := hgrow.size
        simp only [World.size_alloc] at s4
        have HB3 : Bt w rv tv (.slice va ts.length vc) ts (W2.alloc (Obj.cells #[Value.int .i64 r, Value.int .i64 (k : Int), Value.int .i64 ((k : Int) + (z : Int))] 37)) := HB2.out.next ((Below.refl _ _).alloc (Nat.le_refl _) _)
        have hnb : ∀ q, q < w.heap.size + 1 → some q ≠ (Value.slice va ts.length vc).ownBlock := fun q hq e => by have := own_ge HO3.out q e.symm; omega
        have HB4 : Hid (Bt w rv tv v' (ts ++ [(r, k, k + z)]) w4) := by
          refine ⟨hgrow.cell HB3.c0 (hnb w.heap.size (by omega)), hgrow.cell HB3.c1 (hnb w.heap.size (by omega)), by omega, ?_, Below.grown HB3.below hgrow (by simp; have := HB2.out.below.size; omega) (fun q hq => by have := own_ge HO3.out q hq; omega)⟩
          rw [tcs_snoc, List.length_append]
          have e : ((k + z : Nat) : Int) = (k : Int) + (z : Int) := by omega
          simp only [e]
          exact hown'
        obtain ⟨v'a, v'c, rfl⟩ := own_form hown'
        clear hown' hgrow HO3 HB2 HB3 hnb
        go_wp2_with fail
        go_roundw
        case rel => exact ⟨k + z, _, by go_num, HNX2.out, HB4.out⟩
        case measure => simp [intOf]; omega
    · have hk1 : ¬ (k : Int) < (s.size : Int) := by omega
      have HE : Hid (an = (ts, none)) := by show _ = _; rw [← HA.out]; exact HTK.out.over (by rw [data_size]; omega)
      go_wp2_with fail
      go_ret2
      exact ⟨_, by rw [← HER.out, HE.out]; rfl, by rw [HE.out]; exact own_less HB.out.own (by omega), HB.out.below⟩
end Go.Proofs.Ytcdnbkfjiigdmaa
