/-
  The contract of reader.settle.
-/
import Derived.Test.YtcdnbkfjiigdmaaFdTell
namespace Go.Proofs.Ytcdnbkfjiigdmaa
open Go.RowKit
open Dfa

theorem nil_of {s : ByteArray} (h : s.size = 0) : s = ⟨#[]⟩ := by
  cases s with
  | mk d => exact congrArg ByteArray.mk (Array.eq_empty_of_size_eq_zero h)
theorem isEmpty_no {s : ByteArray} (h : ¬ s.size = 0) : s.toList.isEmpty = false := by
  rw [Go.Lib.toList_data]
  cases e : s.data.toList with
  | nil => exact absurd (by rw [← data_size, e]; rfl) h
  | cons _ _ => rfl
/-- The text that waits, as a number of bytes. -/
def bufOf (w : World) (g : Nat) : Nat := match w.cell? ⟨g, 259, none⟩ with
  | some (.string s) => s.size
  | _ => 0
theorem bufOf_at {w : World} {g : Nat} {s : ByteArray} (h : w.cell? ⟨g, 259, none⟩ = some (.string s)) : bufOf w g = s.size := by unfold bufOf; rw [h]
structure RS1 (w1 : World) (g : Nat) (l : List Value) (s : ByteArray) (r : Int) (z : Nat) (ce : Bool) (gs : Nat) (d : Nat → Bool) (x2 x9 x10 x11 x12 x13 x14 x15 x16 x17 x18 : Value) (W : World) : Prop where
  f0 : d 0 = true → x9 = (.pointer (some ⟨g, 0, none⟩))
  f1 : d 1 = true → x10 = (.pointer (some ⟨g, 0, none⟩))
  f2 : d 2 = true → x11 = (.pointer (some ⟨g, 0, none⟩))
  f3 : d 3 = true → x12 = (.agg l.toArray)
  f4 : d 4 = true → x13 = (.pointer (some ⟨g, 0, none⟩))
  f5 : d 5 = true → x14 = (.pointer (some ⟨g, 0, none⟩))
  f6 : d 6 = true → x15 = (.pointer (some ⟨g, 258, none⟩))
  f7 : d 7 = true → x16 = (.pointer (some ⟨g, 259, none⟩))
  f8 : d 8 = true → x17 = (.string s)
  f9 : d 9 = true → x18 = (.agg #[.int .i64 r, .int .i64 (z : Int), .bool ce])
  f10 : d 10 = true → x2 = (.pointer (some ⟨gs, 0, none⟩))
  f11 : d 11 = true → True
  q11_9 : d 11 = true → d 9 = true
  q11_10 : d 11 = true → d 10 = true
  kp : Below w1.heap.size w1 W
  al : d 10 = true → d 11 = false → w1.heap.size ≤ gs ∧ W.heap[gs]? = some (.cells #[.int .i64 0, .int .i64 0, .bool false] 45 (0, 0))
  fin : d 11 = true → w1.heap.size ≤ gs ∧ W.heap[gs]? = some (.cells #[.int .i64 r, .int .i64 (z : Int), .bool ce] 45 (0, 0))

/-- What is left in the reader is the answer. -/
def Ans (O : Nat → Nat) (nv tv : Value) (B g : Nat) (w : World) (an : Nat × List UInt8 × List (Int × Nat × Nat) × Int) (w' : World) : Prop := ∃ (ia : Nat) (s : ByteArray) (v : Value) (ts : List (Int × Nat × Nat)) (o : Int), Rd O nv tv B g ia s o v ts w' ∧ Mk B g w w' ∧ an = (ia, s.data.toList, ts, o)

set_option maxHeartbeats 8000000 in
set_option maxRecDepth 20000 in
theorem settle_any (O : Nat → Nat) (nv tv : Value) (n : Nat) (L : Nat → Nat) (X : Nat → Nat → Int) (T : Nat → Int) (B g ia : Nat) (s : ByteArray) (v : Value) (ts : List (Int × Nat × Nat)) (w0 w : World) (hO : ∀ j, O j < 256) (hx : Nx w0 nv n L X) (ht : Ts w0 tv n T) (hok : chkP n n O L X T = 0)
    (hb : Below w0.heap.size w0 w) (h1 : w0.heap.size ≤ g) (h2 : w0.heap.size ≤ B) (h : Rd O nv tv B g ia s 0 v ts w) (hs : s.size ≤ 2000) (ha : ia + s.size ≤ 1999999999999) (hts : ts.length + s.size ≤ 9999) :
    Calls Try.prog 13 #[(.pointer (some ⟨g, 0, none⟩))] w fun e w' => e = .returned (.tuple #[]) ∧ Ans O nv tv B g w (st1 (RR n O X) T L X ia s.data.toList ts) w' := by
  have hS := Sl.start (R := RR n O X) (T := T) (L := L) (X := X) ia s.data.toList ts
  obtain ⟨an, HA⟩ : ∃ q, Hid (st1 (RR n O X) T L X ia s.data.toList ts = q) := ⟨_, (rfl : _ = _)⟩
  rw [HA.out] at hS ⊢
  have HLK : Hid (∀ (s : ByteArray) (W : World), s.size ≤ 2000 → Below w0.heap.size w0 W → Calls Try.prog 15 #[.agg (pl O nv tv).toArray, .string s] W fun e w' => e = .returned (.agg #[.int .i64 (lng (RR n O X) T s.data.toList).1, .int .i64 ((lng (RR n O X) T s.data.toList).2 : Int), .bool (stk (RR n O X) L X s.data.toList)]) ∧ Below W.heap.size W w') := fun s W hs hb => lookAt_any O nv tv n L X T s W hO (hx.below hb (Nat.le_refl _)) (ht.below hb (Nat.le_refl _)) hok hs
  have HSI0 : Hid ((Try.prog.info? 26).map (·.size) = some (pl O nv tv).length) := by show _ = _; rw [pl_length]; exact size26
  have HHH : Hid (w0.heap.size ≤ g ∧ w0.heap.size ≤ B ∧ Below w0.heap.size w0 w) := ⟨h1, h2, hb⟩
  obtain ⟨R, HR⟩ : ∃ q, Hid (RR n O X = q) := ⟨_, (rfl : _ = _)⟩
  rw [HR.out] at hS HLK
  obtain ⟨l, HL⟩ : ∃ q, Hid (pl O nv tv = q) := ⟨_, (rfl : _ = _)⟩
  rw [HL.out] at HLK HSI0
  have HD0 : Hid (Rd O nv tv B g ia s 0 v ts w) := h
  have HM0 : Hid (Mk B g w w) := Mk.refl _ _ _
  clear hO hx ht hok hb h1 h2 h HA
  go_enter Try.func13, Try.ntmps13
  go_wp2_with fail
  go_loopw [] (fun wr => ∃ (ia : Nat) (s : ByteArray) (v : Value) (ts : List (Int × Nat × Nat)) (o : Int), Rd O nv tv B g ia s o v ts wr ∧ Mk B g w wr ∧ ((o = 0 ∧ Sl R T L X ia s.data.toList ts an) ∨ (s = ⟨#[]⟩ ∧ an = (ia, [], ts, o))) ∧ ia + s.size ≤ 1999999999999 ∧ ts.length + s.size ≤ 9999 ∧ s.size ≤ 2000) (fun wr => bufOf wr g)
  case atStart => exact ⟨ia, s, v, ts, 0, HD0.out, HM0.out, Or.inl ⟨rfl, hS⟩, ha, hts, hs⟩
  case round =>
    clear HD0 HM0 hS ha hts hs
    obtain ⟨ia, s, v, ts, o, hrd, hmk, hor, ha, hts, hs⟩ := hrel
    by_cases hse : s.size = 0
    · have hsn : s = ⟨#[]⟩ := nil_of hse
      subst hsn
      have HE : Hid (an = (ia, [], ts, o)) := by
        rcases hor with ⟨rfl, h⟩ | ⟨-, h⟩
        · exact h.empty
        · exact h
      have HRD : Hid (Rd O nv tv B g ia ⟨#[]⟩ o v ts wr) := hrd
      have HMK : Hid (Mk B g w wr) := hmk
      have y9 := hrd.c259
      clear hor hrd hmk
      go_wp2_with fail
      go_end0
      exact ⟨rfl, ia, ⟨#[]⟩, v, ts, o, HRD.out, HMK.out, HE.out⟩
    · rcases hor with ⟨rfl, hsl⟩ | ⟨rfl, -⟩
      rotate_left
      · exact absurd rfl hse
      have HRD : Hid (Rd O nv tv B g ia s 0 v ts wr) := hrd
      have HMK : Hid (Mk B g w wr) := hmk
      have HSL : Hid (Sl R T L X ia s.data.toList ts an) := hsl
      have HSP : Hid (0 < s.size) := by show 0 < _; omega
      have HNE : Hid (s.data.toList ≠ []) := by show _ ≠ _; intro e; have := congrArg List.length e; rw [data_size] at this; exact hse (by simpa using this)
      have HC9 : Hid (wr.cell? ⟨g, 259, none⟩ = some (.string s)) := hrd.c259
      have HGL : Hid (g < wr.heap.size) := hrd.row.lt
      have HB0 : Hid (Below w0.heap.size w0 wr) := hmk.below HHH.out.2.2 HHH.out.1 HHH.out.2.1
      have HRG : Hid (wr.rangeAt g 0 l) := by rw [← HL.out]; exact hrd.range
      have HCL : Hid (∀ W, Below wr.heap.size wr W → Calls Try.prog 15 #[.agg l.toArray, .string s] W fun e w' => e = .returned (.agg #[.int .i64 (lng R T s.data.toList).1, .int .i64 ((lng R T s.data.toList).2 : Int), .bool (stk R L X s.data.toList)]) ∧ Below W.heap.size W w') := fun W hW => HLK.out s W hs (HB0.out.trans (hW.mono HB0.out.size))
      have HSN : Hid (stk R L X s.data.toList = true → ¬ (lng R T s.data.toList).2 = 0 → Sl R T L X (ia + (lng R T s.data.toList).2) (s.data.toList.drop (lng R T s.data.toList).2) (ts ++ [((lng R T s.data.toList).1, ia, ia + (lng R T s.data.toList).2)]) an) := fun h1 h2 => hsl.next HNE.out h1 h2
      have HZL : Hid ((lng R T s.data.toList).2 ≤ s.size) := by have := lng_le R T s.data.toList; rw [data_size] at this; exact this
      obtain ⟨ce, HCE⟩ : ∃ q, Hid (stk R L X s.data.toList = q) := ⟨_, (rfl : _ = _)⟩
      obtain ⟨z, HZ0⟩ : ∃ q, Hid ((lng R T s.data.toList).2 = q) := ⟨_, (rfl : _ = _)⟩
      obtain ⟨r, HR0⟩ : ∃ q, Hid ((lng R T s.data.toList).1 = q) := ⟨_, (rfl : _ = _)⟩
      rw [HZ0.out] at HCL HSN HZL
      rw [HR0.out] at HCL HSN
      rw [HCE.out] at HCL HSN
      have HSI : Hid ((Try.prog.info? 26).map (·.size) = some l.length) := HSI0
      have hem : s.toList.isEmpty = false := isEmpty_no hse
      have y9 := HC9.out
      clear hrd hmk hsl
      go_wp2_with fail
      refine wp_region_free mixed (fun a0 d a W => ∃ (gs : Nat) (x2 x9 x10 x11 x12 x13 x14 x15 x16 x17 x18 : Value), a = (((((((((((a0.put (some 2) x2).put (some 9) x9).put (some 10) x10).put (some 11) x11).put (some 12) x12).put (some 13) x13).put (some 14) x14).put (some 15) x15).put (some 16) x16).put (some 17) x17).put (some 18) x18) ∧ Hid (RS1 wr g l s r z ce gs d x2 x9 x10 x11 x12 x13 x14 x15 x16 x17 x18 W)) (by kernel_rfl) ⟨0, u2, u9, u10, u11, u12, u13, u14, u15, u16, u17, u18, by simp only [Act.put, List.setIfInBounds_toArray, List.set_cons_zero, List.set_cons_succ], ?_⟩ ?_ ?_
      · exact ⟨fun h => no_way h, fun h => no_way h, fun h => no_way h, fun h => no_way h, fun h => no_way h, fun h => no_way h, fun h => no_way h, fun h => no_way h, fun h => no_way h, fun h => no_way h, fun h => no_way h, fun _ => trivial, fun h => no_way h, fun h => no_way h, (Below.refl _ _).drew, fun h => no_way h, fun h => no_way h⟩
      · simp only [StepAll, and_true]
        refine ⟨?_, ?_, ?_, ?_, ?_, ?_, ?_, ?_, ?_, ?_, ?_, ?_⟩
        · intro d a W hI hd hdep
          obtain ⟨gs, x2, x9, x10, x11, x12, x13, x14, x15, x16, x17, x18, rfl, hF⟩ := hI
          clear hdep hd
          intro K hK
          simp only [Act.put, List.setIfInBounds_toArray, List.set_cons_zero, List.set_cons_succ]
          go_simp
          refine hK.out _ _ ⟨gs, x2, (.pointer (some ⟨g, 0, none⟩)), x10, x11, x12, x13, x14, x15, x16, x17, x18, by simp only [Act.put, List.setIfInBounds_toArray, List.set_cons_zero, List.set_cons_succ], ?_⟩
          exact ⟨fun _ => rfl, fun h => hF.out.f1 (by simpa using h), fun h => hF.out.f2 (by simpa using h), fun h => hF.out.f3 (by simpa using h), fun h => hF.out.f4 (by simpa using h), fun h => hF.out.f5 (by simpa using h), fun h => hF.out.f6 (by simpa using h), fun h => hF.out.f7 (by simpa using h), fun h => hF.out.f8 (by simpa using h), fun h => hF.out.f9 (by simpa using h), fun h => hF.out.f10 (by simpa using h), fun h => hF.out.f11 (by simpa using h), fun h => by have := hF.out.q11_9 (by simpa using h); simpa using this, fun h => by have := hF.out.q11_10 (by simpa using h); simpa using this, hF.out.kp, fun h k => hF.out.al (by simpa using h) (by simpa using k), fun h => hF.out.fin (by simpa using h)⟩
        · intro d a W hI hd hdep
          obtain ⟨gs, x2, x9, x10, x11, x12, x13, x14, x15, x16, x17, x18, rfl, hF⟩ := hI
          have hd0 : d 0 = true := dep_of hdep 0 (by kernel_rfl)
          obtain rfl := hF.out.f0 hd0
          clear hdep hd hd0
          intro K hK
          simp only [Act.put, List.setIfInBounds_toArray, List.set_cons_zero, List.set_cons_succ]
          go_simp
          refine hK.out _ _ ⟨gs, x2, (.pointer (some ⟨g, 0, none⟩)), (.pointer (some ⟨g, 0, none⟩)), x11, x12, x13, x14, x15, x16, x17, x18, by simp only [Act.put, List.setIfInBounds_toArray, List.set_cons_zero, List.set_cons_succ], ?_⟩
          exact ⟨fun h => hF.out.f0 (by simpa using h), fun _ => rfl, fun h => hF.out.f2 (by simpa using h), fun h => hF.out.f3 (by simpa using h), fun h => hF.out.f4 (by simpa using h), fun h => hF.out.f5 (by simpa using h), fun h => hF.out.f6 (by simpa using h), fun h => hF.out.f7 (by simpa using h), fun h => hF.out.f8 (by simpa using h), fun h => hF.out.f9 (by simpa using h), fun h => hF.out.f10 (by simpa using h), fun h => hF.out.f11 (by simpa using h), fun h => by have := hF.out.q11_9 (by simpa using h); simpa using this, fun h => by have := hF.out.q11_10 (by simpa using h); simpa using this, hF.out.kp, fun h k => hF.out.al (by simpa using h) (by simpa using k), fun h => hF.out.fin (by simpa using h)⟩
        · intro d a W hI hd hdep
          obtain ⟨gs, x2, x9, x10, x11, x12, x13, x14, x15, x16, x17, x18, rfl, hF⟩ := hI
          have hd1 : d 1 = true := dep_of hdep 1 (by kernel_rfl)
          obtain rfl := hF.out.f1 hd1
          clear hdep hd hd1
          intro K hK
          simp only [Act.put, List.setIfInBounds_toArray, List.set_cons_zero, List.set_cons_succ]
          go_simp
          refine hK.out _ _ ⟨gs, x2, x9, (.pointer (some ⟨g, 0, none⟩)), (.pointer (some ⟨g, 0, none⟩)), x12, x13, x14, x15, x16, x17, x18, by simp only [Act.put, List.setIfInBounds_toArray, List.set_cons_zero, List.set_cons_succ], ?_⟩
          exact ⟨fun h => hF.out.f0 (by simpa using h), fun h => hF.out.f1 (by simpa using h), fun _ => rfl, fun h => hF.out.f3 (by simpa using h), fun h => hF.out.f4 (by simpa using h), fun h => hF.out.f5 (by simpa using h), fun h => hF.out.f6 (by simpa using h), fun h => hF.out.f7 (by simpa using h), fun h => hF.out.f8 (by simpa using h), fun h => hF.out.f9 (by simpa using h), fun h => hF.out.f10 (by simpa using h), fun h => hF.out.f11 (by simpa using h), fun h => by have := hF.out.q11_9 (by simpa using h); simpa using this, fun h => by have := hF.out.q11_10 (by simpa using h); simpa using this, hF.out.kp, fun h k => hF.out.al (by simpa using h) (by simpa using k), fun h => hF.out.fin (by simpa using h)⟩
        · intro d a W hI hd hdep
          obtain ⟨gs, x2, x9, x10, x11, x12, x13, x14, x15, x16, x17, x18, rfl, hF⟩ := hI
          have hd2 : d 2 = true := dep_of hdep 2 (by kernel_rfl)
          obtain rfl := hF.out.f2 hd2
          clear hdep hd hd2
          intro K hK
          simp only [Act.put, List.setIfInBounds_toArray, List.set_cons_zero, List.set_cons_succ]
          refine wp_load_mid 26 _ rfl g 0 rfl l _ (fun q v hv => (hF.out.kp.cell (p := ⟨g, 0 + q, none⟩) HGL.out).trans (HRG.out q v hv)) Try.underlying26 rfl HSI.out ?_
          simp only [Act.put, List.setIfInBounds_toArray, List.set_cons_zero, List.set_cons_succ]
          refine hK.out _ _ ⟨gs, x2, x9, x10, (.pointer (some ⟨g, 0, none⟩)), (.agg l.toArray), x13, x14, x15, x16, x17, x18, by simp only [Act.put, List.setIfInBounds_toArray, List.set_cons_zero, List.set_cons_succ], ?_⟩
          exact ⟨fun h => hF.out.f0 (by simpa using h), fun h => hF.out.f1 (by simpa using h), fun h => hF.out.f2 (by simpa using h), fun _ => rfl, fun h => hF.out.f4 (by simpa using h), fun h => hF.out.f5 (by simpa using h), fun h => hF.out.f6 (by simpa using h), fun h => hF.out.f7 (by simpa using h), fun h => hF.out.f8 (by simpa using h), fun h => hF.out.f9 (by simpa using h), fun h => hF.out.f10 (by simpa using h), fun h => hF.out.f11 (by simpa using h), fun h => by have := hF.out.q11_9 (by simpa using h); simpa using this, fun h => by have := hF.out.q11_10 (by simpa using h); simpa using this, hF.out.kp, fun h k => hF.out.al (by simpa using h) (by simpa using k), fun h => hF.out.fin (by simpa using h)⟩
        · intro d a W hI hd hdep
          obtain ⟨gs, x2, x9, x10, x11, x12, x13, x14, x15, x16, x17, x18, rfl, hF⟩ := hI
          clear hdep hd
          intro K hK
          simp only [Act.put, List.setIfInBounds_toArray, List.set_cons_zero, List.set_cons_succ]
          go_simp
          refine hK.out _ _ ⟨gs, x2, x9, x10, x11, x12, (.pointer (some ⟨g, 0, none⟩)), x14, x15, x16, x17, x18, by simp only [Act.put, List.setIfInBounds_toArray, List.set_cons_zero, List.set_cons_succ], ?_⟩
          exact ⟨fun h => hF.out.f0 (by simpa using h), fun h => hF.out.f1 (by simpa using h), fun h => hF.out.f2 (by simpa using h), fun h => hF.out.f3 (by simpa using h), fun _ => rfl, fun h => hF.out.f5 (by simpa using h), fun h => hF.out.f6 (by simpa using h), fun h => hF.out.f7 (by simpa using h), fun h => hF.out.f8 (by simpa using h), fun h => hF.out.f9 (by simpa using h), fun h => hF.out.f10 (by simpa using h), fun h => hF.out.f11 (by simpa using h), fun h => by have := hF.out.q11_9 (by simpa using h); simpa using this, fun h => by have := hF.out.q11_10 (by simpa using h); simpa using this, hF.out.kp, fun h k => hF.out.al (by simpa using h) (by simpa using k), fun h => hF.out.fin (by simpa using h)⟩
        · intro d a W hI hd hdep
          obtain ⟨gs, x2, x9, x10, x11, x12, x13, x14, x15, x16, x17, x18, rfl, hF⟩ := hI
          have hd4 : d 4 = true := dep_of hdep 4 (by kernel_rfl)
          obtain rfl := hF.out.f4 hd4
          clear hdep hd hd4
          intro K hK
          simp only [Act.put, List.setIfInBounds_toArray, List.set_cons_zero, List.set_cons_succ]
          go_simp
          refine hK.out _ _ ⟨gs, x2, x9, x10, x11, x12, (.pointer (some ⟨g, 0, none⟩)), (.pointer (some ⟨g, 0, none⟩)), x15, x16, x17, x18, by simp only [Act.put, List.setIfInBounds_toArray, List.set_cons_zero, List.set_cons_succ], ?_⟩
          exact ⟨fun h => hF.out.f0 (by simpa using h), fun h => hF.out.f1 (by simpa using h), fun h => hF.out.f2 (by simpa using h), fun h => hF.out.f3 (by simpa using h), fun h => hF.out.f4 (by simpa using h), fun _ => rfl, fun h => hF.out.f6 (by simpa using h), fun h => hF.out.f7 (by simpa using h), fun h => hF.out.f8 (by simpa using h), fun h => hF.out.f9 (by simpa using h), fun h => hF.out.f10 (by simpa using h), fun h => hF.out.f11 (by simpa using h), fun h => by have := hF.out.q11_9 (by simpa using h); simpa using this, fun h => by have := hF.out.q11_10 (by simpa using h); simpa using this, hF.out.kp, fun h k => hF.out.al (by simpa using h) (by simpa using k), fun h => hF.out.fin (by simpa using h)⟩
        · intro d a W hI hd hdep
          obtain ⟨gs, x2, x9, x10, x11, x12, x13, x14, x15, x16, x17, x18, rfl, hF⟩ := hI
          have hd5 : d 5 = true := dep_of hdep 5 (by kernel_rfl)
          obtain rfl := hF.out.f5 hd5
          clear hdep hd hd5
          intro K hK
          simp only [Act.put, List.setIfInBounds_toArray, List.set_cons_zero, List.set_cons_succ]
          go_simp
          refine hK.out _ _ ⟨gs, x2, x9, x10, x11, x12, x13, (.pointer (some ⟨g, 0, none⟩)), (.pointer (some ⟨g, 258, none⟩)), x16, x17, x18, by simp only [Act.put, List.setIfInBounds_toArray, List.set_cons_zero, List.set_cons_succ], ?_⟩
          exact ⟨fun h => hF.out.f0 (by simpa using h), fun h => hF.out.f1 (by simpa using h), fun h => hF.out.f2 (by simpa using h), fun h => hF.out.f3 (by simpa using h), fun h => hF.out.f4 (by simpa using h), fun h => hF.out.f5 (by simpa using h), fun _ => rfl, fun h => hF.out.f7 (by simpa using h), fun h => hF.out.f8 (by simpa using h), fun h => hF.out.f9 (by simpa using h), fun h => hF.out.f10 (by simpa using h), fun h => hF.out.f11 (by simpa using h), fun h => by have := hF.out.q11_9 (by simpa using h); simpa using this, fun h => by have := hF.out.q11_10 (by simpa using h); simpa using this, hF.out.kp, fun h k => hF.out.al (by simpa using h) (by simpa using k), fun h => hF.out.fin (by simpa using h)⟩
        · intro d a W hI hd hdep
          obtain ⟨gs, x2, x9, x10, x11, x12, x13, x14, x15, x16, x17, x18, rfl, hF⟩ := hI
          have hd6 : d 6 = true := dep_of hdep 6 (by kernel_rfl)
          obtain rfl := hF.out.f6 hd6
          clear hdep hd hd6
          intro K hK
          simp only [Act.put, List.setIfInBounds_toArray, List.set_cons_zero, List.set_cons_succ]
          go_simp
          refine hK.out _ _ ⟨gs, x2, x9, x10, x11, x12, x13, x14, (.pointer (some ⟨g, 258, none⟩)), (.pointer (some ⟨g, 259, none⟩)), x17, x18, by simp only [Act.put, List.setIfInBounds_toArray, List.set_cons_zero, List.set_cons_succ], ?_⟩
          exact ⟨fun h => hF.out.f0 (by simpa using h), fun h => hF.out.f1 (by simpa using h), fun h => hF.out.f2 (by simpa using h), fun h => hF.out.f3 (by simpa using h), fun h => hF.out.f4 (by simpa using h), fun h => hF.out.f5 (by simpa using h), fun h => hF.out.f6 (by simpa using h), fun _ => rfl, fun h => hF.out.f8 (by simpa using h), fun h => hF.out.f9 (by simpa using h), fun h => hF.out.f10 (by simpa using h), fun h => hF.out.f11 (by simpa using h), fun h => by have := hF.out.q11_9 (by simpa using h); simpa using this, fun h => by have := hF.out.q11_10 (by simpa using h); simpa using this, hF.out.kp, fun h k => hF.out.al (by simpa using h) (by simpa using k), fun h => hF.out.fin (by simpa using h)⟩
        · intro d a W hI hd hdep
          obtain ⟨gs, x2, x9, x10, x11, x12, x13, x14, x15, x16, x17, x18, rfl, hF⟩ := hI
          have hd7 : d 7 = true := dep_of hdep 7 (by kernel_rfl)
          obtain rfl := hF.out.f7 hd7
          have ya := (hF.out.kp.cell (p := ⟨g, 259, none⟩) HGL.out).trans HC9.out
          clear hdep hd hd7
          intro K hK
          simp only [Act.put, List.setIfInBounds_toArray, List.set_cons_zero, List.set_cons_succ]
          go_simp
          refine hK.out _ _ ⟨gs, x2, x9, x10, x11, x12, x13, x14, x15, (.pointer (some ⟨g, 259, none⟩)), (.string s), x18, by simp only [Act.put, List.setIfInBounds_toArray, List.set_cons_zero, List.set_cons_succ], ?_⟩
          exact ⟨fun h => hF.out.f0 (by simpa using h), fun h => hF.out.f1 (by simpa using h), fun h => hF.out.f2 (by simpa using h), fun h => hF.out.f3 (by simpa using h), fun h => hF.out.f4 (by simpa using h), fun h => hF.out.f5 (by simpa using h), fun h => hF.out.f6 (by simpa using h), fun h => hF.out.f7 (by simpa using h), fun _ => rfl, fun h => hF.out.f9 (by simpa using h), fun h => hF.out.f10 (by simpa using h), fun h => hF.out.f11 (by simpa using h), fun h => by have := hF.out.q11_9 (by simpa using h); simpa using this, fun h => by have := hF.out.q11_10 (by simpa using h); simpa using this, hF.out.kp, fun h k => hF.out.al (by simpa using h) (by simpa using k), fun h => hF.out.fin (by simpa using h)⟩
        · intro d a W hI hd hdep
          obtain ⟨gs, x2, x9, x10, x11, x12, x13, x14, x15, x16, x17, x18, rfl, hF⟩ := hI
          have hd3 : d 3 = true := dep_of hdep 3 (by kernel_rfl)
          have hd8 : d 8 = true := dep_of hdep 8 (by kernel_rfl)
          obtain rfl := hF.out.f3 hd3
          obtain rfl := hF.out.f8 hd8
          have HN11 : Hid (d 11 = false) := no_later hF.out.q11_9 hd
          have hcl := HCL.out W hF.out.kp
          clear hdep hd hd3 hd8
          intro K hK
          simp only [Act.put, List.setIfInBounds_toArray, List.set_cons_zero, List.set_cons_succ]
          go_simp
          refine hcl.mono ?_
          rintro _ W1 ⟨rfl, hb1⟩
          clear hcl
          go_simp
          refine hK.out _ _ ⟨gs, x2, x9, x10, x11, (.agg l.toArray), x13, x14, x15, x16, (.string s), (.agg #[.int .i64 r, .int .i64 (z : Int), .bool ce]), by simp only [Act.put, List.setIfInBounds_toArray, List.set_cons_zero, List.set_cons_succ], ?_⟩
          exact ⟨fun h => hF.out.f0 (by simpa using h), fun h => hF.out.f1 (by simpa using h), fun h => hF.out.f2 (by simpa using h), fun h => hF.out.f3 (by simpa using h), fun h => hF.out.f4 (by simpa using h), fun h => hF.out.f5 (by simpa using h), fun h => hF.out.f6 (by simpa using h), fun h => hF.out.f7 (by simpa using h), fun h => hF.out.f8 (by simpa using h), fun _ => rfl, fun h => hF.out.f10 (by simpa using h), fun h => hF.out.f11 (by simpa using h), fun _ => by simp, fun h => by have := hF.out.q11_10 (by simpa using h); simpa using this, hF.out.kp.trans (hb1.mono hF.out.kp.size), fun h k => have q := hF.out.al (by simpa using h) HN11.out; ⟨q.1, (hb1.block _ (Nat.lt_of_not_le fun x => by have := q.2; rw [Array.getElem?_eq_none x] at this; cases this)).trans q.2⟩, fun h => by have := HN11.out; simp [this] at h⟩
        · intro d a W hI hd hdep
          obtain ⟨gs, x2, x9, x10, x11, x12, x13, x14, x15, x16, x17, x18, rfl, hF⟩ := hI
          have HN11 : Hid (d 11 = false) := no_later hF.out.q11_10 hd
          clear hdep hd
          intro K hK
          simp only [Act.put, List.setIfInBounds_toArray, List.set_cons_zero, List.set_cons_succ]
          go_simp
          refine hK.out _ _ ⟨W.heap.size, (.pointer (some ⟨W.heap.size, 0, none⟩)), x9, x10, x11, x12, x13, x14, x15, x16, x17, x18, by simp only [Act.put, List.setIfInBounds_toArray, List.set_cons_zero, List.set_cons_succ], ?_⟩
          have hb1 := (Below.refl W.heap.size W).alloc (Nat.le_refl _) (Obj.cells #[.int .i64 0, .int .i64 0, .bool false] 45)
          have hnw := heap_alloc_new W (Obj.cells #[.int .i64 0, .int .i64 0, .bool false] 45)
          exact ⟨fun h => hF.out.f0 (by simpa using h), fun h => hF.out.f1 (by simpa using h), fun h => hF.out.f2 (by simpa using h), fun h => hF.out.f3 (by simpa using h), fun h => hF.out.f4 (by simpa using h), fun h => hF.out.f5 (by simpa using h), fun h => hF.out.f6 (by simpa using h), fun h => hF.out.f7 (by simpa using h), fun h => hF.out.f8 (by simpa using h), fun h => hF.out.f9 (by simpa using h), fun _ => rfl, fun h => hF.out.f11 (by simpa using h), fun h => by have := hF.out.q11_9 (by simpa using h); simpa using this, fun _ => by simp, hF.out.kp.trans (hb1.mono hF.out.kp.size), fun _ _ => ⟨hF.out.kp.size, hnw⟩, fun h => by have := HN11.out; simp [this] at h⟩
        · intro d a W hI hd hdep
          obtain ⟨gs, x2, x9, x10, x11, x12, x13, x14, x15, x16, x17, x18, rfl, hF⟩ := hI
          have hd10 : d 10 = true := dep_of hdep 10 (by kernel_rfl)
          have hd9 : d 9 = true := dep_of hdep 9 (by kernel_rfl)
          obtain rfl := hF.out.f10 hd10
          obtain rfl := hF.out.f9 hd9
          have e11_10 := hd10
          have e11_9 := hd9
          have hal := hF.out.al hd10 hd
          have x0 := block_cell hal.2 0
          have x1 := block_cell hal.2 1
          have x2 := block_cell hal.2 2
          have f0 := block_free hal.2 0
          have f1 := block_free hal.2 1
          have f2 := block_free hal.2 2
          simp only [List.getElem?_toArray, List.getElem?_cons_zero, List.getElem?_cons_succ] at x0 x1 x2
          have HAL : Hid (wr.heap.size ≤ gs ∧ W.heap[gs]? = some (.cells #[.int .i64 0, .int .i64 0, .bool false] 45 (0, 0))) := hal
          clear hal
          clear hdep hd hd10 hd9
          intro K hK
          simp only [Act.put, List.setIfInBounds_toArray, List.set_cons_zero, List.set_cons_succ]
          go_simp
          refine hK.out _ _ ⟨gs, (.pointer (some ⟨gs, 0, none⟩)), x9, x10, x11, x12, x13, x14, x15, x16, x17, (.agg #[.int .i64 r, .int .i64 (z : Int), .bool ce]), by simp only [Act.put, List.setIfInBounds_toArray, List.set_cons_zero, List.set_cons_succ], ?_⟩
          exact ⟨fun h => hF.out.f0 (by simpa using h), fun h => hF.out.f1 (by simpa using h), fun h => hF.out.f2 (by simpa using h), fun h => hF.out.f3 (by simpa using h), fun h => hF.out.f4 (by simpa using h), fun h => hF.out.f5 (by simpa using h), fun h => hF.out.f6 (by simpa using h), fun h => hF.out.f7 (by simpa using h), fun h => hF.out.f8 (by simpa using h), fun h => hF.out.f9 (by simpa using h), fun h => hF.out.f10 (by simpa using h), fun _ => trivial, fun _ => by simpa using e11_9, fun _ => by simpa using e11_10, ((hF.out.kp.setCell (by have := HAL.out.1; simp; omega) _).setCell (by have := HAL.out.1; simp; omega) _).setCell (by have := HAL.out.1; simp; omega) _, fun _ h => by simp at h, fun _ => ⟨HAL.out.1, three HAL.out.2 _ _ _⟩⟩
      · intro d a W hI hall
        obtain ⟨gs, x2, x9, x10, x11, x12, x13, x14, x15, x16, x17, x18, rfl, hF⟩ := hI
        simp only [List.length_cons, List.length_nil] at hall
        obtain rfl := hF.out.f0 (hall 0 (by omega))
        obtain rfl := hF.out.f1 (hall 1 (by omega))
        obtain rfl := hF.out.f2 (hall 2 (by omega))
        obtain rfl := hF.out.f3 (hall 3 (by omega))
        obtain rfl := hF.out.f4 (hall 4 (by omega))
        obtain rfl := hF.out.f5 (hall 5 (by omega))
        obtain rfl := hF.out.f6 (hall 6 (by omega))
        obtain rfl := hF.out.f7 (hall 7 (by omega))
        obtain rfl := hF.out.f8 (hall 8 (by omega))
        obtain rfl := hF.out.f9 (hall 9 (by omega))
        obtain rfl := hF.out.f10 (hall 10 (by omega))
        have HS : Hid (wr.heap.size ≤ gs ∧ W.heap[gs]? = some (.cells #[.int .i64 r, .int .i64 (z : Int), .bool ce] 45 (0, 0))) := hF.out.fin (hall 11 (by omega))
        have HRD2 : Hid (Rd O nv tv B g ia s 0 v ts W) := HRD.out.next hF.out.kp
        have HMK2 : Hid (Mk B g w W) := HMK.out.next hF.out.kp HRD.out.sz
        have HBW : Hid (Below w0.heap.size w0 W) := HB0.out.trans (hF.out.kp.mono HB0.out.size)
        clear hF hall HRD HMK
        simp only [Act.put, List.setIfInBounds_toArray, List.set_cons_zero, List.set_cons_succ]
        obtain ⟨w2, rfl⟩ : ∃ w2, w2 = W := ⟨_, rfl⟩
        have x0 := block_cell HS.out.2 0
        have x1 := block_cell HS.out.2 1
        have x2 := block_cell HS.out.2 2
        simp only [List.getElem?_toArray, List.getElem?_cons_zero, List.getElem?_cons_succ] at x0 x1 x2
        cases ce
        case true =>
          by_cases hz0 : z = 0
          · subst hz0
            have HE : Hid (an = (ia, [], ts, 9)) := HSL.out.bad HNE.out HCE.out HZ0.out
            have htb := tell_bad O nv tv B g ia r true s 0 v ts w2 HRD2.out
            go_wp2_with fail
            refine htb.mono ?_
            rintro _ w3 ⟨rfl, h1, h2⟩
            have HR3 : Hid (Rd O nv tv B g ia ⟨#[]⟩ 9 v ts w3 ∧ Mk B g w w3) := ⟨h1, HMK2.out.trans h2⟩
            clear htb h1 h2
            go_wp2_with fail
            have y9 := HR3.out.1.c259
            go_roundw
            case rel => exact ⟨ia, ⟨#[]⟩, v, ts, 9, HR3.out.1, HR3.out.2, Or.inr ⟨rfl, by rw [HE.out]⟩, by show ia + 0 ≤ _; omega, by show ts.length + 0 ≤ _; omega, by show 0 ≤ 2000; omega⟩
            case measure => rw [bufOf_at y9, bufOf_at HC9.out]; show 0 < s.size; exact HSP.out
          · have hzb : 0 < z := by omega
            have HN : Hid (Sl R T L X (ia + z) (s.data.toList.drop z) (ts ++ [(r, ia, ia + z)]) an) := HSN.out rfl hz0
            have hto := tell_ok O nv tv B g ia z r true s 0 v ts w2 HRD2.out hzb HZL.out (by have := HZL.out; omega) (by omega)
            go_wp2_with fail
            refine hto.mono ?_
            rintro _ w3 ⟨rfl, v3, h1, h2⟩
            have HR3 : Hid (Rd O nv tv B g (ia + z) (s.extract z s.size) 0 v3 (ts ++ [(r, ia, ia + z)]) w3 ∧ Mk B g w w3) := ⟨h1, HMK2.out.trans h2⟩
            have hl3 : (s.extract z s.size).size = s.size - z := by simp
            clear hto h1 h2
            go_wp2_with fail
            have y9 := HR3.out.1.c259
            go_roundw
            case rel => exact ⟨ia + z, s.extract z s.size, v3, ts ++ [(r, ia, ia + z)], 0, HR3.out.1, HR3.out.2, Or.inl ⟨rfl, by rw [tail_list]; exact HN.out⟩, by rw [hl3]; have := HZL.out; omega, by rw [List.length_append]; simp; omega, by rw [hl3]; omega⟩
            case measure => rw [bufOf_at y9, bufOf_at HC9.out, hl3]; have := HSP.out; omega
        case false =>
          have y9 := HRD2.out.c259
          by_cases h64 : 64 < s.size
          · have hk1 : (64 : Int) < (s.size : Int) := by omega
            have HE : Hid (an = (ia, [], ts, 10)) := HSL.out.hold HNE.out HCE.out (by rw [data_size]; exact h64)
            have hst := stop_any O nv tv B g ia s 0 10 v ts w2 HRD2.out
            go_wp2_with fail
            refine hst.mono ?_
            rintro _ w3 ⟨rfl, h1, h2⟩
            have HR3 : Hid (Rd O nv tv B g ia ⟨#[]⟩ 10 v ts w3 ∧ Mk B g w w3) := ⟨h1, HMK2.out.trans h2⟩
            clear hst h1 h2 y9
            go_wp2_with fail
            have y9 := HR3.out.1.c259
            go_roundw
            case rel => exact ⟨ia, ⟨#[]⟩, v, ts, 10, HR3.out.1, HR3.out.2, Or.inr ⟨rfl, by rw [HE.out]⟩, by show ia + 0 ≤ _; omega, by show ts.length + 0 ≤ _; omega, by show 0 ≤ 2000; omega⟩
            case measure => rw [bufOf_at y9, bufOf_at HC9.out]; show 0 < s.size; exact HSP.out
          · have hk1 : ¬ (64 : Int) < (s.size : Int) := by omega
            have HE : Hid (an = (ia, s.data.toList, ts, 0)) := HSL.out.wait HNE.out HCE.out (by rw [data_size]; exact h64)
            go_wp2_with fail
            exact bodyPost_ret (v := .tuple #[]) (results_none rfl _ _ _) rfl ⟨rfl, ia, s, v, ts, 0, HRD2.out, HMK2.out, by rw [HE.out]⟩
end Go.Proofs.Ytcdnbkfjiigdmaa
