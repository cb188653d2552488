/-
  The contract of pushref.FeedEnd.
-/
import Derived.Test.YtcdnbkfjiigdmaaFdBad
namespace Go.Proofs.Ytcdnbkfjiigdmaa
open Go.RowKit
open Dfa

/-- Where tokens stand. -/
theorem tk_bound (R : Nat → Nat → Int) (T : Nat → Int) (s : List UInt8) : ∀ (f p : Nat), p ≤ s.length → (∀ t ∈ (tk R T s f p).1, t.2.1 ≤ s.length ∧ t.2.2 ≤ s.length) ∧ ∀ q, (tk R T s f p).2 = some q → q ≤ s.length
  | 0, p, h => ⟨by intro t ht; simp [tk] at ht, by intro q hq; simp [tk] at hq⟩
  | f + 1, p, h => by
    rw [tk]
    split
    · exact ⟨by intro t ht; simp at ht, by intro q hq; simp at hq⟩
    · split
      · exact ⟨by intro t ht; simp at ht, by intro q hq; simp at hq; omega⟩
      · have hl := lng_le R T (s.drop p)
        rw [List.length_drop] at hl
        obtain ⟨k1, k2⟩ := tk_bound R T s f (p + (lng R T (s.drop p)).2) (by omega)
        refine ⟨fun t ht => ?_, k2⟩
        simp only [List.mem_cons] at ht
        rcases ht with rfl | ht
        · exact ⟨h, by simp; omega⟩
        · exact k1 t ht
theorem tk_few (R : Nat → Nat → Int) (T : Nat → Int) (s : List UInt8) : ∀ (f p : Nat), p ≤ s.length → (tk R T s f p).1.length + p ≤ s.length
  | 0, p, h => by simp [tk]; exact h
  | f + 1, p, h => by
    rw [tk]
    split
    · simp; exact h
    · split
      · simp; exact h
      · have hl := lng_le R T (s.drop p)
        rw [List.length_drop] at hl
        have := tk_few R T s f (p + (lng R T (s.drop p)).2) (by omega)
        simp only [List.length_cons]; omega
theorem all_few (R : Nat → Nat → Int) (T : Nat → Int) (s : List UInt8) : (Dfa.all R T s).1.length ≤ s.length := by have := tk_few R T s s.length 0 (by omega); exact this
theorem all_bound (R : Nat → Nat → Int) (T : Nat → Int) (s : List UInt8) : ∀ t ∈ (Dfa.all R T s).1, t.2.1 ≤ s.length ∧ t.2.2 ≤ s.length := (tk_bound R T s s.length 0 (by omega)).1
theorem all_place (R : Nat → Nat → Int) (T : Nat → Int) (s : List UInt8) (q : Nat) (h : (Dfa.all R T s).2 = some q) : q ≤ s.length := (tk_bound R T s s.length 0 (by omega)).2 q h
theorem rowsOk_RR {n : Nat} {O : Nat → Nat} {L : Nat → Nat} {X : Nat → Nat → Int} {T : Nat → Int} (hok : chkP n n O L X T = 0) : rowsOk n (RR n O X) = true := by
  obtain ⟨hn0, hn1, -, hcols, hsts, -⟩ := chkP_zero hok
  exact all_true fun i hi => all_true fun j hj => by
    obtain ⟨g1, g2, g3⟩ := cols_at hcols
    have h2 : O j < L i := by rw [g1 i hi]; exact g3 j hj
    have h3 := states_at hsts i (O j) hi h2
    unfold numOk RR
    rw [if_pos ⟨hi, hj⟩]
    simp; omega
theorem own_at {w : World} {base e size g n cap : Nat} {xs : List Value} (h : w.ownsRow base e size (.slice (some ⟨g, 0, none⟩) n cap) n xs) {q : Nat} {u : Value} (hu : xs[q]? = some u) : w.cell? ⟨g, q, none⟩ = some u := by
  obtain ⟨hl, ⟨h1, h2⟩ | ⟨g', cap', cur, hv, hg, hh, hn, hc, hs, ht⟩⟩ := h
  · cases h1
  · simp at hv
    obtain ⟨rfl, rfl⟩ := hv
    have e : w.cell? ⟨g, q, none⟩ = cur[q]? := by simp [World.cell?, hh]
    rw [e]
    have hi : q < xs.length := (List.getElem?_eq_some_iff.1 hu).1
    have h2 : (cur.toList.take (n * size))[q]? = xs[q]? := by rw [ht]
    rw [List.getElem?_take_of_lt (by omega), hu] at h2
    simpa using h2
theorem own_free {w : World} {base e size g n cap : Nat} {xs : List Value} (h : w.ownsRow base e size (.slice (some ⟨g, 0, none⟩) n cap) n xs) (q : Nat) : w.frozen? ⟨g, q, none⟩ = false := by
  obtain ⟨hl, ⟨h1, h2⟩ | ⟨g', cap', cur, hv, hg, hh, hn, hc, hs, ht⟩⟩ := h
  · cases h1
  · simp at hv
    obtain ⟨rfl, rfl⟩ := hv
    simp [World.frozen?, hh]
theorem own_put {w : World} {base e size g n cap : Nat} {xs : List Value} (h : w.ownsRow base e size (.slice (some ⟨g, 0, none⟩) n cap) n xs) (q : Nat) (u : Value) : (w.setCell ⟨g, q, none⟩ u).ownsRow base e size (.slice (some ⟨g, 0, none⟩) n cap) n (xs.set q u) := by
  obtain ⟨hl, ⟨h1, h2⟩ | ⟨g', cap', cur, hv, hg, hh, hn, hc, hs, ht⟩⟩ := h
  · cases h1
  · simp at hv
    obtain ⟨rfl, rfl⟩ := hv
    refine ⟨by rw [List.length_set]; exact hl, Or.inr ⟨g, cap, cur.setIfInBounds q u, rfl, hg, block_store hh u, hn, hc, by rw [Array.size_setIfInBounds]; exact hs, ?_⟩⟩
    rw [Array.toList_setIfInBounds, List.take_set, ht]
theorem tcs_put (ts : List (Int × Nat × Nat)) (i : Nat) (hi : i < ts.length) (j : Nat) (hj : j < 3) (v : Value) (t' : Int × Nat × Nat) (ht : (tc ts[i]).set j v = tc t') : (tcs ts).set (i * 3 + j) v = tcs (ts.set i t') := by
  have e : ts = ts.take i ++ ts[i] :: ts.drop (i + 1) := by rw [List.getElem_cons_drop, List.take_append_drop]
  have hl : (tcs (ts.take i)).length = i * 3 := by rw [tcs_length, List.length_take, Nat.min_eq_left (by omega)]
  have e2 : tcs ts = tcs (ts.take i) ++ (tc ts[i] ++ tcs (ts.drop (i + 1))) := by
    conv => lhs; rw [e]
    rw [tcs_append]; rfl
  have e3 : ts.set i t' = ts.take i ++ t' :: ts.drop (i + 1) := by rw [List.set_eq_take_append_cons_drop, if_pos hi]
  rw [e2, e3, tcs_append, List.set_append_right _ _ (by omega), hl, Nat.add_sub_cancel_left, List.set_append_left _ _ (by simp [tc]; omega), ht]; rfl
theorem tcs_set1 (ts : List (Int × Nat × Nat)) (i : Nat) (hi : i < ts.length) (x : Nat) : (tcs ts).set (i * 3 + 1) (.int .i64 (x : Int)) = tcs (ts.set i (ts[i].1, x, ts[i].2.2)) := tcs_put ts i hi 1 (by omega) _ _ rfl
theorem tcs_set2' (ts : List (Int × Nat × Nat)) (i : Nat) (hi : i < ts.length) (r : Int) (f t : Nat) (he : ts[i] = (r, f, t)) {x : Nat} : (tcs ts).set (i * 3 + 2) (.int .i64 (x : Int)) = tcs (ts.set i (r, f, x)) := tcs_put ts i hi 2 (by omega) _ _ (by rw [he]; rfl)
/-- The first ones are shifted. -/
def shf (a : Nat) (ts : List (Int × Nat × Nat)) (i : Nat) : List (Int × Nat × Nat) := (ts.take i).map (sh a) ++ ts.drop i
theorem shf_zero (a : Nat) (ts : List (Int × Nat × Nat)) : shf a ts 0 = ts := by simp [shf]
theorem shf_all (a : Nat) (ts : List (Int × Nat × Nat)) : shf a ts ts.length = ts.map (sh a) := by simp [shf]
theorem shf_length (a : Nat) (ts : List (Int × Nat × Nat)) (i : Nat) : (shf a ts i).length = ts.length := by simp [shf]; omega
theorem shf_at (a : Nat) (ts : List (Int × Nat × Nat)) (i : Nat) (hi : i < ts.length) (h : i < (shf a ts i).length) : (shf a ts i)[i] = ts[i] := by
  have : (shf a ts i)[i]? = ts[i]? := by
    show ((ts.take i).map (sh a) ++ ts.drop i)[i]? = _
    rw [List.getElem?_append_right (by simp; omega), List.length_map, List.length_take, Nat.min_eq_left (Nat.le_of_lt hi), Nat.sub_self, List.getElem?_drop, Nat.add_zero]
  rw [List.getElem?_eq_getElem h, List.getElem?_eq_getElem hi] at this
  exact Option.some.inj this
theorem shf_step (a : Nat) (ts : List (Int × Nat × Nat)) (i : Nat) (hi : i < ts.length) (h : i < (shf a ts i).length) : (shf a ts i).set i ((shf a ts i)[i].1, a + (shf a ts i)[i].2.1, a + (shf a ts i)[i].2.2) = shf a ts (i + 1) := by
  rw [shf_at a ts i hi h]
  unfold shf
  rw [List.set_append_right _ _ (by simp; omega), List.length_map, List.length_take, Nat.min_eq_left (Nat.le_of_lt hi), Nat.sub_self, List.drop_eq_getElem_cons hi, List.set_cons_zero, List.take_succ_eq_append_getElem hi, List.map_append]
  simp [sh]
structure RF1 (w w3 : World) (n : Nat) (R : Nat → Nat → Int) (l : List Value) (ta : Option Addr) (tc : Nat) (b0 : ByteArray) (b1 ln : Nat) (bad : Int) (cs : List Value) (ra2 : Option Addr) (rc2 : Nat) (va : Option Addr) (vc : Nat) (d : Nat → Bool) (x7 x8 x11 x12 x13 x14 x15 x16 x17 x18 : Value) (W : World) : Prop where
  f0 : d 0 = true → x12 = (.agg l.toArray)
  f1 : d 1 = true → x13 = (.agg #[.slice ra2 n rc2, .slice ta n tc])
  f2 : d 2 = true → x14 = (.pointer (some ⟨w.heap.size + 1, 1, none⟩))
  f3 : d 3 = true → x15 = (.string b0)
  f4 : d 4 = true → x16 = (.tuple #[.slice va ln vc, .int .i64 bad])
  f5 : d 5 = true → x11 = (.tuple #[.slice va ln vc, .int .i64 bad])
  f6 : d 6 = true → x17 = (.slice va ln vc)
  f7 : d 7 = true → x18 = (.int .i64 bad)
  f8 : d 8 = true → x7 = (.slice va ln vc)
  f9 : d 9 = true → x8 = (.int .i64 bad)
  o5_4 : d 5 = true → d 4 = true
  o6_5 : d 6 = true → d 5 = true
  o8_6 : d 8 = true → d 6 = true
  kp : Below w3.heap.size w3 W
  a1 : d 1 = true → Rw W (.slice ra2 n rc2) n R
  a4 : d 4 = true → W.ownsRow w3.heap.size 37 3 (.slice va ln vc) ln cs

structure RF6 (w wr : World) (B b1 gq ln vc i at0 : Nat) (q : Nat) (fv : Int) (cs : List Value) (d : Nat → Bool) (x31 x32 x33 x34 x35 x36 x37 x38 x39 x40 : Value) (W : World) : Prop where
  f0 : d 0 = true → x31 = (.slice (some ⟨gq, 0, none⟩) ln vc)
  f1 : d 1 = true → x32 = (.int .i64 (i : Int))
  f2 : d 2 = true → x33 = (.pointer (some ⟨gq, i * 3, none⟩))
  f3 : d 3 = true → x34 = (.pointer (some ⟨gq, i * 3 + 1, none⟩))
  f4 : d 4 = true → x35 = (.int .i64 fv)
  f5 : d 5 = true → x36 = (.pointer (some ⟨w.heap.size + 1, 0, none⟩))
  f6 : d 6 = true → x37 = (.int .i64 (at0 : Int))
  f7 : d 7 = true → x38 = (.int .i64 (fv + (at0 : Int)))
  f8 : d 8 = true → x39 = (.pointer (some ⟨gq, i * 3, none⟩))
  f9 : d 9 = true → x40 = (.pointer (some ⟨gq, i * 3 + 1, none⟩))
  f10 : d 10 = true → True
  o7_4 : d 7 = true → d 4 = true
  q10_7 : d 10 = true → d 7 = true
  kp : Below B wr W
  rd : d 10 = false → W.ownsRow B 37 3 (.slice (some ⟨gq, 0, none⟩) ln vc) ln cs
  fin : d 10 = true → W.ownsRow B 37 3 (.slice (some ⟨gq, 0, none⟩) ln vc) ln (cs.set q (.int .i64 (fv + (at0 : Int))))

structure RF7 (w wr : World) (B b1 gq ln vc i at0 : Nat) (q : Nat) (fv : Int) (cs : List Value) (d : Nat → Bool) (x41 x42 x43 x44 x45 x46 x47 x48 x49 x50 : Value) (W : World) : Prop where
  f0 : d 0 = true → x41 = (.slice (some ⟨gq, 0, none⟩) ln vc)
  f1 : d 1 = true → x42 = (.int .i64 (i : Int))
  f2 : d 2 = true → x43 = (.pointer (some ⟨gq, i * 3, none⟩))
  f3 : d 3 = true → x44 = (.pointer (some ⟨gq, i * 3 + 2, none⟩))
  f4 : d 4 = true → x45 = (.int .i64 fv)
  f5 : d 5 = true → x46 = (.pointer (some ⟨w.heap.size + 1, 0, none⟩))
  f6 : d 6 = true → x47 = (.int .i64 (at0 : Int))
  f7 : d 7 = true → x48 = (.int .i64 (fv + (at0 : Int)))
  f8 : d 8 = true → x49 = (.pointer (some ⟨gq, i * 3, none⟩))
  f9 : d 9 = true → x50 = (.pointer (some ⟨gq, i * 3 + 2, none⟩))
  f10 : d 10 = true → True
  o7_4 : d 7 = true → d 4 = true
  q10_7 : d 10 = true → d 7 = true
  kp : Below B wr W
  rd : d 10 = false → W.ownsRow B 37 3 (.slice (some ⟨gq, 0, none⟩) ln vc) ln cs
  fin : d 10 = true → W.ownsRow B 37 3 (.slice (some ⟨gq, 0, none⟩) ln vc) ln (cs.set q (.int .i64 (fv + (at0 : Int))))

set_option maxHeartbeats 8000000 in
set_option maxRecDepth 20000 in
theorem refEnd_ok (O : Nat → Nat) (nv tv : Value) (n : Nat) (L : Nat → Nat) (X : Nat → Nat → Int) (T : Nat → Int) (at0 : Nat) (b0 : ByteArray) (w : World) (hx : Nx w nv n L X) (ht : Ts w tv n T) (hok : chkP n n O L X T = 0) (ha : at0 ≤ 1099511627776) (hb : b0.size ≤ 64) :
    Calls Try.prog 7 #[.agg (pl O nv tv).toArray, .agg #[.int .i64 (at0 : Int), .string b0, .int .i64 0]] w fun e w' => HAns (endAns at0 b0.size (Dfa.all (RR n O X) T b0.data.toList)) w e (errOf (Dfa.all (RR n O X) T b0.data.toList).2) w' := by
  obtain ⟨hn0, -⟩ := chkP_zero hok
  obtain ⟨ta, tc, rfl, -⟩ := id ht
  have HLN : Hid ((pl O nv (.slice ta n tc)).length = 258) := pl_length _ _ _
  have HWD0 : Hid (∀ W, Below w.heap.size w W → Calls Try.prog 17 #[.agg (pl O nv (.slice ta n tc)).toArray] W fun e w' => ∃ rv, e = .returned (.agg #[rv, .slice ta n tc]) ∧ Rw w' rv n (RR n O X) ∧ (∀ q, rv.ownBlock = some q → W.heap.size ≤ q) ∧ Below W.heap.size W w') := fun W hB => wide_ok O nv (.slice ta n tc) n L X T W (hx.below hB (Nat.le_refl _)) (ht.below hB (Nat.le_refl _)) hok
  have HTO0 : Hid (∀ W ra rc, Below w.heap.size w W → Rw W (.slice ra n rc) n (RR n O X) → Calls Try.prog 16 #[.agg #[.slice ra n rc, .slice ta n tc], .string b0] W fun e w' => ∃ v, e = .returned (.tuple #[v, .int .i64 (badOf (Dfa.all (RR n O X) T b0.data.toList).2)]) ∧ w'.ownsRow W.heap.size 37 3 v (Dfa.all (RR n O X) T b0.data.toList).1.length (tcs (Dfa.all (RR n O X) T b0.data.toList).1) ∧ Below W.heap.size W w') := fun W ra rc hB hr => tokens_ok (.slice ra n rc) (.slice ta n tc) n (RR n O X) T b0 W hr (ht.below hB (Nat.le_refl _)) hn0 (rowsOk_RR hok) (by omega)
  have HTS0 : Hid (∀ i (h : i < (Dfa.all (RR n O X) T b0.data.toList).1.length), ((Dfa.all (RR n O X) T b0.data.toList).1[i]).2.1 ≤ 64 ∧ ((Dfa.all (RR n O X) T b0.data.toList).1[i]).2.2 ≤ 64) := fun i h => by
    have := all_bound (RR n O X) T b0.data.toList _ (List.getElem_mem h)
    rw [data_size] at this
    omega
  have HPB0 : Hid (∀ p, (Dfa.all (RR n O X) T b0.data.toList).2 = some p → p ≤ 64) := fun p hp => by
    have := all_place (RR n O X) T b0.data.toList p hp
    rw [data_size] at this
    omega
  have HLS0 : Hid ((Dfa.all (RR n O X) T b0.data.toList).1.length ≤ 64) := by have := all_few (RR n O X) T b0.data.toList; rw [data_size] at this; show _ ≤ _; omega
  obtain ⟨R, HR⟩ : ∃ q, Hid (RR n O X = q) := ⟨_, (rfl : _ = _)⟩
  rw [HR.out] at HWD0 HTO0 HTS0 HPB0 HLS0 ⊢
  obtain ⟨l, HLL⟩ : ∃ l, Hid (pl O nv (.slice ta n tc) = l) := ⟨_, (rfl : _ = _)⟩
  rw [HLL.out] at HLN HWD0 ⊢
  have HSI : Hid ((Try.prog.info? 26).map (·.size) = some l.length) := by show _ = _; rw [HLN.out]; exact size26
  obtain ⟨al, HAL0⟩ : ∃ q, Hid (Dfa.all R T b0.data.toList = q) := ⟨_, (rfl : _ = _)⟩
  rw [HAL0.out] at HTO0 HTS0 HPB0 HLS0 ⊢
  obtain ⟨ts, bo⟩ := al
  simp only at HTO0 HTS0 HPB0 HLS0 ⊢
  have HTS := HTS0
  have HPB := HPB0
  obtain ⟨an, HEA⟩ : ∃ q, Hid (endAns at0 b0.size (ts, bo) = q) := ⟨_, (rfl : _ = _)⟩
  rw [HEA.out]
  have HAL : Hid ((ts, bo) = (ts, bo)) := (rfl : _ = _)
  obtain ⟨er, HER⟩ : ∃ q, Hid (errOf bo = q) := ⟨_, (rfl : _ = _)⟩
  rw [HER.out]
  obtain ⟨bad, HBAD⟩ : ∃ q, Hid (badOf bo = q) := ⟨_, (rfl : _ = _)⟩
  rw [HBAD.out] at HTO0
  have HLE0 : Hid (ts.length = ts.length) := (rfl : _ = _)
  obtain ⟨ln, HLE⟩ : ∃ q, Hid (q = ts.length) := ⟨_, (rfl : _ = _)⟩
  rw [← HLE.out] at HTO0
  have HLS : Hid (ln ≤ 64) := by show _ ≤ _; rw [HLE.out]; exact HLS0.out
  obtain ⟨cs, HCS⟩ : ∃ q, Hid (tcs ts = q) := ⟨_, (rfl : _ = _)⟩
  rw [HCS.out] at HTO0
  obtain ⟨w3, HW3⟩ : ∃ q, Hid (((w.alloc (Obj.cells l.toArray 26)).alloc (Obj.cells #[.int .i64 (at0 : Int), .string b0, .int .i64 0] 29)).alloc (Obj.cells #[.int .i64 0, .string ⟨#[]⟩, .int .i64 0] 29) = q) := ⟨_, (rfl : _ = _)⟩
  have hB3 : Below w.heap.size w w3 := by rw [← HW3.out]; exact (((Below.refl _ _).alloc (Nat.le_refl _) _).alloc (by simp) _).alloc (by simp <;> omega) _
  have hg0 : w3.rangeAt w.heap.size 0 l := by
    rw [← HW3.out]
    intro j u hu
    exact Go.Lib.cell?_alloc_some _ (Go.Lib.cell?_alloc_some _ (range_block w l 26 j u hu))
  have hg1 : w3.heap[w.heap.size + 1]? = some (.cells #[.int .i64 (at0 : Int), .string b0, .int .i64 0] 29 (0, 0)) := by
    have := heap_alloc_new (w.alloc (Obj.cells l.toArray 26)) (Obj.cells #[.int .i64 (at0 : Int), .string b0, .int .i64 0] 29)
    rw [World.size_alloc] at this
    rw [← HW3.out]; exact (Below.heap_alloc _ _ _ (by simp)).trans this
  have hg2 : w3.heap[w.heap.size + 2]? = some (.cells #[.int .i64 0, .string ⟨#[]⟩, .int .i64 0] 29 (0, 0)) := by
    have := heap_alloc_new ((w.alloc (Obj.cells l.toArray 26)).alloc (Obj.cells #[.int .i64 (at0 : Int), .string b0, .int .i64 0] 29)) (Obj.cells #[.int .i64 0, .string ⟨#[]⟩, .int .i64 0] 29)
    rw [World.size_alloc, World.size_alloc] at this
    rw [← HW3.out]; exact this
  have hs3 : w3.heap.size = w.heap.size + 3 := by rw [← HW3.out]; simp
  have HG3 : Hid (w3.rangeAt w.heap.size 0 l ∧ w3.heap[w.heap.size + 1]? = some (.cells #[.int .i64 (at0 : Int), .string b0, .int .i64 0] 29 (0, 0)) ∧ w3.heap[w.heap.size + 2]? = some (.cells #[.int .i64 0, .string ⟨#[]⟩, .int .i64 0] 29 (0, 0)) ∧ w3.heap.size = w.heap.size + 3 ∧ Below w.heap.size w w3) := ⟨hg0, hg1, hg2, hs3, hB3⟩
  have HW1 : Hid (w.heap.size + 1 < w3.heap.size) := by show _ < _; omega
  have hc0 := block_cell hg1 0
  have hc1 := block_cell hg1 1
  simp only [List.getElem?_toArray, List.getElem?_cons_zero, List.getElem?_cons_succ] at hc0 hc1
  have HX0 : Hid (w3.cell? ⟨w.heap.size + 1, 0, none⟩ = some (.int .i64 (at0 : Int))) := hc0
  have HX1 : Hid (w3.cell? ⟨w.heap.size + 1, 1, none⟩ = some (.string b0)) := hc1
  have HWD : Hid (∀ W, Below w3.heap.size w3 W → Calls Try.prog 17 #[.agg l.toArray] W fun e w' => ∃ rv, e = .returned (.agg #[rv, .slice ta n tc]) ∧ Rw w' rv n R ∧ (∀ q, rv.ownBlock = some q → W.heap.size ≤ q) ∧ Below W.heap.size W w') := fun W hB => HWD0.out W (hB3.trans (hB.mono hB3.size))
  have HTO : Hid (∀ W ra rc, Below w3.heap.size w3 W → Rw W (.slice ra n rc) n R → Calls Try.prog 16 #[.agg #[.slice ra n rc, .slice ta n tc], .string b0] W fun e w' => ∃ v, e = .returned (.tuple #[v, .int .i64 bad]) ∧ w'.ownsRow W.heap.size 37 3 v ln cs ∧ Below W.heap.size W w') := fun W ra rc hB hr => HTO0.out W ra rc (hB3.trans (hB.mono hB3.size)) hr
  clear hx ht hok hg0 hg1 hg2 hs3 hB3 hc0 hc1 HWD0 HTO0 HTS0 HPB0 HLE0 hn0
  go_enter Try.func7, Try.ntmps7
  go_upto_region 1 with fail
  rw [HW3.out]
  clear HW3
  go_wp2_with fail
  refine wp_region_free mixed (fun a0 d a W => ∃ (ra2 : Option Addr) (rc2 : Nat) (va : Option Addr) (vc : Nat) (x7 x8 x11 x12 x13 x14 x15 x16 x17 x18 : Value), a = ((((((((((a0.put (some 7) x7).put (some 8) x8).put (some 11) x11).put (some 12) x12).put (some 13) x13).put (some 14) x14).put (some 15) x15).put (some 16) x16).put (some 17) x17).put (some 18) x18) ∧ Hid (RF1 w w3 n R l ta tc b0 (w.heap.size + 1) ln bad cs ra2 rc2 va vc d x7 x8 x11 x12 x13 x14 x15 x16 x17 x18 W)) (by kernel_rfl) ⟨none, 0, none, 0, undef, undef, undef, undef, undef, undef, undef, undef, undef, undef, by simp only [Act.put, List.setIfInBounds_toArray, List.set_cons_zero, List.set_cons_succ], ?_⟩ ?_ ?_
  · exact ⟨fun h => no_way h, fun h => no_way h, fun h => no_way h, fun h => no_way h, fun h => no_way h, fun h => no_way h, fun h => no_way h, fun h => no_way h, fun h => no_way h, fun h => no_way h, fun h => no_way h, fun h => no_way h, fun h => no_way h, (Below.refl _ _).drew, fun h => no_way h, fun h => no_way h⟩
  · simp only [StepAll, and_true]
    refine ⟨?_, ?_, ?_, ?_, ?_, ?_, ?_, ?_, ?_, ?_⟩
    · intro d a W hI hd hdep
      obtain ⟨ra2, rc2, va, vc, x7, x8, x11, x12, x13, x14, x15, x16, x17, x18, rfl, hF⟩ := hI
      clear hdep hd
      intro K hK
      simp only [Act.put, List.setIfInBounds_toArray, List.set_cons_zero, List.set_cons_succ]
      refine wp_load_mid 26 _ rfl w.heap.size 0 rfl l _ (fun q v hv => (hF.out.kp.cell (p := ⟨w.heap.size, 0 + q, none⟩) (by have := HG3.out.2.2.2.1; simp; omega)).trans (HG3.out.1 q v hv)) Try.underlying26 rfl HSI.out ?_
      simp only [Act.put, List.setIfInBounds_toArray, List.set_cons_zero, List.set_cons_succ]
      refine hK.out _ _ ⟨ra2, rc2, va, vc, x7, x8, x11, (.agg l.toArray), x13, x14, x15, x16, x17, x18, by simp only [Act.put, List.setIfInBounds_toArray, List.set_cons_zero, List.set_cons_succ], ?_⟩
      exact ⟨fun _ => rfl, fun h => hF.out.f1 (by simpa using h), fun h => hF.out.f2 (by simpa using h), fun h => hF.out.f3 (by simpa using h), fun h => hF.out.f4 (by simpa using h), fun h => hF.out.f5 (by simpa using h), fun h => hF.out.f6 (by simpa using h), fun h => hF.out.f7 (by simpa using h), fun h => hF.out.f8 (by simpa using h), fun h => hF.out.f9 (by simpa using h), fun h => by have := hF.out.o5_4 (by simpa using h); simpa using this, fun h => by have := hF.out.o6_5 (by simpa using h); simpa using this, fun h => by have := hF.out.o8_6 (by simpa using h); simpa using this, hF.out.kp, fun h => hF.out.a1 (by simpa using h), fun h => hF.out.a4 (by simpa using h)⟩
    · intro d a W hI hd hdep
      obtain ⟨ra2, rc2, va, vc, x7, x8, x11, x12, x13, x14, x15, x16, x17, x18, rfl, hF⟩ := hI
      have hd0 : d 0 = true := dep_of hdep 0 (by kernel_rfl)
      obtain rfl := hF.out.f0 hd0
      have hcl := HWD.out W hF.out.kp
      clear hdep hd hd0
      intro K hK
      simp only [Act.put, List.setIfInBounds_toArray, List.set_cons_zero, List.set_cons_succ]
      go_simp
      refine hcl.mono ?_
      rintro _ W1 ⟨rv5, rfl, hrw, -, hb1⟩
      obtain ⟨ra5, rc5, hre, -⟩ := id hrw
      subst hre
      have HRW5 : Hid (Rw W1 (.slice ra5 n rc5) n R) := hrw
      clear hcl hrw
      go_simp
      refine hK.out _ _ ⟨ra5, rc5, va, vc, x7, x8, x11, (.agg l.toArray), (.agg #[.slice ra5 n rc5, .slice ta n tc]), x14, x15, x16, x17, x18, by simp only [Act.put, List.setIfInBounds_toArray, List.set_cons_zero, List.set_cons_succ], ?_⟩
      exact ⟨fun h => hF.out.f0 (by simpa using h), fun _ => rfl, fun h => hF.out.f2 (by simpa using h), fun h => hF.out.f3 (by simpa using h), fun h => hF.out.f4 (by simpa using h), fun h => hF.out.f5 (by simpa using h), fun h => hF.out.f6 (by simpa using h), fun h => hF.out.f7 (by simpa using h), fun h => hF.out.f8 (by simpa using h), fun h => hF.out.f9 (by simpa using h), fun h => by have := hF.out.o5_4 (by simpa using h); simpa using this, fun h => by have := hF.out.o6_5 (by simpa using h); simpa using this, fun h => by have := hF.out.o8_6 (by simpa using h); simpa using this, hF.out.kp.trans (hb1.mono hF.out.kp.size), fun _ => HRW5.out, fun h => own_same (hF.out.a4 (by simpa using h)) fun k hk => hb1.block k ((hF.out.a4 (by simpa using h)).lt k hk).2⟩
    · intro d a W hI hd hdep
      obtain ⟨ra2, rc2, va, vc, x7, x8, x11, x12, x13, x14, x15, x16, x17, x18, rfl, hF⟩ := hI
      clear hdep hd
      intro K hK
      simp only [Act.put, List.setIfInBounds_toArray, List.set_cons_zero, List.set_cons_succ]
      go_simp
      refine hK.out _ _ ⟨ra2, rc2, va, vc, x7, x8, x11, x12, x13, (.pointer (some ⟨w.heap.size + 1, 1, none⟩)), x15, x16, x17, x18, by simp only [Act.put, List.setIfInBounds_toArray, List.set_cons_zero, List.set_cons_succ], ?_⟩
      exact ⟨fun h => hF.out.f0 (by simpa using h), fun h => hF.out.f1 (by simpa using h), fun _ => rfl, fun h => hF.out.f3 (by simpa using h), fun h => hF.out.f4 (by simpa using h), fun h => hF.out.f5 (by simpa using h), fun h => hF.out.f6 (by simpa using h), fun h => hF.out.f7 (by simpa using h), fun h => hF.out.f8 (by simpa using h), fun h => hF.out.f9 (by simpa using h), fun h => by have := hF.out.o5_4 (by simpa using h); simpa using this, fun h => by have := hF.out.o6_5 (by simpa using h); simpa using this, fun h => by have := hF.out.o8_6 (by simpa using h); simpa using this, hF.out.kp, fun h => hF.out.a1 (by simpa using h), fun h => hF.out.a4 (by simpa using h)⟩
    · intro d a W hI hd hdep
      obtain ⟨ra2, rc2, va, vc, x7, x8, x11, x12, x13, x14, x15, x16, x17, x18, rfl, hF⟩ := hI
      have hd2 : d 2 = true := dep_of hdep 2 (by kernel_rfl)
      obtain rfl := hF.out.f2 hd2
      have ya := (hF.out.kp.cell (p := ⟨w.heap.size + 1, 1, none⟩) (by have := HG3.out.2.2.2.1; simp; omega)).trans HX1.out
      clear hdep hd hd2
      intro K hK
      simp only [Act.put, List.setIfInBounds_toArray, List.set_cons_zero, List.set_cons_succ]
      go_simp
      refine hK.out _ _ ⟨ra2, rc2, va, vc, x7, x8, x11, x12, x13, (.pointer (some ⟨w.heap.size + 1, 1, none⟩)), (.string b0), x16, x17, x18, by simp only [Act.put, List.setIfInBounds_toArray, List.set_cons_zero, List.set_cons_succ], ?_⟩
      exact ⟨fun h => hF.out.f0 (by simpa using h), fun h => hF.out.f1 (by simpa using h), fun h => hF.out.f2 (by simpa using h), fun _ => rfl, fun h => hF.out.f4 (by simpa using h), fun h => hF.out.f5 (by simpa using h), fun h => hF.out.f6 (by simpa using h), fun h => hF.out.f7 (by simpa using h), fun h => hF.out.f8 (by simpa using h), fun h => hF.out.f9 (by simpa using h), fun h => by have := hF.out.o5_4 (by simpa using h); simpa using this, fun h => by have := hF.out.o6_5 (by simpa using h); simpa using this, fun h => by have := hF.out.o8_6 (by simpa using h); simpa using this, hF.out.kp, fun h => hF.out.a1 (by simpa using h), fun h => hF.out.a4 (by simpa using h)⟩
    · intro d a W hI hd hdep
      obtain ⟨ra2, rc2, va, vc, x7, x8, x11, x12, x13, x14, x15, x16, x17, x18, rfl, hF⟩ := hI
      have hd1 : d 1 = true := dep_of hdep 1 (by kernel_rfl)
      have hd3 : d 3 = true := dep_of hdep 3 (by kernel_rfl)
      obtain rfl := hF.out.f1 hd1
      obtain rfl := hF.out.f3 hd3
      have hcl := HTO.out W ra2 rc2 hF.out.kp (hF.out.a1 hd1)
      have HN5 : Hid (d 5 = false) := no_later hF.out.o5_4 hd
      have HN6 : Hid (d 6 = false) := no_later hF.out.o6_5 HN5.out
      have HN8 : Hid (d 8 = false) := no_later hF.out.o8_6 HN6.out
      clear hdep hd hd1 hd3
      intro K hK
      simp only [Act.put, List.setIfInBounds_toArray, List.set_cons_zero, List.set_cons_succ]
      go_simp
      refine hcl.mono ?_
      rintro _ W1 ⟨v5, rfl, hown, hb1⟩
      obtain ⟨va5, vc5, rfl⟩ := own_form hown
      have HOW : Hid (W1.ownsRow w3.heap.size 37 3 (.slice va5 ln vc5) ln cs) := own_less hown hF.out.kp.size
      clear hcl hown
      go_simp
      refine hK.out _ _ ⟨ra2, rc2, va5, vc5, x7, x8, x11, x12, (.agg #[.slice ra2 n rc2, .slice ta n tc]), x14, (.string b0), (.tuple #[.slice va5 ln vc5, .int .i64 bad]), x17, x18, by simp only [Act.put, List.setIfInBounds_toArray, List.set_cons_zero, List.set_cons_succ], ?_⟩
      exact ⟨fun h => hF.out.f0 (by simpa using h), fun h => hF.out.f1 (by simpa using h), fun h => hF.out.f2 (by simpa using h), fun h => hF.out.f3 (by simpa using h), fun _ => rfl, fun h => by have := HN5.out; simp [this] at h, fun h => by have := HN6.out; simp [this] at h, fun h => hF.out.f7 (by simpa using h), fun h => by have := HN8.out; simp [this] at h, fun h => hF.out.f9 (by simpa using h), fun _ => by simp, fun h => by have := hF.out.o6_5 (by simpa using h); simpa using this, fun h => by have := hF.out.o8_6 (by simpa using h); simpa using this, hF.out.kp.trans (hb1.mono hF.out.kp.size), fun h => (hF.out.a1 (by simpa using h)).below hb1 (Nat.le_refl _), fun _ => HOW.out⟩
    · intro d a W hI hd hdep
      obtain ⟨ra2, rc2, va, vc, x7, x8, x11, x12, x13, x14, x15, x16, x17, x18, rfl, hF⟩ := hI
      have hd4 : d 4 = true := dep_of hdep 4 (by kernel_rfl)
      obtain rfl := hF.out.f4 hd4
      have e5_4 := hd4
      clear hdep hd hd4
      intro K hK
      simp only [Act.put, List.setIfInBounds_toArray, List.set_cons_zero, List.set_cons_succ]
      go_simp
      refine hK.out _ _ ⟨ra2, rc2, va, vc, x7, x8, (.tuple #[.slice va ln vc, .int .i64 bad]), x12, x13, x14, x15, (.tuple #[.slice va ln vc, .int .i64 bad]), x17, x18, by simp only [Act.put, List.setIfInBounds_toArray, List.set_cons_zero, List.set_cons_succ], ?_⟩
      exact ⟨fun h => hF.out.f0 (by simpa using h), fun h => hF.out.f1 (by simpa using h), fun h => hF.out.f2 (by simpa using h), fun h => hF.out.f3 (by simpa using h), fun h => hF.out.f4 (by simpa using h), fun _ => rfl, fun h => hF.out.f6 (by simpa using h), fun h => hF.out.f7 (by simpa using h), fun h => hF.out.f8 (by simpa using h), fun h => hF.out.f9 (by simpa using h), fun _ => by simpa using e5_4, fun _ => by simp, fun h => by have := hF.out.o8_6 (by simpa using h); simpa using this, hF.out.kp, fun h => hF.out.a1 (by simpa using h), fun h => hF.out.a4 (by simpa using h)⟩
    · intro d a W hI hd hdep
      obtain ⟨ra2, rc2, va, vc, x7, x8, x11, x12, x13, x14, x15, x16, x17, x18, rfl, hF⟩ := hI
      have hd5 : d 5 = true := dep_of hdep 5 (by kernel_rfl)
      obtain rfl := hF.out.f5 hd5
      have e6_5 := hd5
      clear hdep hd hd5
      intro K hK
      simp only [Act.put, List.setIfInBounds_toArray, List.set_cons_zero, List.set_cons_succ]
      go_simp
      refine hK.out _ _ ⟨ra2, rc2, va, vc, x7, x8, (.tuple #[.slice va ln vc, .int .i64 bad]), x12, x13, x14, x15, x16, (.slice va ln vc), x18, by simp only [Act.put, List.setIfInBounds_toArray, List.set_cons_zero, List.set_cons_succ], ?_⟩
      exact ⟨fun h => hF.out.f0 (by simpa using h), fun h => hF.out.f1 (by simpa using h), fun h => hF.out.f2 (by simpa using h), fun h => hF.out.f3 (by simpa using h), fun h => hF.out.f4 (by simpa using h), fun h => hF.out.f5 (by simpa using h), fun _ => rfl, fun h => hF.out.f7 (by simpa using h), fun h => hF.out.f8 (by simpa using h), fun h => hF.out.f9 (by simpa using h), fun h => by have := hF.out.o5_4 (by simpa using h); simpa using this, fun _ => by simpa using e6_5, fun _ => by simp, hF.out.kp, fun h => hF.out.a1 (by simpa using h), fun h => hF.out.a4 (by simpa using h)⟩
    · intro d a W hI hd hdep
      obtain ⟨ra2, rc2, va, vc, x7, x8, x11, x12, x13, x14, x15, x16, x17, x18, rfl, hF⟩ := hI
      have hd5 : d 5 = true := dep_of hdep 5 (by kernel_rfl)
      obtain rfl := hF.out.f5 hd5
      clear hdep hd hd5
      intro K hK
      simp only [Act.put, List.setIfInBounds_toArray, List.set_cons_zero, List.set_cons_succ]
      go_simp
      refine hK.out _ _ ⟨ra2, rc2, va, vc, x7, x8, (.tuple #[.slice va ln vc, .int .i64 bad]), x12, x13, x14, x15, x16, x17, (.int .i64 bad), by simp only [Act.put, List.setIfInBounds_toArray, List.set_cons_zero, List.set_cons_succ], ?_⟩
      exact ⟨fun h => hF.out.f0 (by simpa using h), fun h => hF.out.f1 (by simpa using h), fun h => hF.out.f2 (by simpa using h), fun h => hF.out.f3 (by simpa using h), fun h => hF.out.f4 (by simpa using h), fun h => hF.out.f5 (by simpa using h), fun h => hF.out.f6 (by simpa using h), fun _ => rfl, fun h => hF.out.f8 (by simpa using h), fun h => hF.out.f9 (by simpa using h), fun h => by have := hF.out.o5_4 (by simpa using h); simpa using this, fun h => by have := hF.out.o6_5 (by simpa using h); simpa using this, fun h => by have := hF.out.o8_6 (by simpa using h); simpa using this, hF.out.kp, fun h => hF.out.a1 (by simpa using h), fun h => hF.out.a4 (by simpa using h)⟩
    · intro d a W hI hd hdep
      obtain ⟨ra2, rc2, va, vc, x7, x8, x11, x12, x13, x14, x15, x16, x17, x18, rfl, hF⟩ := hI
      have hd6 : d 6 = true := dep_of hdep 6 (by kernel_rfl)
      obtain rfl := hF.out.f6 hd6
      have e8_6 := hd6
      clear hdep hd hd6
      intro K hK
      simp only [Act.put, List.setIfInBounds_toArray, List.set_cons_zero, List.set_cons_succ]
      go_simp
      refine hK.out _ _ ⟨ra2, rc2, va, vc, (.slice va ln vc), x8, x11, x12, x13, x14, x15, x16, (.slice va ln vc), x18, by simp only [Act.put, List.setIfInBounds_toArray, List.set_cons_zero, List.set_cons_succ], ?_⟩
      exact ⟨fun h => hF.out.f0 (by simpa using h), fun h => hF.out.f1 (by simpa using h), fun h => hF.out.f2 (by simpa using h), fun h => hF.out.f3 (by simpa using h), fun h => hF.out.f4 (by simpa using h), fun h => hF.out.f5 (by simpa using h), fun h => hF.out.f6 (by simpa using h), fun h => hF.out.f7 (by simpa using h), fun _ => rfl, fun h => hF.out.f9 (by simpa using h), fun h => by have := hF.out.o5_4 (by simpa using h); simpa using this, fun h => by have := hF.out.o6_5 (by simpa using h); simpa using this, fun _ => by simpa using e8_6, hF.out.kp, fun h => hF.out.a1 (by simpa using h), fun h => hF.out.a4 (by simpa using h)⟩
    · intro d a W hI hd hdep
      obtain ⟨ra2, rc2, va, vc, x7, x8, x11, x12, x13, x14, x15, x16, x17, x18, rfl, hF⟩ := hI
      have hd7 : d 7 = true := dep_of hdep 7 (by kernel_rfl)
      obtain rfl := hF.out.f7 hd7
      clear hdep hd hd7
      intro K hK
      simp only [Act.put, List.setIfInBounds_toArray, List.set_cons_zero, List.set_cons_succ]
      go_simp
      refine hK.out _ _ ⟨ra2, rc2, va, vc, x7, (.int .i64 bad), x11, x12, x13, x14, x15, x16, x17, (.int .i64 bad), by simp only [Act.put, List.setIfInBounds_toArray, List.set_cons_zero, List.set_cons_succ], ?_⟩
      exact ⟨fun h => hF.out.f0 (by simpa using h), fun h => hF.out.f1 (by simpa using h), fun h => hF.out.f2 (by simpa using h), fun h => hF.out.f3 (by simpa using h), fun h => hF.out.f4 (by simpa using h), fun h => hF.out.f5 (by simpa using h), fun h => hF.out.f6 (by simpa using h), fun h => hF.out.f7 (by simpa using h), fun h => hF.out.f8 (by simpa using h), fun _ => rfl, fun h => by have := hF.out.o5_4 (by simpa using h); simpa using this, fun h => by have := hF.out.o6_5 (by simpa using h); simpa using this, fun h => by have := hF.out.o8_6 (by simpa using h); simpa using this, hF.out.kp, fun h => hF.out.a1 (by simpa using h), fun h => hF.out.a4 (by simpa using h)⟩
  · intro d a W hI hall
    obtain ⟨ra2, rc2, va, vc, x7, x8, x11, x12, x13, x14, x15, x16, x17, x18, rfl, hF⟩ := hI
    simp only [List.length_cons, List.length_nil] at hall
    obtain rfl := hF.out.f0 (hall 0 (by omega))
    obtain rfl := hF.out.f1 (hall 1 (by omega))
    obtain rfl := hF.out.f2 (hall 2 (by omega))
    obtain rfl := hF.out.f3 (hall 3 (by omega))
    obtain rfl := hF.out.f4 (hall 4 (by omega))
    obtain rfl := hF.out.f5 (hall 5 (by omega))
    obtain rfl := hF.out.f6 (hall 6 (by omega))
    obtain rfl := hF.out.f7 (hall 7 (by omega))
    obtain rfl := hF.out.f8 (hall 8 (by omega))
    obtain rfl := hF.out.f9 (hall 9 (by omega))
    have HOW : Hid (W.ownsRow w3.heap.size 37 3 (.slice va ln vc) ln (tcs (shf at0 ts 0))) := by rw [shf_zero]; rw [HCS.out]; exact hF.out.a4 (hall 4 (by omega))
    have HB0 : Hid (Below w3.heap.size w3 W) := hF.out.kp
    have x0 := (hF.out.kp.cell (p := ⟨w.heap.size + 1, 0, none⟩) HW1.out).trans HX0.out
    have x1 := (hF.out.kp.cell (p := ⟨w.heap.size + 1, 1, none⟩) HW1.out).trans HX1.out
    clear hF hall
    simp only [Act.put, List.setIfInBounds_toArray, List.set_cons_zero, List.set_cons_succ]
    obtain ⟨x3, rfl⟩ : ∃ q, q = W := ⟨_, rfl⟩
    have hwa : IntKind.i64.wrap ((at0 : Int) + (b0.size : Int)) = (at0 : Int) + (b0.size : Int) := by simp only [IntKind.wrap, IntKind.bits, IntKind.signed]; simp; omega
    go_wp2_with fail
    clear x0 x1
    go_loopw [10] (fun z wr => ∃ i : Nat, i ≤ ln ∧ z = .int .i64 (i : Int) ∧ wr.ownsRow w3.heap.size 37 3 (.slice va ln vc) ln (tcs (shf at0 ts i)) ∧ Below w3.heap.size w3 wr) (fun z _ => ln - (intOf z).toNat)
    case atStart => exact ⟨0, by omega, rfl, HOW.out, HB0.out⟩
    case round =>
      clear HOW HB0
      obtain ⟨i, hi, rfl, hown, hbel⟩ := hrel
      have HO0' : Hid (wr.ownsRow w3.heap.size 37 3 (.slice va ln vc) ln (tcs (shf at0 ts i))) := hown
      have HBR : Hid (Below w3.heap.size w3 wr) := hbel
      clear hown hbel
      by_cases hlt : i < ln
      · obtain ⟨gq, vc2, hv, -⟩ := World.ownsRow.form HO0'.out (by omega)
        simp only [Value.slice.injEq] at hv
        obtain ⟨hva, -, hvc⟩ := hv
        subst hva hvc
        obtain ⟨ts1, HT1⟩ : ∃ q, Hid (shf at0 ts i = q) := ⟨_, (rfl : _ = _)⟩
        have hi9 : i < ts.length := by have := HLE.out; omega
        have hil : i < (shf at0 ts i).length := by rw [shf_length]; exact hi9
        obtain ⟨tk, HTK⟩ : ∃ q, Hid ((shf at0 ts i)[i] = q) := ⟨_, (rfl : (shf at0 ts i)[i] = _)⟩
        have HQa : Hid ((tcs (shf at0 ts i))[i * 3 + 1]? = some (.int .i64 (tk.2.1 : Int))) := by show _ = _; rw [(tcs_at _ i hil).2.1, HTK.out]
        have HS1 : Hid ((tcs (shf at0 ts i)).set (i * 3 + 1) (.int .i64 ((tk.2.1 : Int) + (at0 : Int))) = tcs ((shf at0 ts i).set i (tk.1, at0 + tk.2.1, tk.2.2))) := by show _ = _; rw [← HTK.out, show ((((shf at0 ts i)[i]).2.1 : Nat) : Int) + (at0 : Int) = ((at0 + ((shf at0 ts i)[i]).2.1 : Nat) : Int) by omega]; exact tcs_set1 _ i hil _
        have HQb : Hid ((tcs ((shf at0 ts i).set i (tk.1, at0 + tk.2.1, tk.2.2)))[i * 3 + 2]? = some (.int .i64 (tk.2.2 : Int))) := by show _ = _; rw [(tcs_at _ i (by rw [List.length_set]; exact hil)).2.2]; simp
        have HS2 : Hid ((tcs ((shf at0 ts i).set i (tk.1, at0 + tk.2.1, tk.2.2))).set (i * 3 + 2) (.int .i64 ((tk.2.2 : Int) + (at0 : Int))) = tcs (shf at0 ts (i + 1))) := by
          show _ = _
          rw [show ((tk.2.2 : Nat) : Int) + (at0 : Int) = ((at0 + tk.2.2 : Nat) : Int) by omega, tcs_set2' _ i (by rw [List.length_set]; exact hil) tk.1 (at0 + tk.2.1) tk.2.2 (by simp), List.set_set, ← HTK.out, shf_step at0 ts i hi9 hil]
        have HTB : Hid (tk.2.1 ≤ 64 ∧ tk.2.2 ≤ 64) := by have := HTS.out i hi9; rw [← HTK.out, shf_at at0 ts i hi9 hil]; exact this
        rw [HT1.out] at HO0' HQa HS1 HQb HS2
        obtain ⟨ts2, HT2⟩ : ∃ q, Hid (ts1.set i (tk.1, at0 + tk.2.1, tk.2.2) = q) := ⟨_, (rfl : _ = _)⟩
        rw [HT2.out] at HS1 HQb HS2
        have HO0 : Hid (wr.ownsRow w3.heap.size 37 3 (.slice (some ⟨gq, 0, none⟩) ln vc) ln (tcs ts1)) := HO0'.out
        have HI0 : Hid ((0 : Int) ≤ (i : Int) ∧ (i : Int) < (ln : Int)) := ⟨by omega, by omega⟩
        have HB1 : Hid (w.heap.size + 1 < w3.heap.size) := HW1.out
        have HBQ : Hid (w3.heap.size ≤ gq) := (HO0.out.lt gq rfl).1
        have HX0a : Hid (wr.cell? ⟨w.heap.size + 1, 0, none⟩ = some (.int .i64 (at0 : Int))) := (HBR.out.cell (p := ⟨w.heap.size + 1, 0, none⟩) HW1.out).trans HX0.out
        have HWQa : Hid (IntKind.i64.wrap ((tk.2.1 : Int) + (at0 : Int)) = (tk.2.1 : Int) + (at0 : Int)) := by show _ = _; have := HTB.out.1; simp only [IntKind.wrap, IntKind.bits, IntKind.signed]; simp; omega
        have HWQb : Hid (IntKind.i64.wrap ((tk.2.2 : Int) + (at0 : Int)) = (tk.2.2 : Int) + (at0 : Int)) := by show _ = _; have := HTB.out.2; simp only [IntKind.wrap, IntKind.bits, IntKind.signed]; simp; omega
        have hk1 : (i : Int) < (ln : Int) := by omega
        have hls : ln ≤ 64 := HLS.out
        clear HO0' HTK HT1 HT2 HTB hil hi9
        go_wp2_with fail
        refine wp_region_free mixed (fun a0 d a W => ∃ (x31 x32 x33 x34 x35 x36 x37 x38 x39 x40 : Value), a = ((((((((((a0.put (some 31) x31).put (some 32) x32).put (some 33) x33).put (some 34) x34).put (some 35) x35).put (some 36) x36).put (some 37) x37).put (some 38) x38).put (some 39) x39).put (some 40) x40) ∧ Hid (RF6 w wr w3.heap.size (w.heap.size + 1) gq ln vc i at0 (i * 3 + 1) (tk.2.1 : Int) (tcs ts1) d x31 x32 x33 x34 x35 x36 x37 x38 x39 x40 W)) (by kernel_rfl) ⟨u31, u32, u33, u34, u35, u36, u37, u38, u39, u40, by simp only [Act.put, List.setIfInBounds_toArray, List.set_cons_zero, List.set_cons_succ], ?_⟩ ?_ ?_
        · exact ⟨fun h => no_way h, fun h => no_way h, fun h => no_way h, fun h => no_way h, fun h => no_way h, fun h => no_way h, fun h => no_way h, fun h => no_way h, fun h => no_way h, fun h => no_way h, fun _ => trivial, fun h => no_way h, fun h => no_way h, (Below.refl _ _).drew, fun _ => own_same HO0.out fun k hk => rfl, fun h => no_way h⟩
        · simp only [StepAll, and_true]
          refine ⟨?_, ?_, ?_, ?_, ?_, ?_, ?_, ?_, ?_, ?_, ?_⟩
          · intro d a W hI hd hdep
            obtain ⟨x31, x32, x33, x34, x35, x36, x37, x38, x39, x40, rfl, hF⟩ := hI
            clear hdep hd
            intro K hK
            simp only [Act.put, List.setIfInBounds_toArray, List.set_cons_zero, List.set_cons_succ]
            go_simp
            refine hK.out _ _ ⟨(.slice (some ⟨gq, 0, none⟩) ln vc), x32, x33, x34, x35, x36, x37, x38, x39, x40, by simp only [Act.put, List.setIfInBounds_toArray, List.set_cons_zero, List.set_cons_succ], ?_⟩
            exact ⟨fun _ => rfl, fun h => hF.out.f1 (by simpa using h), fun h => hF.out.f2 (by simpa using h), fun h => hF.out.f3 (by simpa using h), fun h => hF.out.f4 (by simpa using h), fun h => hF.out.f5 (by simpa using h), fun h => hF.out.f6 (by simpa using h), fun h => hF.out.f7 (by simpa using h), fun h => hF.out.f8 (by simpa using h), fun h => hF.out.f9 (by simpa using h), fun h => hF.out.f10 (by simpa using h), fun h => by have := hF.out.o7_4 (by simpa using h); simpa using this, fun h => by have := hF.out.q10_7 (by simpa using h); simpa using this, hF.out.kp, fun h => hF.out.rd (by simpa using h), fun h => hF.out.fin (by simpa using h)⟩
          · intro d a W hI hd hdep
            obtain ⟨x31, x32, x33, x34, x35, x36, x37, x38, x39, x40, rfl, hF⟩ := hI
            clear hdep hd
            intro K hK
            simp only [Act.put, List.setIfInBounds_toArray, List.set_cons_zero, List.set_cons_succ]
            go_simp
            refine hK.out _ _ ⟨x31, (.int .i64 (i : Int)), x33, x34, x35, x36, x37, x38, x39, x40, by simp only [Act.put, List.setIfInBounds_toArray, List.set_cons_zero, List.set_cons_succ], ?_⟩
            exact ⟨fun h => hF.out.f0 (by simpa using h), fun _ => rfl, fun h => hF.out.f2 (by simpa using h), fun h => hF.out.f3 (by simpa using h), fun h => hF.out.f4 (by simpa using h), fun h => hF.out.f5 (by simpa using h), fun h => hF.out.f6 (by simpa using h), fun h => hF.out.f7 (by simpa using h), fun h => hF.out.f8 (by simpa using h), fun h => hF.out.f9 (by simpa using h), fun h => hF.out.f10 (by simpa using h), fun h => by have := hF.out.o7_4 (by simpa using h); simpa using this, fun h => by have := hF.out.q10_7 (by simpa using h); simpa using this, hF.out.kp, fun h => hF.out.rd (by simpa using h), fun h => hF.out.fin (by simpa using h)⟩
          · intro d a W hI hd hdep
            obtain ⟨x31, x32, x33, x34, x35, x36, x37, x38, x39, x40, rfl, hF⟩ := hI
            have hd0 : d 0 = true := dep_of hdep 0 (by kernel_rfl)
            have hd1 : d 1 = true := dep_of hdep 1 (by kernel_rfl)
            obtain rfl := hF.out.f0 hd0
            obtain rfl := hF.out.f1 hd1
            have hi0 := HI0.out.1
            have hi1 := HI0.out.2
            clear hdep hd hd0 hd1
            intro K hK
            simp only [Act.put, List.setIfInBounds_toArray, List.set_cons_zero, List.set_cons_succ]
            go_simp
            refine hK.out _ _ ⟨(.slice (some ⟨gq, 0, none⟩) ln vc), (.int .i64 (i : Int)), (.pointer (some ⟨gq, i * 3, none⟩)), x34, x35, x36, x37, x38, x39, x40, by simp only [Act.put, List.setIfInBounds_toArray, List.set_cons_zero, List.set_cons_succ], ?_⟩
            exact ⟨fun h => hF.out.f0 (by simpa using h), fun h => hF.out.f1 (by simpa using h), fun _ => rfl, fun h => hF.out.f3 (by simpa using h), fun h => hF.out.f4 (by simpa using h), fun h => hF.out.f5 (by simpa using h), fun h => hF.out.f6 (by simpa using h), fun h => hF.out.f7 (by simpa using h), fun h => hF.out.f8 (by simpa using h), fun h => hF.out.f9 (by simpa using h), fun h => hF.out.f10 (by simpa using h), fun h => by have := hF.out.o7_4 (by simpa using h); simpa using this, fun h => by have := hF.out.q10_7 (by simpa using h); simpa using this, hF.out.kp, fun h => hF.out.rd (by simpa using h), fun h => hF.out.fin (by simpa using h)⟩
          · intro d a W hI hd hdep
            obtain ⟨x31, x32, x33, x34, x35, x36, x37, x38, x39, x40, rfl, hF⟩ := hI
            have hd2 : d 2 = true := dep_of hdep 2 (by kernel_rfl)
            obtain rfl := hF.out.f2 hd2
            clear hdep hd hd2
            intro K hK
            simp only [Act.put, List.setIfInBounds_toArray, List.set_cons_zero, List.set_cons_succ]
            go_simp
            refine hK.out _ _ ⟨x31, x32, (.pointer (some ⟨gq, i * 3, none⟩)), (.pointer (some ⟨gq, i * 3 + 1, none⟩)), x35, x36, x37, x38, x39, x40, by simp only [Act.put, List.setIfInBounds_toArray, List.set_cons_zero, List.set_cons_succ], ?_⟩
            exact ⟨fun h => hF.out.f0 (by simpa using h), fun h => hF.out.f1 (by simpa using h), fun h => hF.out.f2 (by simpa using h), fun _ => rfl, fun h => hF.out.f4 (by simpa using h), fun h => hF.out.f5 (by simpa using h), fun h => hF.out.f6 (by simpa using h), fun h => hF.out.f7 (by simpa using h), fun h => hF.out.f8 (by simpa using h), fun h => hF.out.f9 (by simpa using h), fun h => hF.out.f10 (by simpa using h), fun h => by have := hF.out.o7_4 (by simpa using h); simpa using this, fun h => by have := hF.out.q10_7 (by simpa using h); simpa using this, hF.out.kp, fun h => hF.out.rd (by simpa using h), fun h => hF.out.fin (by simpa using h)⟩
          · intro d a W hI hd hdep
            obtain ⟨x31, x32, x33, x34, x35, x36, x37, x38, x39, x40, rfl, hF⟩ := hI
            have hd3 : d 3 = true := dep_of hdep 3 (by kernel_rfl)
            obtain rfl := hF.out.f3 hd3
            have HN7 : Hid (d 7 = false) := no_later hF.out.o7_4 hd
            have HN10 : Hid (d 10 = false) := no_later hF.out.q10_7 HN7.out
            have ya := own_at (hF.out.rd HN10.out) HQa.out
            clear hdep hd hd3
            intro K hK
            simp only [Act.put, List.setIfInBounds_toArray, List.set_cons_zero, List.set_cons_succ]
            go_simp
            refine hK.out _ _ ⟨x31, x32, x33, (.pointer (some ⟨gq, i * 3 + 1, none⟩)), (.int .i64 (tk.2.1 : Int)), x36, x37, x38, x39, x40, by simp only [Act.put, List.setIfInBounds_toArray, List.set_cons_zero, List.set_cons_succ], ?_⟩
            exact ⟨fun h => hF.out.f0 (by simpa using h), fun h => hF.out.f1 (by simpa using h), fun h => hF.out.f2 (by simpa using h), fun h => hF.out.f3 (by simpa using h), fun _ => rfl, fun h => hF.out.f5 (by simpa using h), fun h => hF.out.f6 (by simpa using h), fun h => hF.out.f7 (by simpa using h), fun h => hF.out.f8 (by simpa using h), fun h => hF.out.f9 (by simpa using h), fun h => hF.out.f10 (by simpa using h), fun _ => by simp, fun h => by have := hF.out.q10_7 (by simpa using h); simpa using this, hF.out.kp, fun h => hF.out.rd (by simpa using h), fun h => hF.out.fin (by simpa using h)⟩
          · intro d a W hI hd hdep
            obtain ⟨x31, x32, x33, x34, x35, x36, x37, x38, x39, x40, rfl, hF⟩ := hI
            clear hdep hd
            intro K hK
            simp only [Act.put, List.setIfInBounds_toArray, List.set_cons_zero, List.set_cons_succ]
            go_simp
            refine hK.out _ _ ⟨x31, x32, x33, x34, x35, (.pointer (some ⟨w.heap.size + 1, 0, none⟩)), x37, x38, x39, x40, by simp only [Act.put, List.setIfInBounds_toArray, List.set_cons_zero, List.set_cons_succ], ?_⟩
            exact ⟨fun h => hF.out.f0 (by simpa using h), fun h => hF.out.f1 (by simpa using h), fun h => hF.out.f2 (by simpa using h), fun h => hF.out.f3 (by simpa using h), fun h => hF.out.f4 (by simpa using h), fun _ => rfl, fun h => hF.out.f6 (by simpa using h), fun h => hF.out.f7 (by simpa using h), fun h => hF.out.f8 (by simpa using h), fun h => hF.out.f9 (by simpa using h), fun h => hF.out.f10 (by simpa using h), fun h => by have := hF.out.o7_4 (by simpa using h); simpa using this, fun h => by have := hF.out.q10_7 (by simpa using h); simpa using this, hF.out.kp, fun h => hF.out.rd (by simpa using h), fun h => hF.out.fin (by simpa using h)⟩
          · intro d a W hI hd hdep
            obtain ⟨x31, x32, x33, x34, x35, x36, x37, x38, x39, x40, rfl, hF⟩ := hI
            have hd5 : d 5 = true := dep_of hdep 5 (by kernel_rfl)
            obtain rfl := hF.out.f5 hd5
            have ya := (hF.out.kp.cell (p := ⟨w.heap.size + 1, 0, none⟩) HB1.out).trans HX0a.out
            clear hdep hd hd5
            intro K hK
            simp only [Act.put, List.setIfInBounds_toArray, List.set_cons_zero, List.set_cons_succ]
            go_simp
            refine hK.out _ _ ⟨x31, x32, x33, x34, x35, (.pointer (some ⟨w.heap.size + 1, 0, none⟩)), (.int .i64 (at0 : Int)), x38, x39, x40, by simp only [Act.put, List.setIfInBounds_toArray, List.set_cons_zero, List.set_cons_succ], ?_⟩
            exact ⟨fun h => hF.out.f0 (by simpa using h), fun h => hF.out.f1 (by simpa using h), fun h => hF.out.f2 (by simpa using h), fun h => hF.out.f3 (by simpa using h), fun h => hF.out.f4 (by simpa using h), fun h => hF.out.f5 (by simpa using h), fun _ => rfl, fun h => hF.out.f7 (by simpa using h), fun h => hF.out.f8 (by simpa using h), fun h => hF.out.f9 (by simpa using h), fun h => hF.out.f10 (by simpa using h), fun h => by have := hF.out.o7_4 (by simpa using h); simpa using this, fun h => by have := hF.out.q10_7 (by simpa using h); simpa using this, hF.out.kp, fun h => hF.out.rd (by simpa using h), fun h => hF.out.fin (by simpa using h)⟩
          · intro d a W hI hd hdep
            obtain ⟨x31, x32, x33, x34, x35, x36, x37, x38, x39, x40, rfl, hF⟩ := hI
            have hd4 : d 4 = true := dep_of hdep 4 (by kernel_rfl)
            have hd6 : d 6 = true := dep_of hdep 6 (by kernel_rfl)
            obtain rfl := hF.out.f4 hd4
            obtain rfl := hF.out.f6 hd6
            have e7_4 := hd4
            have hw := HWQa.out
            clear hdep hd hd4 hd6
            intro K hK
            simp only [Act.put, List.setIfInBounds_toArray, List.set_cons_zero, List.set_cons_succ]
            go_simp
            refine hK.out _ _ ⟨x31, x32, x33, x34, (.int .i64 (tk.2.1 : Int)), x36, (.int .i64 (at0 : Int)), (.int .i64 ((tk.2.1 : Int) + (at0 : Int))), x39, x40, by simp only [Act.put, List.setIfInBounds_toArray, List.set_cons_zero, List.set_cons_succ], ?_⟩
            exact ⟨fun h => hF.out.f0 (by simpa using h), fun h => hF.out.f1 (by simpa using h), fun h => hF.out.f2 (by simpa using h), fun h => hF.out.f3 (by simpa using h), fun h => hF.out.f4 (by simpa using h), fun h => hF.out.f5 (by simpa using h), fun h => hF.out.f6 (by simpa using h), fun _ => rfl, fun h => hF.out.f8 (by simpa using h), fun h => hF.out.f9 (by simpa using h), fun h => hF.out.f10 (by simpa using h), fun _ => by simpa using e7_4, fun _ => by simp, hF.out.kp, fun h => hF.out.rd (by simpa using h), fun h => hF.out.fin (by simpa using h)⟩
          · intro d a W hI hd hdep
            obtain ⟨x31, x32, x33, x34, x35, x36, x37, x38, x39, x40, rfl, hF⟩ := hI
            have hd0 : d 0 = true := dep_of hdep 0 (by kernel_rfl)
            have hd1 : d 1 = true := dep_of hdep 1 (by kernel_rfl)
            obtain rfl := hF.out.f0 hd0
            obtain rfl := hF.out.f1 hd1
            have hi0 := HI0.out.1
            have hi1 := HI0.out.2
            clear hdep hd hd0 hd1
            intro K hK
            simp only [Act.put, List.setIfInBounds_toArray, List.set_cons_zero, List.set_cons_succ]
            go_simp
            refine hK.out _ _ ⟨(.slice (some ⟨gq, 0, none⟩) ln vc), (.int .i64 (i : Int)), x33, x34, x35, x36, x37, x38, (.pointer (some ⟨gq, i * 3, none⟩)), x40, by simp only [Act.put, List.setIfInBounds_toArray, List.set_cons_zero, List.set_cons_succ], ?_⟩
            exact ⟨fun h => hF.out.f0 (by simpa using h), fun h => hF.out.f1 (by simpa using h), fun h => hF.out.f2 (by simpa using h), fun h => hF.out.f3 (by simpa using h), fun h => hF.out.f4 (by simpa using h), fun h => hF.out.f5 (by simpa using h), fun h => hF.out.f6 (by simpa using h), fun h => hF.out.f7 (by simpa using h), fun _ => rfl, fun h => hF.out.f9 (by simpa using h), fun h => hF.out.f10 (by simpa using h), fun h => by have := hF.out.o7_4 (by simpa using h); simpa using this, fun h => by have := hF.out.q10_7 (by simpa using h); simpa using this, hF.out.kp, fun h => hF.out.rd (by simpa using h), fun h => hF.out.fin (by simpa using h)⟩
          · intro d a W hI hd hdep
            obtain ⟨x31, x32, x33, x34, x35, x36, x37, x38, x39, x40, rfl, hF⟩ := hI
            have hd8 : d 8 = true := dep_of hdep 8 (by kernel_rfl)
            obtain rfl := hF.out.f8 hd8
            clear hdep hd hd8
            intro K hK
            simp only [Act.put, List.setIfInBounds_toArray, List.set_cons_zero, List.set_cons_succ]
            go_simp
            refine hK.out _ _ ⟨x31, x32, x33, x34, x35, x36, x37, x38, (.pointer (some ⟨gq, i * 3, none⟩)), (.pointer (some ⟨gq, i * 3 + 1, none⟩)), by simp only [Act.put, List.setIfInBounds_toArray, List.set_cons_zero, List.set_cons_succ], ?_⟩
            exact ⟨fun h => hF.out.f0 (by simpa using h), fun h => hF.out.f1 (by simpa using h), fun h => hF.out.f2 (by simpa using h), fun h => hF.out.f3 (by simpa using h), fun h => hF.out.f4 (by simpa using h), fun h => hF.out.f5 (by simpa using h), fun h => hF.out.f6 (by simpa using h), fun h => hF.out.f7 (by simpa using h), fun h => hF.out.f8 (by simpa using h), fun _ => rfl, fun h => hF.out.f10 (by simpa using h), fun h => by have := hF.out.o7_4 (by simpa using h); simpa using this, fun h => by have := hF.out.q10_7 (by simpa using h); simpa using this, hF.out.kp, fun h => hF.out.rd (by simpa using h), fun h => hF.out.fin (by simpa using h)⟩
          · intro d a W hI hd hdep
            obtain ⟨x31, x32, x33, x34, x35, x36, x37, x38, x39, x40, rfl, hF⟩ := hI
            have hd9 : d 9 = true := dep_of hdep 9 (by kernel_rfl)
            have hd7 : d 7 = true := dep_of hdep 7 (by kernel_rfl)
            obtain rfl := hF.out.f9 hd9
            obtain rfl := hF.out.f7 hd7
            have e10_7 := hd7
            have hrd := hF.out.rd hd
            have ya := own_at hrd HQa.out
            have yb := own_free hrd (i * 3 + 1)
            clear hdep hd hd9 hd7
            intro K hK
            simp only [Act.put, List.setIfInBounds_toArray, List.set_cons_zero, List.set_cons_succ]
            go_simp
            refine hK.out _ _ ⟨x31, x32, x33, x34, x35, x36, x37, (.int .i64 ((tk.2.1 : Int) + (at0 : Int))), x39, (.pointer (some ⟨gq, i * 3 + 1, none⟩)), by simp only [Act.put, List.setIfInBounds_toArray, List.set_cons_zero, List.set_cons_succ], ?_⟩
            exact ⟨fun h => hF.out.f0 (by simpa using h), fun h => hF.out.f1 (by simpa using h), fun h => hF.out.f2 (by simpa using h), fun h => hF.out.f3 (by simpa using h), fun h => hF.out.f4 (by simpa using h), fun h => hF.out.f5 (by simpa using h), fun h => hF.out.f6 (by simpa using h), fun h => hF.out.f7 (by simpa using h), fun h => hF.out.f8 (by simpa using h), fun h => hF.out.f9 (by simpa using h), fun _ => trivial, fun h => by have := hF.out.o7_4 (by simpa using h); simpa using this, fun _ => by simpa using e10_7, hF.out.kp.setCell (by have := HBQ.out; simpa using this) _, fun h => by simp at h, fun _ => own_put hrd _ _⟩
        · intro d a W hI hall
          obtain ⟨x31, x32, x33, x34, x35, x36, x37, x38, x39, x40, rfl, hF⟩ := hI
          simp only [List.length_cons, List.length_nil] at hall
          obtain rfl := hF.out.f0 (hall 0 (by omega))
          obtain rfl := hF.out.f1 (hall 1 (by omega))
          obtain rfl := hF.out.f2 (hall 2 (by omega))
          obtain rfl := hF.out.f3 (hall 3 (by omega))
          obtain rfl := hF.out.f4 (hall 4 (by omega))
          obtain rfl := hF.out.f5 (hall 5 (by omega))
          obtain rfl := hF.out.f6 (hall 6 (by omega))
          obtain rfl := hF.out.f7 (hall 7 (by omega))
          obtain rfl := hF.out.f8 (hall 8 (by omega))
          obtain rfl := hF.out.f9 (hall 9 (by omega))
          have HO6 : Hid (W.ownsRow w3.heap.size 37 3 (.slice (some ⟨gq, 0, none⟩) ln vc) ln (tcs ts2)) := by have := hF.out.fin (hall 10 (by omega)); rw [HS1.out] at this; exact this
          have HB6 : Hid (Below w3.heap.size w3 W) := HBR.out.trans hF.out.kp
          have HX0b : Hid (W.cell? ⟨w.heap.size + 1, 0, none⟩ = some (.int .i64 (at0 : Int))) := (hF.out.kp.cell (p := ⟨w.heap.size + 1, 0, none⟩) HW1.out).trans HX0a.out
          have HB1' : Hid (w.heap.size + 1 < w3.heap.size) := HW1.out
          clear hF hall
          simp only [Act.put, List.setIfInBounds_toArray, List.set_cons_zero, List.set_cons_succ]
          obtain ⟨w6, rfl⟩ : ∃ q, q = W := ⟨_, rfl⟩
          go_wp2_with fail
          refine wp_region_free mixed (fun a0 d a W => ∃ (x41 x42 x43 x44 x45 x46 x47 x48 x49 x50 : Value), a = ((((((((((a0.put (some 41) x41).put (some 42) x42).put (some 43) x43).put (some 44) x44).put (some 45) x45).put (some 46) x46).put (some 47) x47).put (some 48) x48).put (some 49) x49).put (some 50) x50) ∧ Hid (RF7 w w6 w3.heap.size (w.heap.size + 1) gq ln vc i at0 (i * 3 + 2) (tk.2.2 : Int) (tcs ts2) d x41 x42 x43 x44 x45 x46 x47 x48 x49 x50 W)) (by kernel_rfl) ⟨u41, u42, u43, u44, u45, u46, u47, u48, u49, u50, by simp only [Act.put, List.setIfInBounds_toArray, List.set_cons_zero, List.set_cons_succ], ?_⟩ ?_ ?_
          · exact ⟨fun h => no_way h, fun h => no_way h, fun h => no_way h, fun h => no_way h, fun h => no_way h, fun h => no_way h, fun h => no_way h, fun h => no_way h, fun h => no_way h, fun h => no_way h, fun _ => trivial, fun h => no_way h, fun h => no_way h, (Below.refl _ _).drew, fun _ => own_same HO6.out fun k hk => rfl, fun h => no_way h⟩
          · simp only [StepAll, and_true]
            refine ⟨?_, ?_, ?_, ?_, ?_, ?_, ?_, ?_, ?_, ?_, ?_⟩
            · intro d a W hI hd hdep
              obtain ⟨x41, x42, x43, x44, x45, x46, x47, x48, x49, x50, rfl, hF⟩ := hI
              clear hdep hd
              intro K hK
              simp only [Act.put, List.setIfInBounds_toArray, List.set_cons_zero, List.set_cons_succ]
              go_simp
              refine hK.out _ _ ⟨(.slice (some ⟨gq, 0, none⟩) ln vc), x42, x43, x44, x45, x46, x47, x48, x49, x50, by simp only [Act.put, List.setIfInBounds_toArray, List.set_cons_zero, List.set_cons_succ], ?_⟩
              exact ⟨fun _ => rfl, fun h => hF.out.f1 (by simpa using h), fun h => hF.out.f2 (by simpa using h), fun h => hF.out.f3 (by simpa using h), fun h => hF.out.f4 (by simpa using h), fun h => hF.out.f5 (by simpa using h), fun h => hF.out.f6 (by simpa using h), fun h => hF.out.f7 (by simpa using h), fun h => hF.out.f8 (by simpa using h), fun h => hF.out.f9 (by simpa using h), fun h => hF.out.f10 (by simpa using h), fun h => by have := hF.out.o7_4 (by simpa using h); simpa using this, fun h => by have := hF.out.q10_7 (by simpa using h); simpa using this, hF.out.kp, fun h => hF.out.rd (by simpa using h), fun h => hF.out.fin (by simpa using h)⟩
            · intro d a W hI hd hdep
              obtain ⟨x41, x42, x43, x44, x45, x46, x47, x48, x49, x50, rfl, hF⟩ := hI
              clear hdep hd
              intro K hK
              simp only [Act.put, List.setIfInBounds_toArray, List.set_cons_zero, List.set_cons_succ]
              go_simp
              refine hK.out _ _ ⟨x41, (.int .i64 (i : Int)), x43, x44, x45, x46, x47, x48, x49, x50, by simp only [Act.put, List.setIfInBounds_toArray, List.set_cons_zero, List.set_cons_succ], ?_⟩
              exact ⟨fun h => hF.out.f0 (by simpa using h), fun _ => rfl, fun h => hF.out.f2 (by simpa using h), fun h => hF.out.f3 (by simpa using h), fun h => hF.out.f4 (by simpa using h), fun h => hF.out.f5 (by simpa using h), fun h => hF.out.f6 (by simpa using h), fun h => hF.out.f7 (by simpa using h), fun h => hF.out.f8 (by simpa using h), fun h => hF.out.f9 (by simpa using h), fun h => hF.out.f10 (by simpa using h), fun h => by have := hF.out.o7_4 (by simpa using h); simpa using this, fun h => by have := hF.out.q10_7 (by simpa using h); simpa using this, hF.out.kp, fun h => hF.out.rd (by simpa using h), fun h => hF.out.fin (by simpa using h)⟩
            · intro d a W hI hd hdep
              obtain ⟨x41, x42, x43, x44, x45, x46, x47, x48, x49, x50, rfl, hF⟩ := hI
              have hd0 : d 0 = true := dep_of hdep 0 (by kernel_rfl)
              have hd1 : d 1 = true := dep_of hdep 1 (by kernel_rfl)
              obtain rfl := hF.out.f0 hd0
              obtain rfl := hF.out.f1 hd1
              have hi0 := HI0.out.1
              have hi1 := HI0.out.2
              clear hdep hd hd0 hd1
              intro K hK
              simp only [Act.put, List.setIfInBounds_toArray, List.set_cons_zero, List.set_cons_succ]
              go_simp
              refine hK.out _ _ ⟨(.slice (some ⟨gq, 0, none⟩) ln vc), (.int .i64 (i : Int)), (.pointer (some ⟨gq, i * 3, none⟩)), x44, x45, x46, x47, x48, x49, x50, by simp only [Act.put, List.setIfInBounds_toArray, List.set_cons_zero, List.set_cons_succ], ?_⟩
              exact ⟨fun h => hF.out.f0 (by simpa using h), fun h => hF.out.f1 (by simpa using h), fun _ => rfl, fun h => hF.out.f3 (by simpa using h), fun h => hF.out.f4 (by simpa using h), fun h => hF.out.f5 (by simpa using h), fun h => hF.out.f6 (by simpa using h), fun h => hF.out.f7 (by simpa using h), fun h => hF.out.f8 (by simpa using h), fun h => hF.out.f9 (by simpa using h), fun h => hF.out.f10 (by simpa using h), fun h => by have := hF.out.o7_4 (by simpa using h); simpa using this, fun h => by have := hF.out.q10_7 (by simpa using h); simpa using this, hF.out.kp, fun h => hF.out.rd (by simpa using h), fun h => hF.out.fin (by simpa using h)⟩
            · intro d a W hI hd hdep
              obtain ⟨x41, x42, x43, x44, x45, x46, x47, x48, x49, x50, rfl, hF⟩ := hI
              have hd2 : d 2 = true := dep_of hdep 2 (by kernel_rfl)
              obtain rfl := hF.out.f2 hd2
              clear hdep hd hd2
              intro K hK
              simp only [Act.put, List.setIfInBounds_toArray, List.set_cons_zero, List.set_cons_succ]
              go_simp
              refine hK.out _ _ ⟨x41, x42, (.pointer (some ⟨gq, i * 3, none⟩)), (.pointer (some ⟨gq, i * 3 + 2, none⟩)), x45, x46, x47, x48, x49, x50, by simp only [Act.put, List.setIfInBounds_toArray, List.set_cons_zero, List.set_cons_succ], ?_⟩
              exact ⟨fun h => hF.out.f0 (by simpa using h), fun h => hF.out.f1 (by simpa using h), fun h => hF.out.f2 (by simpa using h), fun _ => rfl, fun h => hF.out.f4 (by simpa using h), fun h => hF.out.f5 (by simpa using h), fun h => hF.out.f6 (by simpa using h), fun h => hF.out.f7 (by simpa using h), fun h => hF.out.f8 (by simpa using h), fun h => hF.out.f9 (by simpa using h), fun h => hF.out.f10 (by simpa using h), fun h => by have := hF.out.o7_4 (by simpa using h); simpa using this, fun h => by have := hF.out.q10_7 (by simpa using h); simpa using this, hF.out.kp, fun h => hF.out.rd (by simpa using h), fun h => hF.out.fin (by simpa using h)⟩
            · intro d a W hI hd hdep
              obtain ⟨x41, x42, x43, x44, x45, x46, x47, x48, x49, x50, rfl, hF⟩ := hI
              have hd3 : d 3 = true := dep_of hdep 3 (by kernel_rfl)
              obtain rfl := hF.out.f3 hd3
              have HN7 : Hid (d 7 = false) := no_later hF.out.o7_4 hd
              have HN10 : Hid (d 10 = false) := no_later hF.out.q10_7 HN7.out
              have ya := own_at (hF.out.rd HN10.out) HQb.out
              clear hdep hd hd3
              intro K hK
              simp only [Act.put, List.setIfInBounds_toArray, List.set_cons_zero, List.set_cons_succ]
              go_simp
              refine hK.out _ _ ⟨x41, x42, x43, (.pointer (some ⟨gq, i * 3 + 2, none⟩)), (.int .i64 (tk.2.2 : Int)), x46, x47, x48, x49, x50, by simp only [Act.put, List.setIfInBounds_toArray, List.set_cons_zero, List.set_cons_succ], ?_⟩
              exact ⟨fun h => hF.out.f0 (by simpa using h), fun h => hF.out.f1 (by simpa using h), fun h => hF.out.f2 (by simpa using h), fun h => hF.out.f3 (by simpa using h), fun _ => rfl, fun h => hF.out.f5 (by simpa using h), fun h => hF.out.f6 (by simpa using h), fun h => hF.out.f7 (by simpa using h), fun h => hF.out.f8 (by simpa using h), fun h => hF.out.f9 (by simpa using h), fun h => hF.out.f10 (by simpa using h), fun _ => by simp, fun h => by have := hF.out.q10_7 (by simpa using h); simpa using this, hF.out.kp, fun h => hF.out.rd (by simpa using h), fun h => hF.out.fin (by simpa using h)⟩
            · intro d a W hI hd hdep
              obtain ⟨x41, x42, x43, x44, x45, x46, x47, x48, x49, x50, rfl, hF⟩ := hI
              clear hdep hd
              intro K hK
              simp only [Act.put, List.setIfInBounds_toArray, List.set_cons_zero, List.set_cons_succ]
              go_simp
              refine hK.out _ _ ⟨x41, x42, x43, x44, x45, (.pointer (some ⟨w.heap.size + 1, 0, none⟩)), x47, x48, x49, x50, by simp only [Act.put, List.setIfInBounds_toArray, List.set_cons_zero, List.set_cons_succ], ?_⟩
              exact ⟨fun h => hF.out.f0 (by simpa using h), fun h => hF.out.f1 (by simpa using h), fun h => hF.out.f2 (by simpa using h), fun h => hF.out.f3 (by simpa using h), fun h => hF.out.f4 (by simpa using h), fun _ => rfl, fun h => hF.out.f6 (by simpa using h), fun h => hF.out.f7 (by simpa using h), fun h => hF.out.f8 (by simpa using h), fun h => hF.out.f9 (by simpa using h), fun h => hF.out.f10 (by simpa using h), fun h => by have := hF.out.o7_4 (by simpa using h); simpa using this, fun h => by have := hF.out.q10_7 (by simpa using h); simpa using this, hF.out.kp, fun h => hF.out.rd (by simpa using h), fun h => hF.out.fin (by simpa using h)⟩
            · intro d a W hI hd hdep
              obtain ⟨x41, x42, x43, x44, x45, x46, x47, x48, x49, x50, rfl, hF⟩ := hI
              have hd5 : d 5 = true := dep_of hdep 5 (by kernel_rfl)
              obtain rfl := hF.out.f5 hd5
              have ya := (hF.out.kp.cell (p := ⟨w.heap.size + 1, 0, none⟩) HB1.out).trans HX0b.out
              clear hdep hd hd5
              intro K hK
              simp only [Act.put, List.setIfInBounds_toArray, List.set_cons_zero, List.set_cons_succ]
              go_simp
              refine hK.out _ _ ⟨x41, x42, x43, x44, x45, (.pointer (some ⟨w.heap.size + 1, 0, none⟩)), (.int .i64 (at0 : Int)), x48, x49, x50, by simp only [Act.put, List.setIfInBounds_toArray, List.set_cons_zero, List.set_cons_succ], ?_⟩
              exact ⟨fun h => hF.out.f0 (by simpa using h), fun h => hF.out.f1 (by simpa using h), fun h => hF.out.f2 (by simpa using h), fun h => hF.out.f3 (by simpa using h), fun h => hF.out.f4 (by simpa using h), fun h => hF.out.f5 (by simpa using h), fun _ => rfl, fun h => hF.out.f7 (by simpa using h), fun h => hF.out.f8 (by simpa using h), fun h => hF.out.f9 (by simpa using h), fun h => hF.out.f10 (by simpa using h), fun h => by have := hF.out.o7_4 (by simpa using h); simpa using this, fun h => by have := hF.out.q10_7 (by simpa using h); simpa using this, hF.out.kp, fun h => hF.out.rd (by simpa using h), fun h => hF.out.fin (by simpa using h)⟩
            · intro d a W hI hd hdep
              obtain ⟨x41, x42, x43, x44, x45, x46, x47, x48, x49, x50, rfl, hF⟩ := hI
              have hd4 : d 4 = true := dep_of hdep 4 (by kernel_rfl)
              have hd6 : d 6 = true := dep_of hdep 6 (by kernel_rfl)
              obtain rfl := hF.out.f4 hd4
              obtain rfl := hF.out.f6 hd6
              have e7_4 := hd4
              have hw := HWQb.out
              clear hdep hd hd4 hd6
              intro K hK
              simp only [Act.put, List.setIfInBounds_toArray, List.set_cons_zero, List.set_cons_succ]
              go_simp
              refine hK.out _ _ ⟨x41, x42, x43, x44, (.int .i64 (tk.2.2 : Int)), x46, (.int .i64 (at0 : Int)), (.int .i64 ((tk.2.2 : Int) + (at0 : Int))), x49, x50, by simp only [Act.put, List.setIfInBounds_toArray, List.set_cons_zero, List.set_cons_succ], ?_⟩
              exact ⟨fun h => hF.out.f0 (by simpa using h), fun h => hF.out.f1 (by simpa using h), fun h => hF.out.f2 (by simpa using h), fun h => hF.out.f3 (by simpa using h), fun h => hF.out.f4 (by simpa using h), fun h => hF.out.f5 (by simpa using h), fun h => hF.out.f6 (by simpa using h), fun _ => rfl, fun h => hF.out.f8 (by simpa using h), fun h => hF.out.f9 (by simpa using h), fun h => hF.out.f10 (by simpa using h), fun _ => by simpa using e7_4, fun _ => by simp, hF.out.kp, fun h => hF.out.rd (by simpa using h), fun h => hF.out.fin (by simpa using h)⟩
            · intro d a W hI hd hdep
              obtain ⟨x41, x42, x43, x44, x45, x46, x47, x48, x49, x50, rfl, hF⟩ := hI
              have hd0 : d 0 = true := dep_of hdep 0 (by kernel_rfl)
              have hd1 : d 1 = true := dep_of hdep 1 (by kernel_rfl)
              obtain rfl := hF.out.f0 hd0
              obtain rfl := hF.out.f1 hd1
              have hi0 := HI0.out.1
              have hi1 := HI0.out.2
              clear hdep hd hd0 hd1
              intro K hK
              simp only [Act.put, List.setIfInBounds_toArray, List.set_cons_zero, List.set_cons_succ]
              go_simp
              refine hK.out _ _ ⟨(.slice (some ⟨gq, 0, none⟩) ln vc), (.int .i64 (i : Int)), x43, x44, x45, x46, x47, x48, (.pointer (some ⟨gq, i * 3, none⟩)), x50, by simp only [Act.put, List.setIfInBounds_toArray, List.set_cons_zero, List.set_cons_succ], ?_⟩
              exact ⟨fun h => hF.out.f0 (by simpa using h), fun h => hF.out.f1 (by simpa using h), fun h => hF.out.f2 (by simpa using h), fun h => hF.out.f3 (by simpa using h), fun h => hF.out.f4 (by simpa using h), fun h => hF.out.f5 (by simpa using h), fun h => hF.out.f6 (by simpa using h), fun h => hF.out.f7 (by simpa using h), fun _ => rfl, fun h => hF.out.f9 (by simpa using h), fun h => hF.out.f10 (by simpa using h), fun h => by have := hF.out.o7_4 (by simpa using h); simpa using this, fun h => by have := hF.out.q10_7 (by simpa using h); simpa using this, hF.out.kp, fun h => hF.out.rd (by simpa using h), fun h => hF.out.fin (by simpa using h)⟩
            · intro d a W hI hd hdep
              obtain ⟨x41, x42, x43, x44, x45, x46, x47, x48, x49, x50, rfl, hF⟩ := hI
              have hd8 : d 8 = true := dep_of hdep 8 (by kernel_rfl)
              obtain rfl := hF.out.f8 hd8
              clear hdep hd hd8
              intro K hK
              simp only [Act.put, List.setIfInBounds_toArray, List.set_cons_zero, List.set_cons_succ]
              go_simp
              refine hK.out _ _ ⟨x41, x42, x43, x44, x45, x46, x47, x48, (.pointer (some ⟨gq, i * 3, none⟩)), (.pointer (some ⟨gq, i * 3 + 2, none⟩)), by simp only [Act.put, List.setIfInBounds_toArray, List.set_cons_zero, List.set_cons_succ], ?_⟩
              exact ⟨fun h => hF.out.f0 (by simpa using h), fun h => hF.out.f1 (by simpa using h), fun h => hF.out.f2 (by simpa using h), fun h => hF.out.f3 (by simpa using h), fun h => hF.out.f4 (by simpa using h), fun h => hF.out.f5 (by simpa using h), fun h => hF.out.f6 (by simpa using h), fun h => hF.out.f7 (by simpa using h), fun h => hF.out.f8 (by simpa using h), fun _ => rfl, fun h => hF.out.f10 (by simpa using h), fun h => by have := hF.out.o7_4 (by simpa using h); simpa using this, fun h => by have := hF.out.q10_7 (by simpa using h); simpa using this, hF.out.kp, fun h => hF.out.rd (by simpa using h), fun h => hF.out.fin (by simpa using h)⟩
            · intro d a W hI hd hdep
              obtain ⟨x41, x42, x43, x44, x45, x46, x47, x48, x49, x50, rfl, hF⟩ := hI
              have hd9 : d 9 = true := dep_of hdep 9 (by kernel_rfl)
              have hd7 : d 7 = true := dep_of hdep 7 (by kernel_rfl)
              obtain rfl := hF.out.f9 hd9
              obtain rfl := hF.out.f7 hd7
              have e10_7 := hd7
              have hrd := hF.out.rd hd
              have ya := own_at hrd HQb.out
              have yb := own_free hrd (i * 3 + 2)
              clear hdep hd hd9 hd7
              intro K hK
              simp only [Act.put, List.setIfInBounds_toArray, List.set_cons_zero, List.set_cons_succ]
              go_simp
              refine hK.out _ _ ⟨x41, x42, x43, x44, x45, x46, x47, (.int .i64 ((tk.2.2 : Int) + (at0 : Int))), x49, (.pointer (some ⟨gq, i * 3 + 2, none⟩)), by simp only [Act.put, List.setIfInBounds_toArray, List.set_cons_zero, List.set_cons_succ], ?_⟩
              exact ⟨fun h => hF.out.f0 (by simpa using h), fun h => hF.out.f1 (by simpa using h), fun h => hF.out.f2 (by simpa using h), fun h => hF.out.f3 (by simpa using h), fun h => hF.out.f4 (by simpa using h), fun h => hF.out.f5 (by simpa using h), fun h => hF.out.f6 (by simpa using h), fun h => hF.out.f7 (by simpa using h), fun h => hF.out.f8 (by simpa using h), fun h => hF.out.f9 (by simpa using h), fun _ => trivial, fun h => by have := hF.out.o7_4 (by simpa using h); simpa using this, fun _ => by simpa using e10_7, hF.out.kp.setCell (by have := HBQ.out; simpa using this) _, fun h => by simp at h, fun _ => own_put hrd _ _⟩
          · intro d a W hI hall
            obtain ⟨x41, x42, x43, x44, x45, x46, x47, x48, x49, x50, rfl, hF⟩ := hI
            simp only [List.length_cons, List.length_nil] at hall
            obtain rfl := hF.out.f0 (hall 0 (by omega))
            obtain rfl := hF.out.f1 (hall 1 (by omega))
            obtain rfl := hF.out.f2 (hall 2 (by omega))
            obtain rfl := hF.out.f3 (hall 3 (by omega))
            obtain rfl := hF.out.f4 (hall 4 (by omega))
            obtain rfl := hF.out.f5 (hall 5 (by omega))
            obtain rfl := hF.out.f6 (hall 6 (by omega))
            obtain rfl := hF.out.f7 (hall 7 (by omega))
            obtain rfl := hF.out.f8 (hall 8 (by omega))
            obtain rfl := hF.out.f9 (hall 9 (by omega))
            have HE7 : Hid (W.ownsRow w3.heap.size 37 3 (.slice (some ⟨gq, 0, none⟩) ln vc) ln (tcs (shf at0 ts (i + 1))) ∧ Below w3.heap.size w3 W) := ⟨by have := hF.out.fin (hall 10 (by omega)); rwa [HS2.out] at this, HB6.out.trans hF.out.kp⟩
            clear hF hall
            simp only [Act.put, List.setIfInBounds_toArray, List.set_cons_zero, List.set_cons_succ]
            go_wp2_with fail
            go_roundw
            case rel => exact ⟨i + 1, by omega, by go_num, HE7.out.1, HE7.out.2⟩
            case measure => simp [intOf]; omega
      · have hk1 : ¬ (i : Int) < (ln : Int) := by omega
        have hil : i = ln := by omega
        have HOE : Hid (wr.ownsRow w3.heap.size 37 3 (.slice va ln vc) ln (tcs (ts.map (sh at0)))) := by
          have e : shf at0 ts i = ts.map (sh at0) := by rw [hil, HLE.out, shf_all]
          have h9 := HO0'.out
          rw [e] at h9
          exact h9
        have HZ2 : Hid (wr.heap[w.heap.size + 2]? = some (.cells #[.int .i64 0, .string ⟨#[]⟩, .int .i64 0] 29 (0, 0))) := (HBR.out.block _ (by have := HG3.out.2.2.2.1; omega)).trans HG3.out.2.2.1
        have HBE : Hid (Below w.heap.size w wr) := HG3.out.2.2.2.2.trans (HBR.out.mono (by have := HG3.out.2.2.2.1; omega))
        have x0 := (HBR.out.cell (p := ⟨w.heap.size + 1, 0, none⟩) HW1.out).trans HX0.out
        have v0 := block_cell HZ2.out 0
        have v1 := block_cell HZ2.out 1
        have v2 := block_cell HZ2.out 2
        have g0 := block_free HZ2.out 0
        have g1 := block_free HZ2.out 1
        have g2 := block_free HZ2.out 2
        simp only [List.getElem?_toArray, List.getElem?_cons_zero, List.getElem?_cons_succ] at v0 v1 v2
        clear HO0' hil
        cases hbo : bo with
        | none =>
          have HBA : Hid (bad = -1) := by show _ = _; rw [← HBAD.out, hbo]; rfl
          have hbb := HBA.out
          subst hbb
          go_wp2_with fail
          have hth := three (w := wr) HZ2.out (.int .i64 ((at0 : Int) + (b0.size : Int))) (.string ⟨#[]⟩) (.int .i64 15)
          have y0 := block_cell hth 0
          have y1 := block_cell hth 1
          have y2 := block_cell hth 2
          simp only [List.getElem?_toArray, List.getElem?_cons_zero, List.getElem?_cons_succ] at y0 y1 y2
          refine bodyPost_ret (v := .tuple #[.agg #[.int .i64 ((at0 : Int) + (b0.size : Int)), .string ⟨#[]⟩, .int .i64 15], .slice va ln vc, .int .i64 0]) (by simp [results, Try.results7, go_sem, y0, y1, y2]) rfl ?_
          exact ⟨at0 + b0.size, ⟨#[]⟩, _, ts.map (sh at0), 15, by rw [← HER.out, hbo]; rfl, by rw [← HEA.out, hbo]; rfl, by rw [List.length_map, ← HLE.out]; exact own_less (own_same HOE.out fun k hk => (same_three wr (w.heap.size + 2) _ _ _).2.2.2.2 k (by have := (HOE.out.lt k hk).1; have := HG3.out.2.2.2.1; omega)) (by have := HG3.out.2.2.2.1; omega), ((HBE.out.setCell (by simp <;> omega) _).setCell (by simp <;> omega) _).setCell (by simp <;> omega) _⟩
        | some p =>
          have HBA : Hid (bad = (p : Int)) := by show _ = _; rw [← HBAD.out, hbo]; rfl
          have hbb := HBA.out
          subst hbb
          have hp0 : (0 : Int) ≤ (p : Int) := by omega
          have hwp : IntKind.i64.wrap ((at0 : Int) + (p : Int)) = (at0 : Int) + (p : Int) := by have := HPB.out p hbo; simp only [IntKind.wrap, IntKind.bits, IntKind.signed]; simp; omega
          go_wp2_with fail
          have hth := three (w := wr) HZ2.out (.int .i64 ((at0 : Int) + (p : Int))) (.string ⟨#[]⟩) (.int .i64 9)
          have y0 := block_cell hth 0
          have y1 := block_cell hth 1
          have y2 := block_cell hth 2
          simp only [List.getElem?_toArray, List.getElem?_cons_zero, List.getElem?_cons_succ] at y0 y1 y2
          refine bodyPost_ret (v := .tuple #[.agg #[.int .i64 ((at0 : Int) + (p : Int)), .string ⟨#[]⟩, .int .i64 9], .slice va ln vc, .int .i64 9]) (by simp [results, Try.results7, go_sem, y0, y1, y2]) rfl ?_
          exact ⟨at0 + p, ⟨#[]⟩, _, ts.map (sh at0), 9, by rw [← HER.out, hbo]; rfl, by rw [← HEA.out, hbo]; rfl, by rw [List.length_map, ← HLE.out]; exact own_less (own_same HOE.out fun k hk => (same_three wr (w.heap.size + 2) _ _ _).2.2.2.2 k (by have := (HOE.out.lt k hk).1; have := HG3.out.2.2.2.1; omega)) (by have := HG3.out.2.2.2.1; omega), ((HBE.out.setCell (by simp <;> omega) _).setCell (by simp <;> omega) _).setCell (by simp <;> omega) _⟩
end Go.Proofs.Ytcdnbkfjiigdmaa
