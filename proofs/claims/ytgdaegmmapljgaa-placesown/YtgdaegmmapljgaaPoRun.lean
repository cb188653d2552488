/-
  The contract of places.run: the places at which one may be behind a text.
-/
import Derived.Test.YtgdaegmmapljgaaPoRuns
import Derived.Test.YtgdaegmmapljgaaFree
namespace Go.Proofs.Ytgdaegmmapljgaa
open Go.RowKit
open Cls Po

theorem no_way {p : Prop} (h : false = true) : p := by cases h
theorem dep_of {l : List Edge} {d : Nat → Bool} (h : ∀ e ∈ l, Region.binds .any e = true → d e.on = true) (j : Nat) (hj : l.any (fun e => Region.binds .any e && e.on == j) = true) : d j = true := by
  obtain ⟨e, he, h2⟩ := List.any_eq_true.1 hj
  simp only [Bool.and_eq_true, beq_iff_eq] at h2
  rw [← h2.2]; exact h e he h2.1
theorem no_later {d : Nat → Bool} {i j : Nat} (h : d j = true → d i = true) (hi : d i = false) : d j = false := by
  cases e : d j with
  | false => rfl
  | true => rw [h e] at hi; cases hi
/-- A byte of a text. -/
theorem byte_run (s : ByteArray) (k : Nat) (h : k < s.size) (w : World) : (Instr.index 9 (.string s) (.int .i64 (k : Int))).run Try.prog w = .ok (.int .u8 (s[k].toNat : Int)) w := by
  rw [run_index_string (h := Try.underlying9)]
  simp [h]
theorem list_loop (b : ByteArray) : ∀ (k i : Nat) (r : List UInt8), b.size - i = k → ByteArray.toList.loop b i r = r.reverse ++ b.data.toList.drop i := by
  intro k
  induction k with
  | zero =>
    intro i r h
    unfold ByteArray.toList.loop
    rw [if_neg (by omega), List.drop_eq_nil_of_le (by simp; omega)]; simp
  | succ k ih =>
    intro i r h
    unfold ByteArray.toList.loop
    rw [if_pos (by omega), ih _ _ (by omega)]
    have h2 : i < b.data.toList.length := by simp; omega
    rw [List.drop_eq_getElem_cons h2]
    have h3 : b.get! i = b.data.toList[i] := by
      have h4 : i < b.data.size := by simpa using h2
      show b.data[i]! = _
      rw [getElem!_pos b.data i h4]; simp
    rw [h3]; simp
theorem list_data (b : ByteArray) : b.toList = b.data.toList := by
  unfold ByteArray.toList
  rw [list_loop b b.size 0 [] (by omega)]; simp
theorem data_size (s : ByteArray) : s.data.toList.length = s.size := by rw [Array.length_toList]; rfl
theorem take_snoc (s : ByteArray) (k : Nat) (h : k < s.size) : s.data.toList.take (k + 1) = s.data.toList.take k ++ [s[k]] := by
  rw [List.take_succ_eq_append_getElem (by rw [data_size]; exact h)]; rfl
theorem take_all (s : ByteArray) (k : Nat) (h : s.size ≤ k) : s.data.toList.take k = s.data.toList := List.take_of_length_le (by rw [data_size]; exact h)

structure RA1 (w : World) (v0 v1 v2 v3 v4 v5 : Value) (p : P) (s : ByteArray) (h0 : 0 < s.size) (hv : Value) (d : Nat → Bool) (x5 x9 x10 x11 x12 x13 x14 : Value) (W : World) : Prop where
  f0 : d 0 = true → x9 = (.agg #[v0, v1, v2, v3, v4, v5])
  f1 : d 1 = true → x10 = (.pointer (some ⟨w.heap.size, 2, none⟩))
  f2 : d 2 = true → v2 = x11
  f3 : d 3 = true → x12 = (.string s)
  f4 : d 4 = true → x13 = (.int .u8 ((s[0]'h0).toNat : Int))
  f5 : d 5 = true → hv = x14
  f6 : d 6 = true → hv = x5
  o6 : d 6 = true → d 5 = true
  px : Px w w.heap.size v0 v1 v2 v3 v4 v5 p W
  rh : d 5 = true → Ints W hv (p.first.filter (hasAt p (s[0]'h0).toNat)) ∧ Fr w.heap.size hv

structure RA2 (w : World) (v0 v1 v2 v3 v4 v5 : Value) (p : P) (s : ByteArray) (now : Value) (L : List Int) (q : Nat) (hq : q < s.size) (bv : Value) (hv : Value) (d : Nat → Bool) (x5 x21 x22 x23 x24 x25 x26 x27 x28 : Value) (W : World) : Prop where
  f0 : d 0 = true → x21 = (.agg #[v0, v1, v2, v3, v4, v5])
  f1 : d 1 = true → x22 = (.agg #[v0, v1, v2, v3, v4, v5])
  f2 : d 2 = true → now = x23
  f3 : d 3 = true → bv = x24
  f4 : d 4 = true → x25 = (.string s)
  f5 : d 5 = true → x26 = (.int .i64 (q : Int))
  f6 : d 6 = true → x27 = (.int .u8 ((s[q]'hq).toNat : Int))
  f7 : d 7 = true → hv = x28
  f8 : d 8 = true → hv = x5
  o3 : d 3 = true → d 2 = true
  o7 : d 7 = true → d 3 = true
  s5 : d 8 = false → now = x5
  o8 : d 8 = true → d 7 = true
  px : Px w w.heap.size v0 v1 v2 v3 v4 v5 p W
  nw : Ints W now L
  rb : d 3 = true → Ints W bv (sel 200 (behindB p L))
  rh : d 7 = true → Ints W hv ((sel 200 (behindB p L)).filter (hasAt p (s[q]'hq).toNat)) ∧ Fr w.heap.size hv

set_option maxHeartbeats 4000000 in
set_option maxRecDepth 20000 in
theorem run_any (v0 v1 v2 v3 v4 v5 : Value) (p : P) (s : ByteArray) (w : World) (hp : Pn w v0 v1 v2 v3 v4 v5 p) (hok : ok p = true) (hn : p.cls.length ≤ 200) (hs : s.size ≤ 200) :
    Calls Try.prog 40 #[.agg #[v0, v1, v2, v3, v4, v5], .string s] w fun e w' => ∃ v', e = .returned v' ∧ Ints w' v' (atL p s.data.toList) ∧ Fr w.heap.size v' ∧ Below w.heap.size w w' := by
  have HOK : Hid (ok p = true ∧ p.cls.length ≤ 200) := ⟨hok, hn⟩
  have HFI : Hid ((∀ x ∈ p.first, 0 ≤ x ∧ x < (p.cls.length : Int)) ∧ p.first.length ≤ 200) := by
    have h := ((ok_iff p).1 hok).2.2.2.2.2.2.1
    refine ⟨fun x hx => by have := ((risesFrom_iff _ _ _).1 h).1 x hx; omega, ?_⟩
    rw [rises_sel h]
    exact Nat.le_trans (sel_length _ _) hn
  have H0 : Hid (Px w w.heap.size v0 v1 v2 v3 v4 v5 p (w.alloc (Obj.cells #[v0, v1, v2, v3, v4, v5] 28))) := Px.box hp
  clear hp hok hn
  go_enter Try.func40, Try.ntmps40
  by_cases h0 : 0 < s.size
  · have hse3 : s.toList.isEmpty = false := by
      rw [list_data]
      cases e : s.data.toList with
      | nil => have := data_size s; rw [e] at this; simp at this; omega
      | cons _ _ => rfl
    go_wp2_with fail
    refine wp_region_free mixed (fun a0 d a W => ∃ (hv : Value) (x5 x9 x10 x11 x12 x13 x14 : Value), a = (((((((a0.put (some 5) x5).put (some 9) x9).put (some 10) x10).put (some 11) x11).put (some 12) x12).put (some 13) x13).put (some 14) x14) ∧ Hid (RA1 w v0 v1 v2 v3 v4 v5 p s h0 hv d x5 x9 x10 x11 x12 x13 x14 W)) (by kernel_rfl) ⟨undef, undef, undef, undef, undef, undef, undef, undef, by simp only [Act.put, List.setIfInBounds_toArray, List.set_cons_zero, List.set_cons_succ], ?_⟩ ?_ ?_
    · exact ⟨fun h => no_way h, fun h => no_way h, fun h => no_way h, fun h => no_way h, fun h => no_way h, fun h => no_way h, fun h => no_way h, fun h => no_way h, H0.out.drew, fun h => no_way h⟩
    · simp only [StepAll, and_true]
      refine ⟨?_, ?_, ?_, ?_, ?_, ?_, ?_⟩
      · intro d a W hI hd hdep
        obtain ⟨hv, x5, x9, x10, x11, x12, x13, x14, rfl, hF⟩ := hI
        have y0 := hF.out.px.c0
        have y1 := hF.out.px.c1
        have y2 := hF.out.px.c2
        have y3 := hF.out.px.c3
        have y4 := hF.out.px.c4
        have y5 := hF.out.px.c5
        clear hdep hd
        intro K hK
        simp only [Act.put, List.setIfInBounds_toArray, List.set_cons_zero, List.set_cons_succ]
        go_simp
        refine hK.out _ _ ⟨hv, x5, (.agg #[v0, v1, v2, v3, v4, v5]), x10, x11, x12, x13, x14, by simp only [Act.put, List.setIfInBounds_toArray, List.set_cons_zero, List.set_cons_succ], ?_⟩
        exact ⟨fun _ => rfl, fun h => hF.out.f1 (by simpa using h), fun h => hF.out.f2 (by simpa using h), fun h => hF.out.f3 (by simpa using h), fun h => hF.out.f4 (by simpa using h), fun h => hF.out.f5 (by simpa using h), fun h => hF.out.f6 (by simpa using h), fun h => by have := hF.out.o6 (by simpa using h); simpa using this, hF.out.px, fun h => hF.out.rh (by simpa using h)⟩
      · intro d a W hI hd hdep
        obtain ⟨hv, x5, x9, x10, x11, x12, x13, x14, rfl, hF⟩ := hI
        clear hdep hd
        intro K hK
        simp only [Act.put, List.setIfInBounds_toArray, List.set_cons_zero, List.set_cons_succ]
        go_simp
        refine hK.out _ _ ⟨hv, x5, x9, (.pointer (some ⟨w.heap.size, 2, none⟩)), x11, x12, x13, x14, by simp only [Act.put, List.setIfInBounds_toArray, List.set_cons_zero, List.set_cons_succ], ?_⟩
        exact ⟨fun h => hF.out.f0 (by simpa using h), fun _ => rfl, fun h => hF.out.f2 (by simpa using h), fun h => hF.out.f3 (by simpa using h), fun h => hF.out.f4 (by simpa using h), fun h => hF.out.f5 (by simpa using h), fun h => hF.out.f6 (by simpa using h), fun h => by have := hF.out.o6 (by simpa using h); simpa using this, hF.out.px, fun h => hF.out.rh (by simpa using h)⟩
      · intro d a W hI hd hdep
        obtain ⟨hv, x5, x9, x10, x11, x12, x13, x14, rfl, hF⟩ := hI
        have hd1 : d 1 = true := dep_of hdep 1 (by kernel_rfl)
        obtain rfl := hF.out.f1 hd1
        have y2 := hF.out.px.c2
        clear hdep hd hd1
        intro K hK
        simp only [Act.put, List.setIfInBounds_toArray, List.set_cons_zero, List.set_cons_succ]
        go_simp
        refine hK.out _ _ ⟨hv, x5, x9, (.pointer (some ⟨w.heap.size, 2, none⟩)), v2, x12, x13, x14, by simp only [Act.put, List.setIfInBounds_toArray, List.set_cons_zero, List.set_cons_succ], ?_⟩
        exact ⟨fun h => hF.out.f0 (by simpa using h), fun h => hF.out.f1 (by simpa using h), fun _ => rfl, fun h => hF.out.f3 (by simpa using h), fun h => hF.out.f4 (by simpa using h), fun h => hF.out.f5 (by simpa using h), fun h => hF.out.f6 (by simpa using h), fun h => by have := hF.out.o6 (by simpa using h); simpa using this, hF.out.px, fun h => hF.out.rh (by simpa using h)⟩
      · intro d a W hI hd hdep
        obtain ⟨hv, x5, x9, x10, x11, x12, x13, x14, rfl, hF⟩ := hI
        clear hdep hd
        intro K hK
        simp only [Act.put, List.setIfInBounds_toArray, List.set_cons_zero, List.set_cons_succ]
        go_simp
        refine hK.out _ _ ⟨hv, x5, x9, x10, x11, (.string s), x13, x14, by simp only [Act.put, List.setIfInBounds_toArray, List.set_cons_zero, List.set_cons_succ], ?_⟩
        exact ⟨fun h => hF.out.f0 (by simpa using h), fun h => hF.out.f1 (by simpa using h), fun h => hF.out.f2 (by simpa using h), fun _ => rfl, fun h => hF.out.f4 (by simpa using h), fun h => hF.out.f5 (by simpa using h), fun h => hF.out.f6 (by simpa using h), fun h => by have := hF.out.o6 (by simpa using h); simpa using this, hF.out.px, fun h => hF.out.rh (by simpa using h)⟩
      · intro d a W hI hd hdep
        obtain ⟨hv, x5, x9, x10, x11, x12, x13, x14, rfl, hF⟩ := hI
        have hd3 : d 3 = true := dep_of hdep 3 (by kernel_rfl)
        obtain rfl := hF.out.f3 hd3
        have hbr := byte_run s 0 h0
        clear hdep hd hd3
        intro K hK
        simp only [Act.put, List.setIfInBounds_toArray, List.set_cons_zero, List.set_cons_succ]
        go_simp
        refine hK.out _ _ ⟨hv, x5, x9, x10, x11, (.string s), (.int .u8 ((s[0]'h0).toNat : Int)), x14, by simp only [Act.put, List.setIfInBounds_toArray, List.set_cons_zero, List.set_cons_succ], ?_⟩
        exact ⟨fun h => hF.out.f0 (by simpa using h), fun h => hF.out.f1 (by simpa using h), fun h => hF.out.f2 (by simpa using h), fun h => hF.out.f3 (by simpa using h), fun _ => rfl, fun h => hF.out.f5 (by simpa using h), fun h => hF.out.f6 (by simpa using h), fun h => by have := hF.out.o6 (by simpa using h); simpa using this, hF.out.px, fun h => hF.out.rh (by simpa using h)⟩
      · intro d a W hI hd hdep
        obtain ⟨hv, x5, x9, x10, x11, x12, x13, x14, rfl, hF⟩ := hI
        have hd0 : d 0 = true := dep_of hdep 0 (by kernel_rfl)
        have hd2 : d 2 = true := dep_of hdep 2 (by kernel_rfl)
        have hd4 : d 4 = true := dep_of hdep 4 (by kernel_rfl)
        obtain rfl := hF.out.f0 hd0
        obtain rfl := hF.out.f2 hd2
        obtain rfl := hF.out.f4 hd4
        have HD : Hid (d 6 = false) := no_later hF.out.o6 hd
        clear hdep hd hd0 hd2 hd4
        intro K hK
        simp only [Act.put, List.setIfInBounds_toArray, List.set_cons_zero, List.set_cons_succ]
        go_simp
        refine (having_any v0 v1 v2 v3 v4 v5 v2 p p.first (s[0]'h0) W hF.out.px.pn hF.out.px.pn.first HFI.out.1 HFI.out.2).mono ?_
        rintro _ W2 ⟨hv, rfl, hI', hFr, hB⟩
        have hI := And.intro hI' (hFr.less hF.out.px.below.size)
        go_simp
        refine hK.out _ _ ⟨hv, x5, (.agg #[v0, v1, v2, v3, v4, v5]), x10, v2, x12, (.int .u8 ((s[0]'h0).toNat : Int)), hv, by simp only [Act.put, List.setIfInBounds_toArray, List.set_cons_zero, List.set_cons_succ], ?_⟩
        exact ⟨fun h => hF.out.f0 (by simpa using h), fun h => hF.out.f1 (by simpa using h), fun h => hF.out.f2 (by simpa using h), fun h => hF.out.f3 (by simpa using h), fun h => hF.out.f4 (by simpa using h), fun _ => rfl, fun h => by have := HD.out; simp [this] at h, fun _ => by simp, hF.out.px.next _ _ hB, fun _ => hI⟩
      · intro d a W hI hd hdep
        obtain ⟨hv, x5, x9, x10, x11, x12, x13, x14, rfl, hF⟩ := hI
        have hd5 : d 5 = true := dep_of hdep 5 (by kernel_rfl)
        obtain rfl := hF.out.f5 hd5
        have hdd := hd5
        clear hdep hd hd5
        intro K hK
        simp only [Act.put, List.setIfInBounds_toArray, List.set_cons_zero, List.set_cons_succ]
        go_simp
        refine hK.out _ _ ⟨hv, hv, x9, x10, x11, x12, x13, hv, by simp only [Act.put, List.setIfInBounds_toArray, List.set_cons_zero, List.set_cons_succ], ?_⟩
        exact ⟨fun h => hF.out.f0 (by simpa using h), fun h => hF.out.f1 (by simpa using h), fun h => hF.out.f2 (by simpa using h), fun h => hF.out.f3 (by simpa using h), fun h => hF.out.f4 (by simpa using h), fun h => hF.out.f5 (by simpa using h), fun _ => rfl, fun _ => by simpa using hdd, hF.out.px, fun h => hF.out.rh (by simpa using h)⟩
    · intro d a W hI hall
      obtain ⟨hv, x5, x9, x10, x11, x12, x13, x14, rfl, hF⟩ := hI
      simp only [List.length_cons, List.length_nil] at hall
      obtain rfl := hF.out.f0 (hall 0 (by omega))
      obtain rfl := hF.out.f1 (hall 1 (by omega))
      obtain rfl := hF.out.f2 (hall 2 (by omega))
      obtain rfl := hF.out.f3 (hall 3 (by omega))
      obtain rfl := hF.out.f4 (hall 4 (by omega))
      obtain rfl := hF.out.f5 (hall 5 (by omega))
      obtain rfl := hF.out.f6 (hall 6 (by omega))
      have HR : Hid (Px w w.heap.size v0 v1 v2 v3 v4 v5 p W ∧ Ints W hv (p.first.filter (hasAt p (s[0]'h0).toNat)) ∧ Fr w.heap.size hv) := ⟨hF.out.px, hF.out.rh (hall 5 (by omega))⟩
      clear hF hall
      have HS0 : Hid ((p.first.filter (hasAt p (s[0]'h0).toNat)) = atL p (s.data.toList.take 1)) := by
        show _ = _
        have := take_snoc s 0 h0
        simp only [Nat.zero_add, List.take_zero, List.nil_append] at this
        rw [this, having_first ((ok_iff p).1 HOK.out.1).2.2.2.2.2.2.1]
        rfl
      rw [HS0.out] at HR
      simp only [Act.put, List.setIfInBounds_toArray, List.set_cons_zero, List.set_cons_succ]
      go_wp2_with fail
      go_loopw [6, 5] (fun i v wr => ∃ q : Nat, 1 ≤ q ∧ q ≤ s.size ∧ i = .int .i64 (q : Int) ∧ Hid (Ints wr v (atL p (s.data.toList.take q)) ∧ Px w w.heap.size v0 v1 v2 v3 v4 v5 p wr ∧ Fr w.heap.size v)) (fun i _ _ => s.size - (intOf i).toNat)
      case atStart => exact ⟨1, Nat.le_refl _, h0, rfl, HR.out.2.1, HR.out.1, HR.out.2.2⟩
      case round =>
        clear HR
        obtain ⟨q, hq1, hq2, rfl, HI⟩ := hrel
        by_cases hq : q < s.size
        · have hqi : (q : Int) < (s.size : Int) := by omega
          obtain ⟨L, HL⟩ : ∃ L, Hid (atL p (s.data.toList.take q) = L) := ⟨_, (rfl : atL p (s.data.toList.take q) = atL p (s.data.toList.take q))⟩
          have HLI : Hid (∀ x ∈ L, 0 ≤ x ∧ x < (p.cls.length : Int)) := by rw [← HL.out]; exact atL_in p _
          have HBI : Hid ((∀ x ∈ sel 200 (behindB p L), 0 ≤ x ∧ x < (p.cls.length : Int)) ∧ (sel 200 (behindB p L)).length ≤ 200) := by
            refine ⟨fun x hx => ?_, sel_length _ _⟩
            obtain ⟨y, -, h2, rfl⟩ := (sel_mem _ _ _).1 hx
            have := behind_in ((ok_iff p).1 HOK.out.1).2.2.2.2.2.2.2 L y h2
            omega
          have HI2 : Hid (Ints wr u5 L ∧ Px w w.heap.size v0 v1 v2 v3 v4 v5 p wr) := by rw [← HL.out]; exact ⟨HI.out.1, HI.out.2.1⟩
          clear HI
          go_wp2_with fail
          refine wp_region_free mixed (fun a0 d a W => ∃ (bv : Value) (hv : Value) (x5 x21 x22 x23 x24 x25 x26 x27 x28 : Value), a = (((((((((a0.put (some 5) x5).put (some 21) x21).put (some 22) x22).put (some 23) x23).put (some 24) x24).put (some 25) x25).put (some 26) x26).put (some 27) x27).put (some 28) x28) ∧ Hid (RA2 w v0 v1 v2 v3 v4 v5 p s u5 L q hq bv hv d x5 x21 x22 x23 x24 x25 x26 x27 x28 W)) (by kernel_rfl) ⟨undef, undef, u5, u21, u22, u23, u24, u25, u26, u27, u28, by simp only [Act.put, List.setIfInBounds_toArray, List.set_cons_zero, List.set_cons_succ], ?_⟩ ?_ ?_
          · exact ⟨fun h => no_way h, fun h => no_way h, fun h => no_way h, fun h => no_way h, fun h => no_way h, fun h => no_way h, fun h => no_way h, fun h => no_way h, fun h => no_way h, fun h => no_way h, fun h => no_way h, fun _ => rfl, fun h => no_way h, HI2.out.2.drew, HI2.out.1.below ⟨rfl, rfl, rfl, Nat.le_refl _, fun _ _ => rfl⟩, fun h => no_way h, fun h => no_way h⟩
          · simp only [StepAll, and_true]
            refine ⟨?_, ?_, ?_, ?_, ?_, ?_, ?_, ?_, ?_⟩
            · intro d a W hI hd hdep
              obtain ⟨bv, hv, x5, x21, x22, x23, x24, x25, x26, x27, x28, rfl, hF⟩ := hI
              have y0 := hF.out.px.c0
              have y1 := hF.out.px.c1
              have y2 := hF.out.px.c2
              have y3 := hF.out.px.c3
              have y4 := hF.out.px.c4
              have y5 := hF.out.px.c5
              clear hdep hd
              intro K hK
              simp only [Act.put, List.setIfInBounds_toArray, List.set_cons_zero, List.set_cons_succ]
              go_simp
              refine hK.out _ _ ⟨bv, hv, x5, (.agg #[v0, v1, v2, v3, v4, v5]), x22, x23, x24, x25, x26, x27, x28, by simp only [Act.put, List.setIfInBounds_toArray, List.set_cons_zero, List.set_cons_succ], ?_⟩
              exact ⟨fun _ => rfl, fun h => hF.out.f1 (by simpa using h), fun h => hF.out.f2 (by simpa using h), fun h => hF.out.f3 (by simpa using h), fun h => hF.out.f4 (by simpa using h), fun h => hF.out.f5 (by simpa using h), fun h => hF.out.f6 (by simpa using h), fun h => hF.out.f7 (by simpa using h), fun h => hF.out.f8 (by simpa using h), fun h => by have := hF.out.o3 (by simpa using h); simpa using this, fun h => by have := hF.out.o7 (by simpa using h); simpa using this, fun h => hF.out.s5 (by simpa using h), fun h => by have := hF.out.o8 (by simpa using h); simpa using this, hF.out.px, hF.out.nw, fun h => hF.out.rb (by simpa using h), fun h => hF.out.rh (by simpa using h)⟩
            · intro d a W hI hd hdep
              obtain ⟨bv, hv, x5, x21, x22, x23, x24, x25, x26, x27, x28, rfl, hF⟩ := hI
              have y0 := hF.out.px.c0
              have y1 := hF.out.px.c1
              have y2 := hF.out.px.c2
              have y3 := hF.out.px.c3
              have y4 := hF.out.px.c4
              have y5 := hF.out.px.c5
              clear hdep hd
              intro K hK
              simp only [Act.put, List.setIfInBounds_toArray, List.set_cons_zero, List.set_cons_succ]
              go_simp
              refine hK.out _ _ ⟨bv, hv, x5, x21, (.agg #[v0, v1, v2, v3, v4, v5]), x23, x24, x25, x26, x27, x28, by simp only [Act.put, List.setIfInBounds_toArray, List.set_cons_zero, List.set_cons_succ], ?_⟩
              exact ⟨fun h => hF.out.f0 (by simpa using h), fun _ => rfl, fun h => hF.out.f2 (by simpa using h), fun h => hF.out.f3 (by simpa using h), fun h => hF.out.f4 (by simpa using h), fun h => hF.out.f5 (by simpa using h), fun h => hF.out.f6 (by simpa using h), fun h => hF.out.f7 (by simpa using h), fun h => hF.out.f8 (by simpa using h), fun h => by have := hF.out.o3 (by simpa using h); simpa using this, fun h => by have := hF.out.o7 (by simpa using h); simpa using this, fun h => hF.out.s5 (by simpa using h), fun h => by have := hF.out.o8 (by simpa using h); simpa using this, hF.out.px, hF.out.nw, fun h => hF.out.rb (by simpa using h), fun h => hF.out.rh (by simpa using h)⟩
            · intro d a W hI hd hdep
              obtain ⟨bv, hv, x5, x21, x22, x23, x24, x25, x26, x27, x28, rfl, hF⟩ := hI
              have HD8 : d 8 = false := no_later (fun h => hF.out.o3 (hF.out.o7 (hF.out.o8 h))) hd
              obtain rfl := hF.out.s5 HD8
              clear HD8
              clear hdep hd
              intro K hK
              simp only [Act.put, List.setIfInBounds_toArray, List.set_cons_zero, List.set_cons_succ]
              go_simp
              refine hK.out _ _ ⟨bv, hv, u5, x21, x22, u5, x24, x25, x26, x27, x28, by simp only [Act.put, List.setIfInBounds_toArray, List.set_cons_zero, List.set_cons_succ], ?_⟩
              exact ⟨fun h => hF.out.f0 (by simpa using h), fun h => hF.out.f1 (by simpa using h), fun _ => rfl, fun h => hF.out.f3 (by simpa using h), fun h => hF.out.f4 (by simpa using h), fun h => hF.out.f5 (by simpa using h), fun h => hF.out.f6 (by simpa using h), fun h => hF.out.f7 (by simpa using h), fun h => hF.out.f8 (by simpa using h), fun _ => by simp, fun h => by have := hF.out.o7 (by simpa using h); simpa using this, fun _ => rfl, fun h => by have := hF.out.o8 (by simpa using h); simpa using this, hF.out.px, hF.out.nw, fun h => hF.out.rb (by simpa using h), fun h => hF.out.rh (by simpa using h)⟩
            · intro d a W hI hd hdep
              obtain ⟨bv, hv, x5, x21, x22, x23, x24, x25, x26, x27, x28, rfl, hF⟩ := hI
              have hd1 : d 1 = true := dep_of hdep 1 (by kernel_rfl)
              have hd2 : d 2 = true := dep_of hdep 2 (by kernel_rfl)
              obtain rfl := hF.out.f1 hd1
              obtain rfl := hF.out.f2 hd2
              have hdd := hd2
              clear hdep hd hd1 hd2
              intro K hK
              simp only [Act.put, List.setIfInBounds_toArray, List.set_cons_zero, List.set_cons_succ]
              go_simp
              refine (behind_any v0 v1 v2 v3 v4 v5 u5 p L W hF.out.px.pn hF.out.nw HLI.out HOK.out.1 HOK.out.2).mono ?_
              rintro _ W2 ⟨bv, rfl, hI, -, hB⟩
              go_simp
              refine hK.out _ _ ⟨bv, hv, x5, x21, (.agg #[v0, v1, v2, v3, v4, v5]), u5, bv, x25, x26, x27, x28, by simp only [Act.put, List.setIfInBounds_toArray, List.set_cons_zero, List.set_cons_succ], ?_⟩
              exact ⟨fun h => hF.out.f0 (by simpa using h), fun h => hF.out.f1 (by simpa using h), fun h => hF.out.f2 (by simpa using h), fun _ => rfl, fun h => hF.out.f4 (by simpa using h), fun h => hF.out.f5 (by simpa using h), fun h => hF.out.f6 (by simpa using h), fun h => hF.out.f7 (by simpa using h), fun h => hF.out.f8 (by simpa using h), fun _ => by simpa using hdd, fun _ => by simp, fun h => hF.out.s5 (by simpa using h), fun h => by have := hF.out.o8 (by simpa using h); simpa using this, hF.out.px.next _ _ hB, hF.out.nw.below hB, fun _ => hI, fun h => ⟨(hF.out.rh (by simpa using h)).1.below hB, (hF.out.rh (by simpa using h)).2⟩⟩
            · intro d a W hI hd hdep
              obtain ⟨bv, hv, x5, x21, x22, x23, x24, x25, x26, x27, x28, rfl, hF⟩ := hI
              clear hdep hd
              intro K hK
              simp only [Act.put, List.setIfInBounds_toArray, List.set_cons_zero, List.set_cons_succ]
              go_simp
              refine hK.out _ _ ⟨bv, hv, x5, x21, x22, x23, x24, (.string s), x26, x27, x28, by simp only [Act.put, List.setIfInBounds_toArray, List.set_cons_zero, List.set_cons_succ], ?_⟩
              exact ⟨fun h => hF.out.f0 (by simpa using h), fun h => hF.out.f1 (by simpa using h), fun h => hF.out.f2 (by simpa using h), fun h => hF.out.f3 (by simpa using h), fun _ => rfl, fun h => hF.out.f5 (by simpa using h), fun h => hF.out.f6 (by simpa using h), fun h => hF.out.f7 (by simpa using h), fun h => hF.out.f8 (by simpa using h), fun h => by have := hF.out.o3 (by simpa using h); simpa using this, fun h => by have := hF.out.o7 (by simpa using h); simpa using this, fun h => hF.out.s5 (by simpa using h), fun h => by have := hF.out.o8 (by simpa using h); simpa using this, hF.out.px, hF.out.nw, fun h => hF.out.rb (by simpa using h), fun h => hF.out.rh (by simpa using h)⟩
            · intro d a W hI hd hdep
              obtain ⟨bv, hv, x5, x21, x22, x23, x24, x25, x26, x27, x28, rfl, hF⟩ := hI
              clear hdep hd
              intro K hK
              simp only [Act.put, List.setIfInBounds_toArray, List.set_cons_zero, List.set_cons_succ]
              go_simp
              refine hK.out _ _ ⟨bv, hv, x5, x21, x22, x23, x24, x25, (.int .i64 (q : Int)), x27, x28, by simp only [Act.put, List.setIfInBounds_toArray, List.set_cons_zero, List.set_cons_succ], ?_⟩
              exact ⟨fun h => hF.out.f0 (by simpa using h), fun h => hF.out.f1 (by simpa using h), fun h => hF.out.f2 (by simpa using h), fun h => hF.out.f3 (by simpa using h), fun h => hF.out.f4 (by simpa using h), fun _ => rfl, fun h => hF.out.f6 (by simpa using h), fun h => hF.out.f7 (by simpa using h), fun h => hF.out.f8 (by simpa using h), fun h => by have := hF.out.o3 (by simpa using h); simpa using this, fun h => by have := hF.out.o7 (by simpa using h); simpa using this, fun h => hF.out.s5 (by simpa using h), fun h => by have := hF.out.o8 (by simpa using h); simpa using this, hF.out.px, hF.out.nw, fun h => hF.out.rb (by simpa using h), fun h => hF.out.rh (by simpa using h)⟩
            · intro d a W hI hd hdep
              obtain ⟨bv, hv, x5, x21, x22, x23, x24, x25, x26, x27, x28, rfl, hF⟩ := hI
              have hd4 : d 4 = true := dep_of hdep 4 (by kernel_rfl)
              have hd5 : d 5 = true := dep_of hdep 5 (by kernel_rfl)
              obtain rfl := hF.out.f4 hd4
              obtain rfl := hF.out.f5 hd5
              have hbr := byte_run s q hq
              clear hdep hd hd4 hd5
              intro K hK
              simp only [Act.put, List.setIfInBounds_toArray, List.set_cons_zero, List.set_cons_succ]
              go_simp
              refine hK.out _ _ ⟨bv, hv, x5, x21, x22, x23, x24, (.string s), (.int .i64 (q : Int)), (.int .u8 ((s[q]'hq).toNat : Int)), x28, by simp only [Act.put, List.setIfInBounds_toArray, List.set_cons_zero, List.set_cons_succ], ?_⟩
              exact ⟨fun h => hF.out.f0 (by simpa using h), fun h => hF.out.f1 (by simpa using h), fun h => hF.out.f2 (by simpa using h), fun h => hF.out.f3 (by simpa using h), fun h => hF.out.f4 (by simpa using h), fun h => hF.out.f5 (by simpa using h), fun _ => rfl, fun h => hF.out.f7 (by simpa using h), fun h => hF.out.f8 (by simpa using h), fun h => by have := hF.out.o3 (by simpa using h); simpa using this, fun h => by have := hF.out.o7 (by simpa using h); simpa using this, fun h => hF.out.s5 (by simpa using h), fun h => by have := hF.out.o8 (by simpa using h); simpa using this, hF.out.px, hF.out.nw, fun h => hF.out.rb (by simpa using h), fun h => hF.out.rh (by simpa using h)⟩
            · intro d a W hI hd hdep
              obtain ⟨bv, hv, x5, x21, x22, x23, x24, x25, x26, x27, x28, rfl, hF⟩ := hI
              have hd0 : d 0 = true := dep_of hdep 0 (by kernel_rfl)
              have hd3 : d 3 = true := dep_of hdep 3 (by kernel_rfl)
              have hd6 : d 6 = true := dep_of hdep 6 (by kernel_rfl)
              obtain rfl := hF.out.f0 hd0
              obtain rfl := hF.out.f3 hd3
              obtain rfl := hF.out.f6 hd6
              have hdd := hd3
              have hrb := hF.out.rb hd3
              have HD : Hid (d 8 = false) := no_later hF.out.o8 hd
              clear hdep hd hd0 hd3 hd6
              intro K hK
              simp only [Act.put, List.setIfInBounds_toArray, List.set_cons_zero, List.set_cons_succ]
              go_simp
              refine (having_any v0 v1 v2 v3 v4 v5 bv p (sel 200 (behindB p L)) (s[q]'hq) W hF.out.px.pn hrb HBI.out.1 HBI.out.2).mono ?_
              rintro _ W2 ⟨hv, rfl, hI', hFr, hB⟩
              have hI := And.intro hI' (hFr.less hF.out.px.below.size)
              go_simp
              refine hK.out _ _ ⟨bv, hv, x5, (.agg #[v0, v1, v2, v3, v4, v5]), x22, x23, bv, x25, x26, (.int .u8 ((s[q]'hq).toNat : Int)), hv, by simp only [Act.put, List.setIfInBounds_toArray, List.set_cons_zero, List.set_cons_succ], ?_⟩
              exact ⟨fun h => hF.out.f0 (by simpa using h), fun h => hF.out.f1 (by simpa using h), fun h => hF.out.f2 (by simpa using h), fun h => hF.out.f3 (by simpa using h), fun h => hF.out.f4 (by simpa using h), fun h => hF.out.f5 (by simpa using h), fun h => hF.out.f6 (by simpa using h), fun _ => rfl, fun h => by have := HD.out; simp [this] at h, fun h => by have := hF.out.o3 (by simpa using h); simpa using this, fun _ => by simpa using hdd, fun h => hF.out.s5 (by simpa using h), fun _ => by simp, hF.out.px.next _ _ hB, hF.out.nw.below hB, fun h => (hF.out.rb (by simpa using h)).below hB, fun _ => hI⟩
            · intro d a W hI hd hdep
              obtain ⟨bv, hv, x5, x21, x22, x23, x24, x25, x26, x27, x28, rfl, hF⟩ := hI
              have hd7 : d 7 = true := dep_of hdep 7 (by kernel_rfl)
              obtain rfl := hF.out.f7 hd7
              have hdd := hd7
              clear hdep hd hd7
              intro K hK
              simp only [Act.put, List.setIfInBounds_toArray, List.set_cons_zero, List.set_cons_succ]
              go_simp
              refine hK.out _ _ ⟨bv, hv, hv, x21, x22, x23, x24, x25, x26, x27, hv, by simp only [Act.put, List.setIfInBounds_toArray, List.set_cons_zero, List.set_cons_succ], ?_⟩
              exact ⟨fun h => hF.out.f0 (by simpa using h), fun h => hF.out.f1 (by simpa using h), fun h => hF.out.f2 (by simpa using h), fun h => hF.out.f3 (by simpa using h), fun h => hF.out.f4 (by simpa using h), fun h => hF.out.f5 (by simpa using h), fun h => hF.out.f6 (by simpa using h), fun h => hF.out.f7 (by simpa using h), fun _ => rfl, fun h => by have := hF.out.o3 (by simpa using h); simpa using this, fun h => by have := hF.out.o7 (by simpa using h); simpa using this, fun h => by simp at h, fun _ => by simpa using hdd, hF.out.px, hF.out.nw, fun h => hF.out.rb (by simpa using h), fun h => hF.out.rh (by simpa using h)⟩
          · intro d a W hI hall
            obtain ⟨bv, hv, x5, x21, x22, x23, x24, x25, x26, x27, x28, rfl, hF⟩ := hI
            simp only [List.length_cons, List.length_nil] at hall
            obtain rfl := hF.out.f0 (hall 0 (by omega))
            obtain rfl := hF.out.f1 (hall 1 (by omega))
            obtain rfl := hF.out.f2 (hall 2 (by omega))
            obtain rfl := hF.out.f3 (hall 3 (by omega))
            obtain rfl := hF.out.f4 (hall 4 (by omega))
            obtain rfl := hF.out.f5 (hall 5 (by omega))
            obtain rfl := hF.out.f6 (hall 6 (by omega))
            obtain rfl := hF.out.f7 (hall 7 (by omega))
            obtain rfl := hF.out.f8 (hall 8 (by omega))
            have HR : Hid (Ints W hv ((sel 200 (behindB p L)).filter (hasAt p (s[q]'hq).toNat)) ∧ Px w w.heap.size v0 v1 v2 v3 v4 v5 p W ∧ Fr w.heap.size hv) := ⟨(hF.out.rh (hall 7 (by omega))).1, hF.out.px, (hF.out.rh (hall 7 (by omega))).2⟩
            clear hF hall
            have HS1 : Hid (((sel 200 (behindB p L)).filter (hasAt p (s[q]'hq).toNat)) = atL p (s.data.toList.take (q + 1))) := by
              show _ = _
              rw [take_snoc s q hq, atL_snoc, if_neg (by intro e; have := congrArg List.length e; simp only [List.length_take, data_size, List.length_nil] at this; omega), HL.out, having_behind ((ok_iff p).1 HOK.out.1).2.2.2.2.2.2.2 HOK.out.2]
            rw [HS1.out] at HR
            simp only [Act.put, List.setIfInBounds_toArray, List.set_cons_zero, List.set_cons_succ]
            go_wp2_with fail
            go_roundw
            case rel => exact ⟨q + 1, by omega, by omega, by go_num, HR⟩
            case measure => simp [intOf]; omega
        · have HI3 : Hid (Ints wr u5 (atL p s.data.toList) ∧ Fr w.heap.size u5 ∧ Below w.heap.size w wr) := by
            have := HI.out
            rw [take_all s q (by omega)] at this
            exact ⟨this.1, this.2.2, this.2.1.below⟩
          clear HI
          go_wp2_with fail
          go_ret
          exact ⟨_, rfl, HI3.out.1, HI3.out.2.1, HI3.out.2.2⟩
  · have hse : s = ⟨#[]⟩ := by
      obtain ⟨d⟩ := s
      have : d.size = 0 := by have : ¬ 0 < d.size := h0; omega
      rw [Array.eq_empty_of_size_eq_zero this]
    subst hse
    go_wp2_with fail
    go_ret
    exact ⟨_, rfl, ints_nil _, fr_nil _, H0.out.below⟩
end Go.Proofs.Ytgdaegmmapljgaa
