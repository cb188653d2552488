/-
  The contracts of slices.Equal at numbers and at rows, and of pushlaw.SameDfa.
-/
import Derived.Test.YtlmlkpdppkgenaaWDf
import Derived.Deep.Cut
import Derived.Test.YtlmlkpdppkgenaaFree
import Derived.Test.YtlmlkpdppkgenaaPoRun
import Derived.ChangeKeysEq
namespace Go.Proofs.Ytlmlkpdppkgenaa.Df
open Go.RowKit
open Dfa
structure Sm (w W : World) : Prop where
  heap : W.heap = w.heap
  os : W.os = w.os
  tape : W.tape = w.tape
  output : W.output = w.output
theorem Sm.drew (w : World) : Sm w w.drew := ⟨rfl, rfl, rfl, rfl⟩
theorem Sm.cell {w W : World} (h : Sm w W) (a : Addr) : W.cell? a = w.cell? a := by simp [World.cell?, h.heap]
theorem Sm.frozen {w W : World} (h : Sm w W) (a : Addr) : W.frozen? a = w.frozen? a := by simp [World.frozen?, h.heap]
theorem Sm.below {w W : World} (h : Sm w W) (B : Nat) : Below B w W := ⟨h.os, h.tape, h.output, by rw [h.heap]; exact Nat.le_refl _, fun k _ => by rw [h.heap]⟩

def rowEq (f g : Nat → Int) : Bool := (List.range 256).all fun j => f j == g j
def eqR (n m : Nat) (R S : Nat → Nat → Int) : Bool := (n == m) && (List.range n).all fun i => rowEq (R i) (S i)
def eqT (n m : Nat) (T U : Nat → Int) : Bool := (n == m) && (List.range n).all fun i => T i == U i
theorem rowEq_refl (f g : Nat → Int) (h : ∀ j, j < 256 → f j = g j) : rowEq f g = true := all_true fun j hj => by simp [h j hj]
theorem eqR_refl (n : Nat) (R S : Nat → Nat → Int) (h : ∀ i j, i < n → j < 256 → R i j = S i j) : eqR n n R S = true := by
  unfold eqR
  rw [show (List.range n).all (fun i => rowEq (R i) (S i)) = true from all_true fun i hi => rowEq_refl _ _ fun j hj => h i j hi hj]; simp
theorem eqT_refl (n : Nat) (T U : Nat → Int) (h : ∀ i, i < n → T i = U i) : eqT n n T U = true := by
  unfold eqT
  rw [show (List.range n).all (fun i => T i == U i) = true from all_true fun i hi => by simp [h i hi]]; simp
theorem run_eqItems_row (d : Nat) (f g : Nat → Int) (w : World) : ∀ is : List Nat, (∀ i ∈ is, i < 256) → (Op.eqItems (d + 1) 70 1 (rl f).toArray (rl g).toArray is).run Try.prog w = .ok (is.all fun i => f i == g i) w
  | [], _ => by simp [Op.eqItems]
  | i :: is, h => by
    have hi := h i (by simp)
    have ih := run_eqItems_row d f g w is (fun j hj => h j (by simp [hj]))
    have u45 := Try.underlying70
    have p1 : (part 70 (rl f).toArray (i * 1)).run Try.prog w = .ok (.int .i16 (f i)) w := by
      have h2 := rl_at f i hi
      simp [part, isAgg, run_underlying u45, h2]
    have p2 : (part 70 (rl g).toArray (i * 1)).run Try.prog w = .ok (.int .i16 (g i)) w := by
      have h2 := rl_at g i hi
      simp [part, isAgg, run_underlying u45, h2]
    simp only [Op.eqItems, Sem.run_bind, p1, p2, Result.andThen_ok, run_equalIn_int w d 70 .i16 .i16 (f i) (g i) u45]
    by_cases e : f i = g i
    · simp [e, ih]
    · simp [e]
theorem info70 : (Try.prog.info? 70).map (fun i => (i.zero, i.size, i.bytes)) = some (some (.int .i16 0), 1, 2) := by kernel_rfl
theorem guard42 : Try.prog.eqGuardType Try.prog.depth 72 = false := by kernel_rfl
theorem neq52 (f g : Nat → Int) (w : World) : (binOp .neq 72 (.agg (rl f).toArray) (.agg (rl g).toArray)).run Try.prog w = .ok (.bool (!(rowEq f g))) w := by
  obtain ⟨i, hi, _, _, _⟩ := info_parts info70
  rw [run_neq_struct, show (10000 : Nat) = 9999 + 1 from rfl, run_equalIn_array w 9999 _ _ Try.underlying72 hi]
  simp only [cells70]
  rw [run_eqItems_row 9998 f g w (List.range 256) (fun i hi => by simpa using hi)]
  rfl

set_option maxHeartbeats 1600000 in
set_option maxRecDepth 20000 in
theorem equalT_any (tv uv : Value) (n m : Nat) (T U : Nat → Int) (w : World) (ht : Ts w tv n T) (hu : Ts w uv m U) :
    Calls Try.prog 33 #[tv, uv] w fun e w' => e = .returned (.bool (eqT n m T U)) ∧ Below w.heap.size w w' := by
  obtain ⟨ao, cap, rfl, hn, hwf, hcs⟩ := ht
  obtain ⟨ao', cap2, rfl, hm, hwf', hcs'⟩ := hu
  clear hwf hwf'
  go_enter Try.func33, Try.ntmps33
  by_cases hnm : n = m
  · subst hnm
    have hbb : ((n : Int) != (n : Int)) = false := by simp
    go_wp2_with fail
    go_loopw [13] (fun i wr => ∃ k : Nat, k ≤ n ∧ i = .int .i64 (k : Int) ∧ Hid (∀ i, i < k → (T i == U i) = true) ∧ Below w.heap.size w wr) (fun i _ => n - (intOf i).toNat)
    case atStart => exact ⟨0, by omega, rfl, fun i hi => by omega, Below.refl _ _⟩
    case round =>
      obtain ⟨k, hk, rfl, HA, hbel⟩ := hrel
      have HB0 : Hid (Below w.heap.size w wr) := hbel
      by_cases hlt : k < n
      · obtain ⟨b, o, rfl, hb, hc⟩ := hcs.resolve_left (by omega)
        obtain ⟨b2, o2, rfl, hb2, hc2⟩ := hcs'.resolve_left (by omega)
        have c0 := (hbel.cell (p := ⟨b, o + k, none⟩) hb).trans (hc k hlt)
        have c1 := (hbel.cell (p := ⟨b2, o2 + k, none⟩) hb2).trans (hc2 k hlt)
        have hk0 : (0 : Int) ≤ (k : Int) := by omega
        have hk1 : (k : Int) < (n : Int) := by omega
        obtain ⟨x, HX⟩ : ∃ z, Hid (T k = z) := ⟨_, (rfl : T k = T k)⟩
        obtain ⟨y, HY⟩ : ∃ z, Hid (U k = z) := ⟨_, (rfl : U k = U k)⟩
        rw [HX.out] at c0
        rw [HY.out] at c1
        clear hcs hc hcs' hc2 hbel
        by_cases he : x = y
        · have HE : Hid (x = y) := he
          subst he
          have hxx : (x != x) = false := by simp
          go_wp2_with (go_quiet (fail))
          go_roundw
          case rel =>
            refine ⟨k + 1, by omega, by go_num, fun i hi => ?_, below_drewN HB0.out _⟩
            by_cases e : i = k
            · subst e; rw [HX.out, HY.out]; simp
            · exact HA.out i (by omega)
          case measure => simp [intOf]; omega
        · have hxx : (x != y) = true := by simp; exact he
          have HE : Hid (¬ x = y) := he
          clear he
          go_wp2_with (go_quiet (fail))
          go_ret
          refine ⟨?_, below_drewN HB0.out _⟩
          rw [show eqT n n T U = false by unfold eqT; rw [show (List.range n).all (fun i => T i == U i) = false from all_false hlt (by rw [HX.out, HY.out]; simp; exact HE.out)]; simp]
          rfl
      · go_wp2_with fail
        go_ret
        refine ⟨?_, HB0.out⟩
        rw [show eqT n n T U = true by unfold eqT; rw [show (List.range n).all (fun i => T i == U i) = true from all_true fun i hi => HA.out i (by omega)]; simp]
        rfl
  · have hbb : ((n : Int) != (m : Int)) = true := by simp; omega
    have HE : Hid (¬ n = m) := hnm
    clear hnm
    go_wp2_with fail
    go_ret
    refine ⟨?_, Below.refl _ _⟩
    rw [show eqT n m T U = false by unfold eqT; simp [HE.out]]
    rfl

structure RQ (wr : World) (b o cap b2 o2 cap2 n k : Nat) (l1 l2 : List Value) (e : Bool) (d : Nat → Bool) (x16 x17 x18 x19 x20 x21 x22 x23 x24 : Value) (W : World) : Prop where
  f0 : d 0 = true → x16 = (.slice (some ⟨b, o, none⟩) n cap)
  f1 : d 1 = true → x17 = (.int .i64 (k : Int))
  f2 : d 2 = true → x18 = (.pointer (some ⟨b, o + k * 256, none⟩))
  f3 : d 3 = true → x19 = (.agg l1.toArray)
  f4 : d 4 = true → x20 = (.slice (some ⟨b2, o2, none⟩) n cap2)
  f5 : d 5 = true → x21 = (.int .i64 (k : Int))
  f6 : d 6 = true → x22 = (.pointer (some ⟨b2, o2 + k * 256, none⟩))
  f7 : d 7 = true → x23 = (.agg l2.toArray)
  f8 : d 8 = true → x24 = (.bool (!e))
  sm : Sm wr W

set_option maxHeartbeats 4000000 in
set_option maxRecDepth 20000 in
theorem equalR_any (rv sv : Value) (n m : Nat) (R R' : Nat → Nat → Int) (w : World) (hr : Rw w rv n R) (hs : Rw w sv m R') :
    Calls Try.prog 32 #[rv, sv] w fun e w' => e = .returned (.bool (eqR n m R R')) ∧ Below w.heap.size w w' := by
  obtain ⟨ao, cap, rfl, hn, hwf, hcs⟩ := hr
  obtain ⟨ao', cap2, rfl, hm, hwf', hcs'⟩ := hs
  clear hwf hwf'
  go_enter Try.func32, Try.ntmps32
  by_cases hnm : n = m
  · subst hnm
    have hbb : ((n : Int) != (n : Int)) = false := by simp
    go_wp2_with fail
    go_loopw [13] (fun i wr => ∃ k : Nat, k ≤ n ∧ i = .int .i64 (k : Int) ∧ Hid (∀ i, i < k → rowEq (R i) (R' i) = true) ∧ Below w.heap.size w wr) (fun i _ => n - (intOf i).toNat)
    case atStart => exact ⟨0, by omega, rfl, fun i hi => by omega, Below.refl _ _⟩
    case round =>
      obtain ⟨k, hk, rfl, HA, hbel⟩ := hrel
      have HB0 : Hid (Below w.heap.size w wr) := hbel
      by_cases hlt : k < n
      · obtain ⟨b, o, rfl, hb, hc⟩ := hcs.resolve_left (by omega)
        obtain ⟨b2, o2, rfl, hb2, hc2⟩ := hcs'.resolve_left (by omega)
        have HR1 : Hid (wr.rangeAt b (o + k * 256) (rl (R k))) := range_of_cells fun j hj => (hbel.cell (p := ⟨b, o + k * 256 + j, none⟩) hb).trans (hc k hlt j hj)
        have HR2 : Hid (wr.rangeAt b2 (o2 + k * 256) (rl (R' k))) := range_of_cells fun j hj => (hbel.cell (p := ⟨b2, o2 + k * 256 + j, none⟩) hb2).trans (hc2 k hlt j hj)
        have HS1 : Hid ((Try.prog.info? 72).map (·.size) = some (rl (R k)).length) := by show _ = _; rw [rl_length]; exact size35
        have HS2 : Hid ((Try.prog.info? 72).map (·.size) = some (rl (R' k)).length) := by show _ = _; rw [rl_length]; exact size35
        have HNE : Hid (∀ w : World, (binOp .neq 72 (.agg (rl (R k)).toArray) (.agg (rl (R' k)).toArray)).run Try.prog w = .ok (.bool (!(rowEq (R k) (R' k)))) w) := neq52 (R k) (R' k)
        obtain ⟨l1, HL1⟩ : ∃ q, Hid (rl (R k) = q) := ⟨_, (rfl : rl (R k) = rl (R k))⟩
        obtain ⟨l2, HL2⟩ : ∃ q, Hid (rl (R' k) = q) := ⟨_, (rfl : rl (R' k) = rl (R' k))⟩
        obtain ⟨e, HEQ⟩ : ∃ q, Hid (rowEq (R k) (R' k) = q) := ⟨_, (rfl : rowEq (R k) (R' k) = rowEq (R k) (R' k))⟩
        rw [HL1.out] at HR1 HS1 HNE
        rw [HL2.out] at HR2 HS2 HNE
        rw [HEQ.out] at HNE
        have hk0 : (0 : Int) ≤ (k : Int) := by omega
        have hk1 : (k : Int) < (n : Int) := by omega
        clear hcs hc hcs' hc2 hbel HL1 HL2
        go_wp2_with fail
        refine wp_region_free mixed (fun a0 d a W => ∃ (x16 x17 x18 x19 x20 x21 x22 x23 x24 : Value), a = (((((((((a0.put (some 16) x16).put (some 17) x17).put (some 18) x18).put (some 19) x19).put (some 20) x20).put (some 21) x21).put (some 22) x22).put (some 23) x23).put (some 24) x24) ∧ Hid (RQ wr b o cap b2 o2 cap2 n k l1 l2 e d x16 x17 x18 x19 x20 x21 x22 x23 x24 W)) (by kernel_rfl) ⟨u16, u17, u18, u19, u20, u21, u22, u23, u24, by simp only [Act.put, List.setIfInBounds_toArray, List.set_cons_zero, List.set_cons_succ], ?_⟩ ?_ ?_
        · exact ⟨fun h => no_way h, fun h => no_way h, fun h => no_way h, fun h => no_way h, fun h => no_way h, fun h => no_way h, fun h => no_way h, fun h => no_way h, fun h => no_way h, Sm.drew wr⟩
        · simp only [StepAll, and_true]
          refine ⟨?_, ?_, ?_, ?_, ?_, ?_, ?_, ?_, ?_⟩
          · intro d a W hI hd hdep
            obtain ⟨x16, x17, x18, x19, x20, x21, x22, x23, x24, rfl, hF⟩ := hI
            clear hdep hd
            intro K hK
            simp only [Act.put, List.setIfInBounds_toArray, List.set_cons_zero, List.set_cons_succ]
            go_simp
            refine hK.out _ _ ⟨(.slice (some ⟨b, o, none⟩) n cap), x17, x18, x19, x20, x21, x22, x23, x24, by simp only [Act.put, List.setIfInBounds_toArray, List.set_cons_zero, List.set_cons_succ], ?_⟩
            exact ⟨fun _ => rfl, fun h => hF.out.f1 (by simpa using h), fun h => hF.out.f2 (by simpa using h), fun h => hF.out.f3 (by simpa using h), fun h => hF.out.f4 (by simpa using h), fun h => hF.out.f5 (by simpa using h), fun h => hF.out.f6 (by simpa using h), fun h => hF.out.f7 (by simpa using h), fun h => hF.out.f8 (by simpa using h), hF.out.sm⟩
          · intro d a W hI hd hdep
            obtain ⟨x16, x17, x18, x19, x20, x21, x22, x23, x24, rfl, hF⟩ := hI
            clear hdep hd
            intro K hK
            simp only [Act.put, List.setIfInBounds_toArray, List.set_cons_zero, List.set_cons_succ]
            go_simp
            refine hK.out _ _ ⟨x16, (.int .i64 (k : Int)), x18, x19, x20, x21, x22, x23, x24, by simp only [Act.put, List.setIfInBounds_toArray, List.set_cons_zero, List.set_cons_succ], ?_⟩
            exact ⟨fun h => hF.out.f0 (by simpa using h), fun _ => rfl, fun h => hF.out.f2 (by simpa using h), fun h => hF.out.f3 (by simpa using h), fun h => hF.out.f4 (by simpa using h), fun h => hF.out.f5 (by simpa using h), fun h => hF.out.f6 (by simpa using h), fun h => hF.out.f7 (by simpa using h), fun h => hF.out.f8 (by simpa using h), hF.out.sm⟩
          · intro d a W hI hd hdep
            obtain ⟨x16, x17, x18, x19, x20, x21, x22, x23, x24, rfl, hF⟩ := hI
            have hd0 : d 0 = true := dep_of hdep 0 (by kernel_rfl)
            have hd1 : d 1 = true := dep_of hdep 1 (by kernel_rfl)
            obtain rfl := hF.out.f0 hd0
            obtain rfl := hF.out.f1 hd1
            clear hdep hd hd0 hd1
            intro K hK
            simp only [Act.put, List.setIfInBounds_toArray, List.set_cons_zero, List.set_cons_succ]
            go_simp
            refine hK.out _ _ ⟨(.slice (some ⟨b, o, none⟩) n cap), (.int .i64 (k : Int)), (.pointer (some ⟨b, o + k * 256, none⟩)), x19, x20, x21, x22, x23, x24, by simp only [Act.put, List.setIfInBounds_toArray, List.set_cons_zero, List.set_cons_succ], ?_⟩
            exact ⟨fun h => hF.out.f0 (by simpa using h), fun h => hF.out.f1 (by simpa using h), fun _ => rfl, fun h => hF.out.f3 (by simpa using h), fun h => hF.out.f4 (by simpa using h), fun h => hF.out.f5 (by simpa using h), fun h => hF.out.f6 (by simpa using h), fun h => hF.out.f7 (by simpa using h), fun h => hF.out.f8 (by simpa using h), hF.out.sm⟩
          · intro d a W hI hd hdep
            obtain ⟨x16, x17, x18, x19, x20, x21, x22, x23, x24, rfl, hF⟩ := hI
            have hd2 : d 2 = true := dep_of hdep 2 (by kernel_rfl)
            obtain rfl := hF.out.f2 hd2
            clear hdep hd hd2
            intro K hK
            simp only [Act.put, List.setIfInBounds_toArray, List.set_cons_zero, List.set_cons_succ]
            refine wp_load_mid 72 _ rfl b (o + k * 256) rfl l1 _ (fun q v hv => (hF.out.sm.cell _).trans (HR1.out q v hv)) Try.underlying72 rfl HS1.out ?_
            refine hK.out _ _ ⟨x16, x17, (.pointer (some ⟨b, o + k * 256, none⟩)), (.agg l1.toArray), x20, x21, x22, x23, x24, by simp only [Act.put, List.setIfInBounds_toArray, List.set_cons_zero, List.set_cons_succ], ?_⟩
            exact ⟨fun h => hF.out.f0 (by simpa using h), fun h => hF.out.f1 (by simpa using h), fun h => hF.out.f2 (by simpa using h), fun _ => rfl, fun h => hF.out.f4 (by simpa using h), fun h => hF.out.f5 (by simpa using h), fun h => hF.out.f6 (by simpa using h), fun h => hF.out.f7 (by simpa using h), fun h => hF.out.f8 (by simpa using h), hF.out.sm⟩
          · intro d a W hI hd hdep
            obtain ⟨x16, x17, x18, x19, x20, x21, x22, x23, x24, rfl, hF⟩ := hI
            clear hdep hd
            intro K hK
            simp only [Act.put, List.setIfInBounds_toArray, List.set_cons_zero, List.set_cons_succ]
            go_simp
            refine hK.out _ _ ⟨x16, x17, x18, x19, (.slice (some ⟨b2, o2, none⟩) n cap2), x21, x22, x23, x24, by simp only [Act.put, List.setIfInBounds_toArray, List.set_cons_zero, List.set_cons_succ], ?_⟩
            exact ⟨fun h => hF.out.f0 (by simpa using h), fun h => hF.out.f1 (by simpa using h), fun h => hF.out.f2 (by simpa using h), fun h => hF.out.f3 (by simpa using h), fun _ => rfl, fun h => hF.out.f5 (by simpa using h), fun h => hF.out.f6 (by simpa using h), fun h => hF.out.f7 (by simpa using h), fun h => hF.out.f8 (by simpa using h), hF.out.sm⟩
          · intro d a W hI hd hdep
            obtain ⟨x16, x17, x18, x19, x20, x21, x22, x23, x24, rfl, hF⟩ := hI
            clear hdep hd
            intro K hK
            simp only [Act.put, List.setIfInBounds_toArray, List.set_cons_zero, List.set_cons_succ]
            go_simp
            refine hK.out _ _ ⟨x16, x17, x18, x19, x20, (.int .i64 (k : Int)), x22, x23, x24, by simp only [Act.put, List.setIfInBounds_toArray, List.set_cons_zero, List.set_cons_succ], ?_⟩
            exact ⟨fun h => hF.out.f0 (by simpa using h), fun h => hF.out.f1 (by simpa using h), fun h => hF.out.f2 (by simpa using h), fun h => hF.out.f3 (by simpa using h), fun h => hF.out.f4 (by simpa using h), fun _ => rfl, fun h => hF.out.f6 (by simpa using h), fun h => hF.out.f7 (by simpa using h), fun h => hF.out.f8 (by simpa using h), hF.out.sm⟩
          · intro d a W hI hd hdep
            obtain ⟨x16, x17, x18, x19, x20, x21, x22, x23, x24, rfl, hF⟩ := hI
            have hd4 : d 4 = true := dep_of hdep 4 (by kernel_rfl)
            have hd5 : d 5 = true := dep_of hdep 5 (by kernel_rfl)
            obtain rfl := hF.out.f4 hd4
            obtain rfl := hF.out.f5 hd5
            clear hdep hd hd4 hd5
            intro K hK
            simp only [Act.put, List.setIfInBounds_toArray, List.set_cons_zero, List.set_cons_succ]
            go_simp
            refine hK.out _ _ ⟨x16, x17, x18, x19, (.slice (some ⟨b2, o2, none⟩) n cap2), (.int .i64 (k : Int)), (.pointer (some ⟨b2, o2 + k * 256, none⟩)), x23, x24, by simp only [Act.put, List.setIfInBounds_toArray, List.set_cons_zero, List.set_cons_succ], ?_⟩
            exact ⟨fun h => hF.out.f0 (by simpa using h), fun h => hF.out.f1 (by simpa using h), fun h => hF.out.f2 (by simpa using h), fun h => hF.out.f3 (by simpa using h), fun h => hF.out.f4 (by simpa using h), fun h => hF.out.f5 (by simpa using h), fun _ => rfl, fun h => hF.out.f7 (by simpa using h), fun h => hF.out.f8 (by simpa using h), hF.out.sm⟩
          · intro d a W hI hd hdep
            obtain ⟨x16, x17, x18, x19, x20, x21, x22, x23, x24, rfl, hF⟩ := hI
            have hd6 : d 6 = true := dep_of hdep 6 (by kernel_rfl)
            obtain rfl := hF.out.f6 hd6
            clear hdep hd hd6
            intro K hK
            simp only [Act.put, List.setIfInBounds_toArray, List.set_cons_zero, List.set_cons_succ]
            refine wp_load_mid 72 _ rfl b2 (o2 + k * 256) rfl l2 _ (fun q v hv => (hF.out.sm.cell _).trans (HR2.out q v hv)) Try.underlying72 rfl HS2.out ?_
            refine hK.out _ _ ⟨x16, x17, x18, x19, x20, x21, (.pointer (some ⟨b2, o2 + k * 256, none⟩)), (.agg l2.toArray), x24, by simp only [Act.put, List.setIfInBounds_toArray, List.set_cons_zero, List.set_cons_succ], ?_⟩
            exact ⟨fun h => hF.out.f0 (by simpa using h), fun h => hF.out.f1 (by simpa using h), fun h => hF.out.f2 (by simpa using h), fun h => hF.out.f3 (by simpa using h), fun h => hF.out.f4 (by simpa using h), fun h => hF.out.f5 (by simpa using h), fun h => hF.out.f6 (by simpa using h), fun _ => rfl, fun h => hF.out.f8 (by simpa using h), hF.out.sm⟩
          · intro d a W hI hd hdep
            obtain ⟨x16, x17, x18, x19, x20, x21, x22, x23, x24, rfl, hF⟩ := hI
            have hd3 : d 3 = true := dep_of hdep 3 (by kernel_rfl)
            have hd7 : d 7 = true := dep_of hdep 7 (by kernel_rfl)
            obtain rfl := hF.out.f3 hd3
            obtain rfl := hF.out.f7 hd7
            have hne := HNE.out
            have hgt := guard42
            clear hdep hd hd3 hd7
            intro K hK
            simp only [Act.put, List.setIfInBounds_toArray, List.set_cons_zero, List.set_cons_succ]
            go_simp
            refine hK.out _ _ ⟨x16, x17, x18, (.agg l1.toArray), x20, x21, x22, (.agg l2.toArray), (.bool (!e)), by simp only [Act.put, List.setIfInBounds_toArray, List.set_cons_zero, List.set_cons_succ], ?_⟩
            exact ⟨fun h => hF.out.f0 (by simpa using h), fun h => hF.out.f1 (by simpa using h), fun h => hF.out.f2 (by simpa using h), fun h => hF.out.f3 (by simpa using h), fun h => hF.out.f4 (by simpa using h), fun h => hF.out.f5 (by simpa using h), fun h => hF.out.f6 (by simpa using h), fun h => hF.out.f7 (by simpa using h), fun _ => rfl, hF.out.sm⟩
        · intro d a W hI hall
          obtain ⟨x16, x17, x18, x19, x20, x21, x22, x23, x24, rfl, hF⟩ := hI
          simp only [List.length_cons, List.length_nil] at hall
          obtain rfl := hF.out.f0 (hall 0 (by omega))
          obtain rfl := hF.out.f1 (hall 1 (by omega))
          obtain rfl := hF.out.f2 (hall 2 (by omega))
          obtain rfl := hF.out.f3 (hall 3 (by omega))
          obtain rfl := hF.out.f4 (hall 4 (by omega))
          obtain rfl := hF.out.f5 (hall 5 (by omega))
          obtain rfl := hF.out.f6 (hall 6 (by omega))
          obtain rfl := hF.out.f7 (hall 7 (by omega))
          obtain rfl := hF.out.f8 (hall 8 (by omega))
          have HPW : Hid (Sm wr W) := hF.out.sm
          clear hF hall
          simp only [Act.put, List.setIfInBounds_toArray, List.set_cons_zero, List.set_cons_succ]
          cases e
          case false =>
            go_wp2_with fail
            go_ret
            refine ⟨?_, HB0.out.trans ((HPW.out.below _).mono HB0.out.size)⟩
            rw [show eqR n n R R' = false by unfold eqR; rw [show (List.range n).all (fun i => rowEq (R i) (R' i)) = false from all_false hlt HEQ.out]; simp]
            rfl
          case true =>
            go_wp2_with fail
            go_roundw
            case rel =>
              refine ⟨k + 1, by omega, by go_num, fun i hi => ?_, HB0.out.trans ((HPW.out.below _).mono HB0.out.size)⟩
              by_cases e : i = k
              · subst e; exact HEQ.out
              · exact HA.out i (by omega)
            case measure => simp [intOf]; omega

      · go_wp2_with fail
        go_ret
        refine ⟨?_, HB0.out⟩
        rw [show eqR n n R R' = true by unfold eqR; rw [show (List.range n).all (fun i => rowEq (R i) (R' i)) = true from all_true fun i hi => HA.out i (by omega)]; simp]
        rfl
  · have hbb : ((n : Int) != (m : Int)) = true := by simp; omega
    have HE : Hid (¬ n = m) := hnm
    clear hnm
    go_wp2_with fail
    go_ret
    refine ⟨?_, Below.refl _ _⟩
    rw [show eqR n m R R' = false by unfold eqR; simp [HE.out]]
    rfl

set_option maxHeartbeats 1600000 in
set_option maxRecDepth 20000 in
theorem sameDfa_any (rv tv sv uv : Value) (n m n' m' : Nat) (R S : Nat → Nat → Int) (T U : Nat → Int) (w : World) (hr : Rw w rv n R) (ht : Ts w tv m T) (hs : Rw w sv n' S) (hu : Ts w uv m' U) :
    Calls Try.prog 11 #[.agg #[rv, tv], .agg #[sv, uv]] w fun e w' => e = .returned (.bool (eqR n n' R S && eqT m m' T U)) ∧ Below w.heap.size w w' := by
  have B0 : Below w.heap.size w ((w.alloc (Obj.cells #[rv, tv] 30)).alloc (Obj.cells #[sv, uv] 30)) := ((Below.refl _ _).alloc (Nat.le_refl _) _).alloc (by simp) _
  have HR : Hid (Rw ((w.alloc (Obj.cells #[rv, tv] 30)).alloc (Obj.cells #[sv, uv] 30)) rv n R) := hr.below B0 (Nat.le_refl _)
  have HS : Hid (Rw ((w.alloc (Obj.cells #[rv, tv] 30)).alloc (Obj.cells #[sv, uv] 30)) sv n' S) := hs.below B0 (Nat.le_refl _)
  have HT : Hid (Ts w tv m T) := ht
  have HU : Hid (Ts w uv m' U) := hu
  obtain ⟨a1, c1, rfl, -⟩ := hr
  obtain ⟨a2, c2, rfl, -⟩ := ht
  obtain ⟨a3, c3, rfl, -⟩ := hs
  obtain ⟨a4, c4, rfl, -⟩ := hu
  go_enter Try.func11, Try.ntmps11
  go_wp2_with fail
  refine (equalR_any _ _ n n' R S _ HR.out HS.out).mono ?_
  rintro _ w1 ⟨rfl, hb1⟩
  have B1 : Below w.heap.size w w1 := B0.trans (hb1.mono (by simp; omega))
  have d0 : w1.cell? ⟨w.heap.size, 1, none⟩ = some (.slice a2 m c2) := (hb1.cell (by simp; omega)).trans (by simp)
  have d1 : w1.cell? ⟨w.heap.size + 1, 1, none⟩ = some (.slice a4 m' c4) := (hb1.cell (by simp)).trans (by simp)
  have HT1 : Hid (Ts w1 (.slice a2 m c2) m T) := HT.out.below B1 (Nat.le_refl _)
  have HU1 : Hid (Ts w1 (.slice a4 m' c4) m' U) := HU.out.below B1 (Nat.le_refl _)
  clear hb1 B0 HR HS
  obtain ⟨e, HEQ⟩ : ∃ q, Hid (eqR n n' R S = q) := ⟨_, (rfl : eqR n n' R S = eqR n n' R S)⟩
  rw [HEQ.out]
  cases e
  case false =>
    go_wp2_with fail
    go_ret
    exact ⟨by rw [HEQ.out]; rfl, B1⟩
  case true =>
    go_wp2_with fail
    refine (equalT_any _ _ m m' T U _ HT1.out HU1.out).mono ?_
    rintro _ w2 ⟨rfl, hb2⟩
    obtain ⟨e, HEQ2⟩ : ∃ q, Hid (eqT m m' T U = q) := ⟨_, (rfl : eqT m m' T U = eqT m m' T U)⟩
    rw [HEQ2.out]
    go_wp2_with fail
    go_ret
    exact ⟨by rw [HEQ.out, HEQ2.out]; rfl, B1.trans (hb2.mono B1.size)⟩
end Go.Proofs.Ytlmlkpdppkgenaa.Df
