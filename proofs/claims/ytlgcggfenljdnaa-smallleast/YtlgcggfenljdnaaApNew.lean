/-
  The contract of small.newWalk.
-/
import Derived.Test.YtlgcggfenljdnaaApCome
namespace Go.Proofs.Ytlgcggfenljdnaa
open Go.RowKit
open Dfa

theorem info96 : (Try.prog.info? 96).map (fun i => (i.zero, i.size, i.bytes)) = some (some (.slice none 0 0), 1, 24) := by kernel_rfl
theorem info4 : (Try.prog.info? 4).map (fun i => (i.zero, i.size, i.bytes)) = some (some (.bool false), 1, 1) := by kernel_rfl
/-- The table with its first rows made. -/
structure BI (w : World) (n m k : Nat) (ra : Option Addr) (rc : Nat) (W : World) : Prop where
  top : W.rowIs (w.heap.size + 2) 96 (n + 1) (fun i => if i < k then .slice (some ⟨w.heap.size + 4 + i, 0, none⟩) (m + 1) (m + 1) else .slice none 0 0)
  rows : ∀ i, i < k → W.rowIs (w.heap.size + 4 + i) 4 (m + 1) (fun _ => .bool false)
  box : W.rowIs (w.heap.size + 3) 74 2 (fun i => if i = 0 then .slice none 0 0 else .slice (some ⟨w.heap.size + 2, 0, none⟩) (n + 1) (n + 1))
  sz : W.heap.size = w.heap.size + 4 + k
  c : W.cell? ⟨w.heap.size + 1, 0, none⟩ = some (.slice ra m rc)
  below : Below w.heap.size w W
theorem BI.next {w : World} {n m k : Nat} {ra : Option Addr} {rc : Nat} {W W6 : World} (h : BI w n m k ra rc W) (hk : k < n + 1) (hs : Sm W W6) : BI w n m (k + 1) ra rc ((W6.alloc (Obj.cells (madeCells #[Value.bool false] (m + 1)) 4)).setCell ⟨w.heap.size + 2, k, none⟩ (.slice (some ⟨w.heap.size + 4 + k, 0, none⟩) (m + 1) (m + 1))) := by
  have hsz := h.sz
  have e6 : W6.heap.size = w.heap.size + 4 + k := by rw [hs.heap]; exact hsz
  have B1 := (Below.refl W6.heap.size W6).alloc (Nat.le_refl _) (Obj.cells (madeCells #[Value.bool false] (m + 1)) 4)
  have e : ∀ q, q < w.heap.size + 4 + k → q ≠ w.heap.size + 2 → ((W6.alloc (Obj.cells (madeCells #[Value.bool false] (m + 1)) 4)).setCell ⟨w.heap.size + 2, k, none⟩ (.slice (some ⟨w.heap.size + 4 + k, 0, none⟩) (m + 1) (m + 1))).heap[q]? = W.heap[q]? := fun q hq hq2 => by
    rw [Below.heap_setCell _ _ _ _ (by simpa using hq2), B1.block q (by omega), hs.heap]
  have hnew := World.rowIs_made W6 (.bool false) (m + 1) 4
  rw [e6] at hnew
  have htop : (W6.alloc (Obj.cells (madeCells #[Value.bool false] (m + 1)) 4)).rowIs (w.heap.size + 2) 96 (n + 1) (fun i => if i < k then .slice (some ⟨w.heap.size + 4 + i, 0, none⟩) (m + 1) (m + 1) else .slice none 0 0) := h.top.of_block (by rw [B1.block _ (by omega), hs.heap])
  refine ⟨(htop.set k _).congr fun i hi => ?_, fun i hi => ?_, h.box.of_block (e _ (by omega) (by omega)), by simp [World.setCell]; omega, ?_, ?_⟩
  · by_cases e1 : i = k
    · subst e1; simp
    · by_cases e2 : i < k
      · simp [e1, e2, show i < k + 1 by omega]
      · simp [e1, e2, show ¬ i < k + 1 by omega]
  · by_cases e1 : i = k
    · subst e1
      exact hnew.setOther (by simp; omega) _
    · exact (h.rows i (by omega)).of_block (e _ (by omega) (by omega))
  · have : ((W6.alloc (Obj.cells (madeCells #[Value.bool false] (m + 1)) 4)).setCell ⟨w.heap.size + 2, k, none⟩ (.slice (some ⟨w.heap.size + 4 + k, 0, none⟩) (m + 1) (m + 1))).heap[w.heap.size + 1]? = W.heap[w.heap.size + 1]? := e _ (by omega) (by omega)
    have h2 : ((W6.alloc (Obj.cells (madeCells #[Value.bool false] (m + 1)) 4)).setCell ⟨w.heap.size + 2, k, none⟩ (.slice (some ⟨w.heap.size + 4 + k, 0, none⟩) (m + 1) (m + 1))).cell? ⟨w.heap.size + 1, 0, none⟩ = W.cell? ⟨w.heap.size + 1, 0, none⟩ := by simp [World.cell?, this]
    exact h2.trans h.c
  · have hb := h.below.size
    exact (((h.below.trans (hs.below _)).alloc (by rw [hs.heap]; exact hb) _).setCell (by simp) _)
theorem fin_of {w wr W : World} {m k : Nat} (h : ∃ W6, Sm wr W6 ∧ W = W6.alloc (Obj.cells (madeCells #[Value.bool false] (m + 1)) 4)) : ∃ W6, Sm wr W6 ∧ W.setCell ⟨w.heap.size + 2, k, none⟩ (.slice (some ⟨w.heap.size + 4 + k, 0, none⟩) (m + 1) (m + 1)) = (W6.alloc (Obj.cells (madeCells #[Value.bool false] (m + 1)) 4)).setCell ⟨w.heap.size + 2, k, none⟩ (.slice (some ⟨w.heap.size + 4 + k, 0, none⟩) (m + 1) (m + 1)) := by
  obtain ⟨W6, h1, h2⟩ := h
  exact ⟨W6, h1, by rw [h2]⟩
structure RN5 (w wr : World) (n m k : Nat) (ra : Option Addr) (rc : Nat) (d : Nat → Bool) (x22 x23 x24 x25 x26 x27 x28 x29 x30 x31 x32 : Value) (W : World) : Prop where
  f0 : d 0 = true → x22 = (.pointer (some ⟨w.heap.size + 3, 0, none⟩))
  f1 : d 1 = true → x23 = (.pointer (some ⟨w.heap.size + 3, 0, none⟩))
  f2 : d 2 = true → x24 = (.pointer (some ⟨w.heap.size + 3, 1, none⟩))
  f3 : d 3 = true → x25 = (.slice (some ⟨w.heap.size + 2, 0, none⟩) (n + 1) (n + 1))
  f4 : d 4 = true → x26 = (.int .i64 (k : Int))
  f5 : d 5 = true → x27 = (.pointer (some ⟨w.heap.size + 1, 0, none⟩))
  f6 : d 6 = true → x28 = (.slice ra m rc)
  f7 : d 7 = true → x29 = (.int .i64 (m : Int))
  f8 : d 8 = true → x30 = (.int .i64 ((m : Int) + 1))
  f9 : d 9 = true → x31 = (.slice (some ⟨w.heap.size + 4 + k, 0, none⟩) (m + 1) (m + 1))
  f10 : d 10 = true → x32 = (.pointer (some ⟨w.heap.size + 2, k, none⟩))
  f11 : d 11 = true → True
  p0 : d 11 = true → d 0 = true
  p1 : d 11 = true → d 1 = true
  p2 : d 11 = true → d 2 = true
  p3 : d 11 = true → d 3 = true
  p4 : d 11 = true → d 4 = true
  p5 : d 11 = true → d 5 = true
  p6 : d 11 = true → d 6 = true
  p7 : d 11 = true → d 7 = true
  p8 : d 11 = true → d 8 = true
  p9 : d 11 = true → d 9 = true
  p10 : d 11 = true → d 10 = true
  rd : d 11 = false → ∀ a : Addr, a.block < wr.heap.size → W.cell? a = wr.cell? a
  sm : d 9 = false → Sm wr W
  al : d 9 = true → d 11 = false → ∃ W6, Sm wr W6 ∧ W = W6.alloc (Obj.cells (madeCells #[Value.bool false] (m + 1)) 4)
  fin : d 11 = true → ∃ W6, Sm wr W6 ∧ W = (W6.alloc (Obj.cells (madeCells #[Value.bool false] (m + 1)) 4)).setCell ⟨w.heap.size + 2, k, none⟩ (.slice (some ⟨w.heap.size + 4 + k, 0, none⟩) (m + 1) (m + 1))

set_option maxHeartbeats 8000000 in
set_option maxRecDepth 20000 in
theorem newWalk_any (RA RB : Nat → Nat → Int) (av tv rv uv : Value) (n n' m m' : Nat) (T U : Nat → Int) (w : World) (ha : Rw w av n RA) (ht : Ts w tv n' T) (hr : Rw w rv m RB) (hu : Ts w uv m' U) (hn : n ≤ 200) (hm : m ≤ 200) (hn0 : 0 < n) (hm0 : 0 < m) :
    Calls Try.prog 37 #[.agg #[av, tv], .agg #[rv, uv]] w fun e w' => e = .returned (.pointer (some ⟨w.heap.size + 3, 0, none⟩)) ∧ Below w.heap.size w w' ∧ ∃ F sv, Wk RA RB (w.heap.size + 2) n m F [s0] sv w' ∧ ∀ i j, F i j = (decide (i = 1) && decide (j = 1)) := by
  obtain ⟨aa, ac, rfl, -⟩ := ha
  obtain ⟨ta, tc, rfl, -⟩ := ht
  obtain ⟨ra, rc, rfl, -⟩ := hr
  obtain ⟨ua, uc, rfl, -⟩ := hu
  have hmk41 : ∀ W : World, (Instr.makeSlice 72 (.int .i64 ((n : Int) + 1)) (.int .i64 ((n : Int) + 1))).run Try.prog W = .ok (.slice (some ⟨W.heap.size, 0, none⟩) (n + 1) (n + 1)) (W.alloc (.cells (madeCells #[.slice none 0 0] (n + 1)) 96)) := fun W => by
    have := run_make_row' (P := Try.prog) 72 96 (.slice none 0 0) 24 Try.underlying72 info96 rfl .i64 .i64 (n + 1) (by omega) (by omega) W
    simpa using this
  have HMK : Hid (∀ W : World, (Instr.makeSlice 96 (.int .i64 ((m : Int) + 1)) (.int .i64 ((m : Int) + 1))).run Try.prog W = .ok (.slice (some ⟨W.heap.size, 0, none⟩) (m + 1) (m + 1)) (W.alloc (Obj.cells (madeCells #[Value.bool false] (m + 1)) 4))) := fun W => by
    have := run_make_row' (P := Try.prog) 96 4 (.bool false) 1 Try.underlying96 info4 rfl .i64 .i64 (m + 1) (by omega) (by omega) W
    simpa using this
  have HMW : Hid (IntKind.i64.wrap ((m : Int) + 1) = (m : Int) + 1) := wrap_small (by omega)
  go_enter Try.func37, Try.ntmps37
  go_wp2_with fail
  have HB0 : Hid (BI w n m 0 ra rc ((((w.alloc (Obj.cells #[Value.slice aa n ac, Value.slice ta n' tc] 25)).alloc (Obj.cells #[Value.slice ra m rc, Value.slice ua m' uc] 25)).alloc (Obj.cells (madeCells #[Value.slice none 0 0] (n + 1)) 96)).alloc (Obj.cells #[Value.slice none 0 0, Value.slice (some ⟨w.heap.size + 2, 0, none⟩) (n + 1) (n + 1)] 74))) := by
    have h1 := World.rowIs_made ((w.alloc (Obj.cells #[Value.slice aa n ac, Value.slice ta n' tc] 25)).alloc (Obj.cells #[Value.slice ra m rc, Value.slice ua m' uc] 25)) (.slice none 0 0) (n + 1) 96
    have h2 := World.rowIs_alloc (((w.alloc (Obj.cells #[Value.slice aa n ac, Value.slice ta n' tc] 25)).alloc (Obj.cells #[Value.slice ra m rc, Value.slice ua m' uc] 25)).alloc (Obj.cells (madeCells #[Value.slice none 0 0] (n + 1)) 96)) #[Value.slice none 0 0, Value.slice (some ⟨w.heap.size + 2, 0, none⟩) (n + 1) (n + 1)] 74 (fun i => if i = 0 then .slice none 0 0 else .slice (some ⟨w.heap.size + 2, 0, none⟩) (n + 1) (n + 1)) (fun i hi => by
      have : i = 0 ∨ i = 1 := by simp at hi; omega
      rcases this with rfl | rfl <;> simp)
    have e2 : (((w.alloc (Obj.cells #[Value.slice aa n ac, Value.slice ta n' tc] 25)).alloc (Obj.cells #[Value.slice ra m rc, Value.slice ua m' uc] 25)).alloc (Obj.cells (madeCells #[Value.slice none 0 0] (n + 1)) 96)).heap.size = w.heap.size + 3 := by simp
    rw [e2] at h2
    have h5 := cell_of_block (w.alloc (Obj.cells #[Value.slice aa n ac, Value.slice ta n' tc] 25)) [Value.slice ra m rc, Value.slice ua m' uc] 25 0
    rw [show (w.alloc (Obj.cells #[Value.slice aa n ac, Value.slice ta n' tc] 25)).heap.size = w.heap.size + 1 by simp] at h5
    refine ⟨?_, fun i hi => by omega, h2, by simp, Go.Lib.cell?_alloc_some _ (Go.Lib.cell?_alloc_some _ h5), ((((Below.refl _ _).alloc (Nat.le_refl _) _).alloc (by simp) _).alloc (by simp; omega) _).alloc (by simp; omega) _⟩
    have h3 := h1.alloc (Obj.cells #[Value.slice none 0 0, Value.slice (some ⟨w.heap.size + 2, 0, none⟩) (n + 1) (n + 1)] 74)
    have e : ((w.alloc (Obj.cells #[Value.slice aa n ac, Value.slice ta n' tc] 25)).alloc (Obj.cells #[Value.slice ra m rc, Value.slice ua m' uc] 25)).heap.size = w.heap.size + 2 := by simp
    rw [e] at h3
    exact h3.congr fun i _ => by simp
  go_loopw [19] (fun i wr => ∃ k : Nat, k ≤ n + 1 ∧ i = .int .i64 (k : Int) ∧ Hid (BI w n m k ra rc wr)) (fun i _ => n + 1 - (intOf i).toNat)
  case atStart => exact ⟨0, by omega, rfl, HB0⟩
  case round =>
    clear HB0
    obtain ⟨k, hk, rfl, HBI⟩ := hrel
    by_cases hlt : k < n + 1
    · have hk0 : (0 : Int) ≤ (k : Int) := by omega
      have hk1 : (k : Int) < (n : Int) + 1 := by omega
      have HSZ : Hid (wr.heap.size = w.heap.size + 4 + k) := HBI.out.sz
      have HC : Hid (wr.cell? ⟨w.heap.size + 3, 1, none⟩ = some (.slice (some ⟨w.heap.size + 2, 0, none⟩) (n + 1) (n + 1)) ∧ wr.cell? ⟨w.heap.size + 1, 0, none⟩ = some (.slice ra m rc)) := ⟨by have := HBI.out.box.cell (i := 1) (by omega); rwa [if_neg (by omega)] at this, HBI.out.c⟩
      have HTC : Hid (wr.cell? ⟨w.heap.size + 2, k, none⟩ = some (.slice none 0 0) ∧ wr.frozen? ⟨w.heap.size + 2, k, none⟩ = false) := ⟨by have := HBI.out.top.cell hlt; rwa [if_neg (by omega)] at this, HBI.out.top.frozen k⟩
      go_wp2_with fail
      refine wp_region_free mixed (fun a0 d a W => ∃ (x22 x23 x24 x25 x26 x27 x28 x29 x30 x31 x32 : Value), a = (((((((((((a0.put (some 22) x22).put (some 23) x23).put (some 24) x24).put (some 25) x25).put (some 26) x26).put (some 27) x27).put (some 28) x28).put (some 29) x29).put (some 30) x30).put (some 31) x31).put (some 32) x32) ∧ Hid (RN5 w wr n m k ra rc d x22 x23 x24 x25 x26 x27 x28 x29 x30 x31 x32 W)) (by kernel_rfl) ⟨u22, u23, u24, u25, u26, u27, u28, u29, u30, u31, u32, by simp only [Act.put, List.setIfInBounds_toArray, List.set_cons_zero, List.set_cons_succ], ?_⟩ ?_ ?_
      · exact ⟨fun h => no_way h, fun h => no_way h, fun h => no_way h, fun h => no_way h, fun h => no_way h, fun h => no_way h, fun h => no_way h, fun h => no_way h, fun h => no_way h, fun h => no_way h, fun h => no_way h, fun _ => trivial, fun h => no_way h, fun h => no_way h, fun h => no_way h, fun h => no_way h, fun h => no_way h, fun h => no_way h, fun h => no_way h, fun h => no_way h, fun h => no_way h, fun h => no_way h, fun h => no_way h, fun _ a _ => (Sm.drew wr).cell a, fun _ => Sm.drew wr, fun h => no_way h, fun h => no_way h⟩
      · simp only [StepAll, and_true]
        refine ⟨?_, ?_, ?_, ?_, ?_, ?_, ?_, ?_, ?_, ?_, ?_, ?_⟩
        · intro d a W hI hd hdep
          obtain ⟨x22, x23, x24, x25, x26, x27, x28, x29, x30, x31, x32, rfl, hF⟩ := hI
          have hn11 := no_later hF.out.p0 hd
          have hrd := hF.out.rd hn11
          have HN11 : Hid (d 11 = false) := hn11
          clear hn11
          clear hdep hd
          intro K hK
          simp only [Act.put, List.setIfInBounds_toArray, List.set_cons_zero, List.set_cons_succ]
          go_simp
          refine hK.out _ _ ⟨(.pointer (some ⟨w.heap.size + 3, 0, none⟩)), x23, x24, x25, x26, x27, x28, x29, x30, x31, x32, by simp only [Act.put, List.setIfInBounds_toArray, List.set_cons_zero, List.set_cons_succ], ?_⟩
          exact ⟨fun _ => rfl, fun h => hF.out.f1 (by simpa using h), fun h => hF.out.f2 (by simpa using h), fun h => hF.out.f3 (by simpa using h), fun h => hF.out.f4 (by simpa using h), fun h => hF.out.f5 (by simpa using h), fun h => hF.out.f6 (by simpa using h), fun h => hF.out.f7 (by simpa using h), fun h => hF.out.f8 (by simpa using h), fun h => hF.out.f9 (by simpa using h), fun h => hF.out.f10 (by simpa using h), fun h => hF.out.f11 (by simpa using h), fun _ => by simp, fun h => by have := hF.out.p1 (by simpa using h); simpa using this, fun h => by have := hF.out.p2 (by simpa using h); simpa using this, fun h => by have := hF.out.p3 (by simpa using h); simpa using this, fun h => by have := hF.out.p4 (by simpa using h); simpa using this, fun h => by have := hF.out.p5 (by simpa using h); simpa using this, fun h => by have := hF.out.p6 (by simpa using h); simpa using this, fun h => by have := hF.out.p7 (by simpa using h); simpa using this, fun h => by have := hF.out.p8 (by simpa using h); simpa using this, fun h => by have := hF.out.p9 (by simpa using h); simpa using this, fun h => by have := hF.out.p10 (by simpa using h); simpa using this, fun _ => hrd, fun h => hF.out.sm (by simpa using h), fun h h2 => hF.out.al (by simpa using h) (by simpa using h2), fun h => hF.out.fin (by simpa using h)⟩
        · intro d a W hI hd hdep
          obtain ⟨x22, x23, x24, x25, x26, x27, x28, x29, x30, x31, x32, rfl, hF⟩ := hI
          have hd0 : d 0 = true := dep_of hdep 0 (by kernel_rfl)
          obtain rfl := hF.out.f0 hd0
          have hn11 := no_later hF.out.p1 hd
          have hrd := hF.out.rd hn11
          have HN11 : Hid (d 11 = false) := hn11
          clear hn11
          clear hdep hd hd0
          intro K hK
          simp only [Act.put, List.setIfInBounds_toArray, List.set_cons_zero, List.set_cons_succ]
          go_simp
          refine hK.out _ _ ⟨(.pointer (some ⟨w.heap.size + 3, 0, none⟩)), (.pointer (some ⟨w.heap.size + 3, 0, none⟩)), x24, x25, x26, x27, x28, x29, x30, x31, x32, by simp only [Act.put, List.setIfInBounds_toArray, List.set_cons_zero, List.set_cons_succ], ?_⟩
          exact ⟨fun h => hF.out.f0 (by simpa using h), fun _ => rfl, fun h => hF.out.f2 (by simpa using h), fun h => hF.out.f3 (by simpa using h), fun h => hF.out.f4 (by simpa using h), fun h => hF.out.f5 (by simpa using h), fun h => hF.out.f6 (by simpa using h), fun h => hF.out.f7 (by simpa using h), fun h => hF.out.f8 (by simpa using h), fun h => hF.out.f9 (by simpa using h), fun h => hF.out.f10 (by simpa using h), fun h => hF.out.f11 (by simpa using h), fun h => by have := hF.out.p0 (by simpa using h); simpa using this, fun _ => by simp, fun h => by have := hF.out.p2 (by simpa using h); simpa using this, fun h => by have := hF.out.p3 (by simpa using h); simpa using this, fun h => by have := hF.out.p4 (by simpa using h); simpa using this, fun h => by have := hF.out.p5 (by simpa using h); simpa using this, fun h => by have := hF.out.p6 (by simpa using h); simpa using this, fun h => by have := hF.out.p7 (by simpa using h); simpa using this, fun h => by have := hF.out.p8 (by simpa using h); simpa using this, fun h => by have := hF.out.p9 (by simpa using h); simpa using this, fun h => by have := hF.out.p10 (by simpa using h); simpa using this, fun _ => hrd, fun h => hF.out.sm (by simpa using h), fun h h2 => hF.out.al (by simpa using h) (by simpa using h2), fun h => hF.out.fin (by simpa using h)⟩
        · intro d a W hI hd hdep
          obtain ⟨x22, x23, x24, x25, x26, x27, x28, x29, x30, x31, x32, rfl, hF⟩ := hI
          have hd1 : d 1 = true := dep_of hdep 1 (by kernel_rfl)
          obtain rfl := hF.out.f1 hd1
          have hn11 := no_later hF.out.p2 hd
          have hrd := hF.out.rd hn11
          have HN11 : Hid (d 11 = false) := hn11
          clear hn11
          clear hdep hd hd1
          intro K hK
          simp only [Act.put, List.setIfInBounds_toArray, List.set_cons_zero, List.set_cons_succ]
          go_simp
          refine hK.out _ _ ⟨x22, (.pointer (some ⟨w.heap.size + 3, 0, none⟩)), (.pointer (some ⟨w.heap.size + 3, 1, none⟩)), x25, x26, x27, x28, x29, x30, x31, x32, by simp only [Act.put, List.setIfInBounds_toArray, List.set_cons_zero, List.set_cons_succ], ?_⟩
          exact ⟨fun h => hF.out.f0 (by simpa using h), fun h => hF.out.f1 (by simpa using h), fun _ => rfl, fun h => hF.out.f3 (by simpa using h), fun h => hF.out.f4 (by simpa using h), fun h => hF.out.f5 (by simpa using h), fun h => hF.out.f6 (by simpa using h), fun h => hF.out.f7 (by simpa using h), fun h => hF.out.f8 (by simpa using h), fun h => hF.out.f9 (by simpa using h), fun h => hF.out.f10 (by simpa using h), fun h => hF.out.f11 (by simpa using h), fun h => by have := hF.out.p0 (by simpa using h); simpa using this, fun h => by have := hF.out.p1 (by simpa using h); simpa using this, fun _ => by simp, fun h => by have := hF.out.p3 (by simpa using h); simpa using this, fun h => by have := hF.out.p4 (by simpa using h); simpa using this, fun h => by have := hF.out.p5 (by simpa using h); simpa using this, fun h => by have := hF.out.p6 (by simpa using h); simpa using this, fun h => by have := hF.out.p7 (by simpa using h); simpa using this, fun h => by have := hF.out.p8 (by simpa using h); simpa using this, fun h => by have := hF.out.p9 (by simpa using h); simpa using this, fun h => by have := hF.out.p10 (by simpa using h); simpa using this, fun _ => hrd, fun h => hF.out.sm (by simpa using h), fun h h2 => hF.out.al (by simpa using h) (by simpa using h2), fun h => hF.out.fin (by simpa using h)⟩
        · intro d a W hI hd hdep
          obtain ⟨x22, x23, x24, x25, x26, x27, x28, x29, x30, x31, x32, rfl, hF⟩ := hI
          have hd2 : d 2 = true := dep_of hdep 2 (by kernel_rfl)
          obtain rfl := hF.out.f2 hd2
          have hn11 := no_later hF.out.p3 hd
          have hrd := hF.out.rd hn11
          have HN11 : Hid (d 11 = false) := hn11
          clear hn11
          have y0 := (hrd ⟨w.heap.size + 3, 1, none⟩ (by have := HSZ.out; simp; omega)).trans HC.out.1
          clear hdep hd hd2
          intro K hK
          simp only [Act.put, List.setIfInBounds_toArray, List.set_cons_zero, List.set_cons_succ]
          go_simp
          refine hK.out _ _ ⟨x22, x23, (.pointer (some ⟨w.heap.size + 3, 1, none⟩)), (.slice (some ⟨w.heap.size + 2, 0, none⟩) (n + 1) (n + 1)), x26, x27, x28, x29, x30, x31, x32, by simp only [Act.put, List.setIfInBounds_toArray, List.set_cons_zero, List.set_cons_succ], ?_⟩
          exact ⟨fun h => hF.out.f0 (by simpa using h), fun h => hF.out.f1 (by simpa using h), fun h => hF.out.f2 (by simpa using h), fun _ => rfl, fun h => hF.out.f4 (by simpa using h), fun h => hF.out.f5 (by simpa using h), fun h => hF.out.f6 (by simpa using h), fun h => hF.out.f7 (by simpa using h), fun h => hF.out.f8 (by simpa using h), fun h => hF.out.f9 (by simpa using h), fun h => hF.out.f10 (by simpa using h), fun h => hF.out.f11 (by simpa using h), fun h => by have := hF.out.p0 (by simpa using h); simpa using this, fun h => by have := hF.out.p1 (by simpa using h); simpa using this, fun h => by have := hF.out.p2 (by simpa using h); simpa using this, fun _ => by simp, fun h => by have := hF.out.p4 (by simpa using h); simpa using this, fun h => by have := hF.out.p5 (by simpa using h); simpa using this, fun h => by have := hF.out.p6 (by simpa using h); simpa using this, fun h => by have := hF.out.p7 (by simpa using h); simpa using this, fun h => by have := hF.out.p8 (by simpa using h); simpa using this, fun h => by have := hF.out.p9 (by simpa using h); simpa using this, fun h => by have := hF.out.p10 (by simpa using h); simpa using this, fun _ => hrd, fun h => hF.out.sm (by simpa using h), fun h h2 => hF.out.al (by simpa using h) (by simpa using h2), fun h => hF.out.fin (by simpa using h)⟩
        · intro d a W hI hd hdep
          obtain ⟨x22, x23, x24, x25, x26, x27, x28, x29, x30, x31, x32, rfl, hF⟩ := hI
          have hn11 := no_later hF.out.p4 hd
          have hrd := hF.out.rd hn11
          have HN11 : Hid (d 11 = false) := hn11
          clear hn11
          clear hdep hd
          intro K hK
          simp only [Act.put, List.setIfInBounds_toArray, List.set_cons_zero, List.set_cons_succ]
          go_simp
          refine hK.out _ _ ⟨x22, x23, x24, x25, (.int .i64 (k : Int)), x27, x28, x29, x30, x31, x32, by simp only [Act.put, List.setIfInBounds_toArray, List.set_cons_zero, List.set_cons_succ], ?_⟩
          exact ⟨fun h => hF.out.f0 (by simpa using h), fun h => hF.out.f1 (by simpa using h), fun h => hF.out.f2 (by simpa using h), fun h => hF.out.f3 (by simpa using h), fun _ => rfl, fun h => hF.out.f5 (by simpa using h), fun h => hF.out.f6 (by simpa using h), fun h => hF.out.f7 (by simpa using h), fun h => hF.out.f8 (by simpa using h), fun h => hF.out.f9 (by simpa using h), fun h => hF.out.f10 (by simpa using h), fun h => hF.out.f11 (by simpa using h), fun h => by have := hF.out.p0 (by simpa using h); simpa using this, fun h => by have := hF.out.p1 (by simpa using h); simpa using this, fun h => by have := hF.out.p2 (by simpa using h); simpa using this, fun h => by have := hF.out.p3 (by simpa using h); simpa using this, fun _ => by simp, fun h => by have := hF.out.p5 (by simpa using h); simpa using this, fun h => by have := hF.out.p6 (by simpa using h); simpa using this, fun h => by have := hF.out.p7 (by simpa using h); simpa using this, fun h => by have := hF.out.p8 (by simpa using h); simpa using this, fun h => by have := hF.out.p9 (by simpa using h); simpa using this, fun h => by have := hF.out.p10 (by simpa using h); simpa using this, fun _ => hrd, fun h => hF.out.sm (by simpa using h), fun h h2 => hF.out.al (by simpa using h) (by simpa using h2), fun h => hF.out.fin (by simpa using h)⟩
        · intro d a W hI hd hdep
          obtain ⟨x22, x23, x24, x25, x26, x27, x28, x29, x30, x31, x32, rfl, hF⟩ := hI
          have hn11 := no_later hF.out.p5 hd
          have hrd := hF.out.rd hn11
          have HN11 : Hid (d 11 = false) := hn11
          clear hn11
          clear hdep hd
          intro K hK
          simp only [Act.put, List.setIfInBounds_toArray, List.set_cons_zero, List.set_cons_succ]
          go_simp
          refine hK.out _ _ ⟨x22, x23, x24, x25, x26, (.pointer (some ⟨w.heap.size + 1, 0, none⟩)), x28, x29, x30, x31, x32, by simp only [Act.put, List.setIfInBounds_toArray, List.set_cons_zero, List.set_cons_succ], ?_⟩
          exact ⟨fun h => hF.out.f0 (by simpa using h), fun h => hF.out.f1 (by simpa using h), fun h => hF.out.f2 (by simpa using h), fun h => hF.out.f3 (by simpa using h), fun h => hF.out.f4 (by simpa using h), fun _ => rfl, fun h => hF.out.f6 (by simpa using h), fun h => hF.out.f7 (by simpa using h), fun h => hF.out.f8 (by simpa using h), fun h => hF.out.f9 (by simpa using h), fun h => hF.out.f10 (by simpa using h), fun h => hF.out.f11 (by simpa using h), fun h => by have := hF.out.p0 (by simpa using h); simpa using this, fun h => by have := hF.out.p1 (by simpa using h); simpa using this, fun h => by have := hF.out.p2 (by simpa using h); simpa using this, fun h => by have := hF.out.p3 (by simpa using h); simpa using this, fun h => by have := hF.out.p4 (by simpa using h); simpa using this, fun _ => by simp, fun h => by have := hF.out.p6 (by simpa using h); simpa using this, fun h => by have := hF.out.p7 (by simpa using h); simpa using this, fun h => by have := hF.out.p8 (by simpa using h); simpa using this, fun h => by have := hF.out.p9 (by simpa using h); simpa using this, fun h => by have := hF.out.p10 (by simpa using h); simpa using this, fun _ => hrd, fun h => hF.out.sm (by simpa using h), fun h h2 => hF.out.al (by simpa using h) (by simpa using h2), fun h => hF.out.fin (by simpa using h)⟩
        · intro d a W hI hd hdep
          obtain ⟨x22, x23, x24, x25, x26, x27, x28, x29, x30, x31, x32, rfl, hF⟩ := hI
          have hd5 : d 5 = true := dep_of hdep 5 (by kernel_rfl)
          obtain rfl := hF.out.f5 hd5
          have hn11 := no_later hF.out.p6 hd
          have hrd := hF.out.rd hn11
          have HN11 : Hid (d 11 = false) := hn11
          clear hn11
          have y0 := (hrd ⟨w.heap.size + 1, 0, none⟩ (by have := HSZ.out; simp; omega)).trans HC.out.2
          clear hdep hd hd5
          intro K hK
          simp only [Act.put, List.setIfInBounds_toArray, List.set_cons_zero, List.set_cons_succ]
          go_simp
          refine hK.out _ _ ⟨x22, x23, x24, x25, x26, (.pointer (some ⟨w.heap.size + 1, 0, none⟩)), (.slice ra m rc), x29, x30, x31, x32, by simp only [Act.put, List.setIfInBounds_toArray, List.set_cons_zero, List.set_cons_succ], ?_⟩
          exact ⟨fun h => hF.out.f0 (by simpa using h), fun h => hF.out.f1 (by simpa using h), fun h => hF.out.f2 (by simpa using h), fun h => hF.out.f3 (by simpa using h), fun h => hF.out.f4 (by simpa using h), fun h => hF.out.f5 (by simpa using h), fun _ => rfl, fun h => hF.out.f7 (by simpa using h), fun h => hF.out.f8 (by simpa using h), fun h => hF.out.f9 (by simpa using h), fun h => hF.out.f10 (by simpa using h), fun h => hF.out.f11 (by simpa using h), fun h => by have := hF.out.p0 (by simpa using h); simpa using this, fun h => by have := hF.out.p1 (by simpa using h); simpa using this, fun h => by have := hF.out.p2 (by simpa using h); simpa using this, fun h => by have := hF.out.p3 (by simpa using h); simpa using this, fun h => by have := hF.out.p4 (by simpa using h); simpa using this, fun h => by have := hF.out.p5 (by simpa using h); simpa using this, fun _ => by simp, fun h => by have := hF.out.p7 (by simpa using h); simpa using this, fun h => by have := hF.out.p8 (by simpa using h); simpa using this, fun h => by have := hF.out.p9 (by simpa using h); simpa using this, fun h => by have := hF.out.p10 (by simpa using h); simpa using this, fun _ => hrd, fun h => hF.out.sm (by simpa using h), fun h h2 => hF.out.al (by simpa using h) (by simpa using h2), fun h => hF.out.fin (by simpa using h)⟩
        · intro d a W hI hd hdep
          obtain ⟨x22, x23, x24, x25, x26, x27, x28, x29, x30, x31, x32, rfl, hF⟩ := hI
          have hd6 : d 6 = true := dep_of hdep 6 (by kernel_rfl)
          obtain rfl := hF.out.f6 hd6
          have hn11 := no_later hF.out.p7 hd
          have hrd := hF.out.rd hn11
          have HN11 : Hid (d 11 = false) := hn11
          clear hn11
          clear hdep hd hd6
          intro K hK
          simp only [Act.put, List.setIfInBounds_toArray, List.set_cons_zero, List.set_cons_succ]
          go_simp
          refine hK.out _ _ ⟨x22, x23, x24, x25, x26, x27, (.slice ra m rc), (.int .i64 (m : Int)), x30, x31, x32, by simp only [Act.put, List.setIfInBounds_toArray, List.set_cons_zero, List.set_cons_succ], ?_⟩
          exact ⟨fun h => hF.out.f0 (by simpa using h), fun h => hF.out.f1 (by simpa using h), fun h => hF.out.f2 (by simpa using h), fun h => hF.out.f3 (by simpa using h), fun h => hF.out.f4 (by simpa using h), fun h => hF.out.f5 (by simpa using h), fun h => hF.out.f6 (by simpa using h), fun _ => rfl, fun h => hF.out.f8 (by simpa using h), fun h => hF.out.f9 (by simpa using h), fun h => hF.out.f10 (by simpa using h), fun h => hF.out.f11 (by simpa using h), fun h => by have := hF.out.p0 (by simpa using h); simpa using this, fun h => by have := hF.out.p1 (by simpa using h); simpa using this, fun h => by have := hF.out.p2 (by simpa using h); simpa using this, fun h => by have := hF.out.p3 (by simpa using h); simpa using this, fun h => by have := hF.out.p4 (by simpa using h); simpa using this, fun h => by have := hF.out.p5 (by simpa using h); simpa using this, fun h => by have := hF.out.p6 (by simpa using h); simpa using this, fun _ => by simp, fun h => by have := hF.out.p8 (by simpa using h); simpa using this, fun h => by have := hF.out.p9 (by simpa using h); simpa using this, fun h => by have := hF.out.p10 (by simpa using h); simpa using this, fun _ => hrd, fun h => hF.out.sm (by simpa using h), fun h h2 => hF.out.al (by simpa using h) (by simpa using h2), fun h => hF.out.fin (by simpa using h)⟩
        · intro d a W hI hd hdep
          obtain ⟨x22, x23, x24, x25, x26, x27, x28, x29, x30, x31, x32, rfl, hF⟩ := hI
          have hd7 : d 7 = true := dep_of hdep 7 (by kernel_rfl)
          obtain rfl := hF.out.f7 hd7
          have hn11 := no_later hF.out.p8 hd
          have hrd := hF.out.rd hn11
          have HN11 : Hid (d 11 = false) := hn11
          clear hn11
          have hmw := HMW.out
          clear hdep hd hd7
          intro K hK
          simp only [Act.put, List.setIfInBounds_toArray, List.set_cons_zero, List.set_cons_succ]
          go_simp
          refine hK.out _ _ ⟨x22, x23, x24, x25, x26, x27, x28, (.int .i64 (m : Int)), (.int .i64 ((m : Int) + 1)), x31, x32, by simp only [Act.put, List.setIfInBounds_toArray, List.set_cons_zero, List.set_cons_succ], ?_⟩
          exact ⟨fun h => hF.out.f0 (by simpa using h), fun h => hF.out.f1 (by simpa using h), fun h => hF.out.f2 (by simpa using h), fun h => hF.out.f3 (by simpa using h), fun h => hF.out.f4 (by simpa using h), fun h => hF.out.f5 (by simpa using h), fun h => hF.out.f6 (by simpa using h), fun h => hF.out.f7 (by simpa using h), fun _ => rfl, fun h => hF.out.f9 (by simpa using h), fun h => hF.out.f10 (by simpa using h), fun h => hF.out.f11 (by simpa using h), fun h => by have := hF.out.p0 (by simpa using h); simpa using this, fun h => by have := hF.out.p1 (by simpa using h); simpa using this, fun h => by have := hF.out.p2 (by simpa using h); simpa using this, fun h => by have := hF.out.p3 (by simpa using h); simpa using this, fun h => by have := hF.out.p4 (by simpa using h); simpa using this, fun h => by have := hF.out.p5 (by simpa using h); simpa using this, fun h => by have := hF.out.p6 (by simpa using h); simpa using this, fun h => by have := hF.out.p7 (by simpa using h); simpa using this, fun _ => by simp, fun h => by have := hF.out.p9 (by simpa using h); simpa using this, fun h => by have := hF.out.p10 (by simpa using h); simpa using this, fun _ => hrd, fun h => hF.out.sm (by simpa using h), fun h h2 => hF.out.al (by simpa using h) (by simpa using h2), fun h => hF.out.fin (by simpa using h)⟩
        · intro d a W hI hd hdep
          obtain ⟨x22, x23, x24, x25, x26, x27, x28, x29, x30, x31, x32, rfl, hF⟩ := hI
          have hd8 : d 8 = true := dep_of hdep 8 (by kernel_rfl)
          obtain rfl := hF.out.f8 hd8
          have hn11 := no_later hF.out.p9 hd
          have hrd := hF.out.rd hn11
          have HN11 : Hid (d 11 = false) := hn11
          clear hn11
          have hsm := hF.out.sm hd
          have hmk := HMK.out W
          have esz : W.heap.size = w.heap.size + 4 + k := by rw [hsm.heap]; exact HSZ.out
          rw [esz] at hmk
          have B1 := (Below.refl W.heap.size W).alloc (Nat.le_refl _) (Obj.cells (madeCells #[Value.bool false] (m + 1)) 4)
          clear hdep hd hd8
          intro K hK
          simp only [Act.put, List.setIfInBounds_toArray, List.set_cons_zero, List.set_cons_succ]
          go_simp
          refine hK.out _ _ ⟨x22, x23, x24, x25, x26, x27, x28, x29, (.int .i64 ((m : Int) + 1)), (.slice (some ⟨w.heap.size + 4 + k, 0, none⟩) (m + 1) (m + 1)), x32, by simp only [Act.put, List.setIfInBounds_toArray, List.set_cons_zero, List.set_cons_succ], ?_⟩
          exact ⟨fun h => hF.out.f0 (by simpa using h), fun h => hF.out.f1 (by simpa using h), fun h => hF.out.f2 (by simpa using h), fun h => hF.out.f3 (by simpa using h), fun h => hF.out.f4 (by simpa using h), fun h => hF.out.f5 (by simpa using h), fun h => hF.out.f6 (by simpa using h), fun h => hF.out.f7 (by simpa using h), fun h => hF.out.f8 (by simpa using h), fun _ => rfl, fun h => hF.out.f10 (by simpa using h), fun h => hF.out.f11 (by simpa using h), fun h => by have := hF.out.p0 (by simpa using h); simpa using this, fun h => by have := hF.out.p1 (by simpa using h); simpa using this, fun h => by have := hF.out.p2 (by simpa using h); simpa using this, fun h => by have := hF.out.p3 (by simpa using h); simpa using this, fun h => by have := hF.out.p4 (by simpa using h); simpa using this, fun h => by have := hF.out.p5 (by simpa using h); simpa using this, fun h => by have := hF.out.p6 (by simpa using h); simpa using this, fun h => by have := hF.out.p7 (by simpa using h); simpa using this, fun h => by have := hF.out.p8 (by simpa using h); simpa using this, fun _ => by simp, fun h => by have := hF.out.p10 (by simpa using h); simpa using this, fun _ a ha => (B1.cell (by rw [hsm.heap]; exact ha)).trans (hrd a ha), fun h => by simp at h, fun _ _ => ⟨_, hsm, rfl⟩, fun h => by have := HN11.out; simp [this] at h⟩
        · intro d a W hI hd hdep
          obtain ⟨x22, x23, x24, x25, x26, x27, x28, x29, x30, x31, x32, rfl, hF⟩ := hI
          have hd3 : d 3 = true := dep_of hdep 3 (by kernel_rfl)
          have hd4 : d 4 = true := dep_of hdep 4 (by kernel_rfl)
          obtain rfl := hF.out.f3 hd3
          obtain rfl := hF.out.f4 hd4
          have hn11 := no_later hF.out.p10 hd
          have hrd := hF.out.rd hn11
          have HN11 : Hid (d 11 = false) := hn11
          clear hn11
          clear hdep hd hd3 hd4
          intro K hK
          simp only [Act.put, List.setIfInBounds_toArray, List.set_cons_zero, List.set_cons_succ]
          go_simp
          refine hK.out _ _ ⟨x22, x23, x24, (.slice (some ⟨w.heap.size + 2, 0, none⟩) (n + 1) (n + 1)), (.int .i64 (k : Int)), x27, x28, x29, x30, x31, (.pointer (some ⟨w.heap.size + 2, k, none⟩)), by simp only [Act.put, List.setIfInBounds_toArray, List.set_cons_zero, List.set_cons_succ], ?_⟩
          exact ⟨fun h => hF.out.f0 (by simpa using h), fun h => hF.out.f1 (by simpa using h), fun h => hF.out.f2 (by simpa using h), fun h => hF.out.f3 (by simpa using h), fun h => hF.out.f4 (by simpa using h), fun h => hF.out.f5 (by simpa using h), fun h => hF.out.f6 (by simpa using h), fun h => hF.out.f7 (by simpa using h), fun h => hF.out.f8 (by simpa using h), fun h => hF.out.f9 (by simpa using h), fun _ => rfl, fun h => hF.out.f11 (by simpa using h), fun h => by have := hF.out.p0 (by simpa using h); simpa using this, fun h => by have := hF.out.p1 (by simpa using h); simpa using this, fun h => by have := hF.out.p2 (by simpa using h); simpa using this, fun h => by have := hF.out.p3 (by simpa using h); simpa using this, fun h => by have := hF.out.p4 (by simpa using h); simpa using this, fun h => by have := hF.out.p5 (by simpa using h); simpa using this, fun h => by have := hF.out.p6 (by simpa using h); simpa using this, fun h => by have := hF.out.p7 (by simpa using h); simpa using this, fun h => by have := hF.out.p8 (by simpa using h); simpa using this, fun h => by have := hF.out.p9 (by simpa using h); simpa using this, fun _ => by simp, fun _ => hrd, fun h => hF.out.sm (by simpa using h), fun h h2 => hF.out.al (by simpa using h) (by simpa using h2), fun h => hF.out.fin (by simpa using h)⟩
        · intro d a W hI hd hdep
          obtain ⟨x22, x23, x24, x25, x26, x27, x28, x29, x30, x31, x32, rfl, hF⟩ := hI
          have hd10 : d 10 = true := dep_of hdep 10 (by kernel_rfl)
          have hd9 : d 9 = true := dep_of hdep 9 (by kernel_rfl)
          have hd0 : d 0 = true := dep_of hdep 0 (by kernel_rfl)
          have hd1 : d 1 = true := dep_of hdep 1 (by kernel_rfl)
          have hd2 : d 2 = true := dep_of hdep 2 (by kernel_rfl)
          have hd3 : d 3 = true := dep_of hdep 3 (by kernel_rfl)
          have hd4 : d 4 = true := dep_of hdep 4 (by kernel_rfl)
          have hd5 : d 5 = true := dep_of hdep 5 (by kernel_rfl)
          have hd6 : d 6 = true := dep_of hdep 6 (by kernel_rfl)
          have hd7 : d 7 = true := dep_of hdep 7 (by kernel_rfl)
          have hd8 : d 8 = true := dep_of hdep 8 (by kernel_rfl)
          obtain rfl := hF.out.f10 hd10
          obtain rfl := hF.out.f9 hd9
          obtain rfl := hF.out.f0 hd0
          obtain rfl := hF.out.f1 hd1
          obtain rfl := hF.out.f2 hd2
          obtain rfl := hF.out.f3 hd3
          obtain rfl := hF.out.f4 hd4
          obtain rfl := hF.out.f5 hd5
          obtain rfl := hF.out.f6 hd6
          obtain rfl := hF.out.f7 hd7
          obtain rfl := hF.out.f8 hd8
          have hrd := hF.out.rd hd
          have hal := hF.out.al hd9 hd
          have y0 := (hrd ⟨w.heap.size + 2, k, none⟩ (by have := HSZ.out; simp; omega)).trans HTC.out.1
          have y1 : W.frozen? ⟨w.heap.size + 2, k, none⟩ = false := by
            obtain ⟨W6, h1, h2⟩ := hal
            rw [h2]
            have e : (W6.alloc (Obj.cells (madeCells #[Value.bool false] (m + 1)) 4)).heap[w.heap.size + 2]? = wr.heap[w.heap.size + 2]? := (Below.heap_alloc _ _ _ (by rw [h1.heap]; have := HSZ.out; omega)).trans (by rw [h1.heap])
            simp only [World.frozen?, e]
            exact HTC.out.2
          have g0 := hd0
          have g1 := hd1
          have g2 := hd2
          have g3 := hd3
          have g4 := hd4
          have g5 := hd5
          have g6 := hd6
          have g7 := hd7
          have g8 := hd8
          have g9 := hd9
          have g10 := hd10
          clear hdep hd hd10 hd9 hd0 hd1 hd2 hd3 hd4 hd5 hd6 hd7 hd8
          intro K hK
          simp only [Act.put, List.setIfInBounds_toArray, List.set_cons_zero, List.set_cons_succ]
          go_simp
          refine hK.out _ _ ⟨(.pointer (some ⟨w.heap.size + 3, 0, none⟩)), (.pointer (some ⟨w.heap.size + 3, 0, none⟩)), (.pointer (some ⟨w.heap.size + 3, 1, none⟩)), (.slice (some ⟨w.heap.size + 2, 0, none⟩) (n + 1) (n + 1)), (.int .i64 (k : Int)), (.pointer (some ⟨w.heap.size + 1, 0, none⟩)), (.slice ra m rc), (.int .i64 (m : Int)), (.int .i64 ((m : Int) + 1)), (.slice (some ⟨w.heap.size + 4 + k, 0, none⟩) (m + 1) (m + 1)), (.pointer (some ⟨w.heap.size + 2, k, none⟩)), by simp only [Act.put, List.setIfInBounds_toArray, List.set_cons_zero, List.set_cons_succ], ?_⟩
          exact ⟨fun h => hF.out.f0 (by simpa using h), fun h => hF.out.f1 (by simpa using h), fun h => hF.out.f2 (by simpa using h), fun h => hF.out.f3 (by simpa using h), fun h => hF.out.f4 (by simpa using h), fun h => hF.out.f5 (by simpa using h), fun h => hF.out.f6 (by simpa using h), fun h => hF.out.f7 (by simpa using h), fun h => hF.out.f8 (by simpa using h), fun h => hF.out.f9 (by simpa using h), fun h => hF.out.f10 (by simpa using h), fun _ => trivial, fun _ => by simpa using g0, fun _ => by simpa using g1, fun _ => by simpa using g2, fun _ => by simpa using g3, fun _ => by simpa using g4, fun _ => by simpa using g5, fun _ => by simpa using g6, fun _ => by simpa using g7, fun _ => by simpa using g8, fun _ => by simpa using g9, fun _ => by simpa using g10, fun h => by simp at h, fun h => by have := g9; simp [this] at h, fun _ h => by simp at h, fun _ => fin_of hal⟩
      · intro d a W hI hall
        obtain ⟨x22, x23, x24, x25, x26, x27, x28, x29, x30, x31, x32, rfl, hF⟩ := hI
        simp only [List.length_cons, List.length_nil] at hall
        obtain rfl := hF.out.f0 (hall 0 (by omega))
        obtain rfl := hF.out.f1 (hall 1 (by omega))
        obtain rfl := hF.out.f2 (hall 2 (by omega))
        obtain rfl := hF.out.f3 (hall 3 (by omega))
        obtain rfl := hF.out.f4 (hall 4 (by omega))
        obtain rfl := hF.out.f5 (hall 5 (by omega))
        obtain rfl := hF.out.f6 (hall 6 (by omega))
        obtain rfl := hF.out.f7 (hall 7 (by omega))
        obtain rfl := hF.out.f8 (hall 8 (by omega))
        obtain rfl := hF.out.f9 (hall 9 (by omega))
        obtain rfl := hF.out.f10 (hall 10 (by omega))
        obtain ⟨W6, hs6, rfl⟩ := hF.out.fin (hall 11 (by omega))
        have HNX : Hid (BI w n m (k + 1) ra rc ((W6.alloc (Obj.cells (madeCells #[Value.bool false] (m + 1)) 4)).setCell ⟨w.heap.size + 2, k, none⟩ (.slice (some ⟨w.heap.size + 4 + k, 0, none⟩) (m + 1) (m + 1)))) := HBI.out.next hlt hs6
        clear hF hall hs6
        simp only [Act.put, List.setIfInBounds_toArray, List.set_cons_zero, List.set_cons_succ]
        go_wp2_with fail
        go_roundw
        case rel => exact ⟨k + 1, by omega, by go_num, HNX⟩
        case measure => simp [intOf]; omega

    · have HK : Hid (k = n + 1) := by show _ = _; omega
      have HWK : Hid (Wk RA RB (w.heap.size + 2) n m (fun _ _ => false) [] (.slice none 0 0) wr) := by
        have h := HBI.out
        rw [HK.out] at h
        refine ⟨h.top.congr fun i hi => by rw [if_pos hi], fun i hi => h.rows i hi, h.box, ⟨by simp [scs], Or.inl ⟨rfl, rfl⟩⟩⟩
      have HBW : Hid (Below w.heap.size w wr ∧ w.heap.size + 2 ≤ wr.heap.size) := ⟨HBI.out.below, by have := HBI.out.sz; omega⟩
      go_wp2_with fail
      refine (come_any 0 0 0 0 [] wr HWK.out rfl ⟨by omega, by omega⟩ ⟨by omega, by omega⟩ hn hm (by simp)).mono ?_
      rintro _ w2 ⟨rfl, hmv, h | ⟨-, sv', hwk, -⟩⟩
      · exact absurd h.1 (by simp)
      · have HFI : Hid (Wk RA RB (w.heap.size + 2) n m (upd (fun _ _ => false) 1 1) [s0] sv' w2) := hwk
        have HB2 : Hid (Below w.heap.size w w2) := HBW.out.1.trans ((hmv.to (fun k hk => by simp [Value.ownBlock] at hk) HBW.out.2).mono (by omega))
        clear hmv hwk
        go_wp2_with fail
        go_ret
        refine ⟨rfl, HB2.out, _, _, HFI.out, fun i j => ?_⟩
        unfold upd
        by_cases e : i = 1 ∧ j = 1
        · simp [e]
        · simp [e]; omega
end Go.Proofs.Ytlgcggfenljdnaa
