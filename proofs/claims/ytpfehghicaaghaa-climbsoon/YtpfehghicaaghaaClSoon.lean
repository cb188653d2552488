/-
  The contracts of slices.Index and slices.Contains at Bools, and of pushkeep.soon where what was had is right.
-/
import Derived.Test.YtpfehghicaaghaaFcB
import Derived.Test.YtpfehghicaaghaaChC
import Derived.Deep.Cut
namespace Go.Proofs.Ytpfehghicaaghaa
open Go.RowKit
open Cg

set_option maxHeartbeats 3200000 in
set_option maxRecDepth 20000 in
theorem indexB_any (b n : Nat) (hn : n ≤ 100000) (M : Nat → Bool) (w : World) (h : Rb w b n M) :
    Calls Try.prog 89 #[.slice (some ⟨b, 0, none⟩) n n, .bool false] w fun e w' => ∃ r, e = .returned (.int .i64 r) ∧ (r < 0 → ∀ i, i < n → M i = true) ∧ Below w.heap.size w w' := by
  have HR : Hid (Rb w b n M) := h
  clear h
  go_enter Try.func89, Try.ntmps89
  go_wp2_with fail
  go_loopw [8] (fun y wr => ∃ i : Nat, i ≤ n ∧ y = .int .i64 (i : Int) ∧ Hid (Below w.heap.size w wr ∧ ∀ j, j < i → M j = true)) (fun y _ => n - (intOf y).toNat)
  case atStart => exact ⟨0, by omega, rfl, Below.refl _ _, fun j hj => absurd hj (Nat.not_lt_zero _)⟩
  case round =>
    obtain ⟨i, hi, rfl, HI⟩ := hrel
    by_cases hlt : i < n
    · have c0 := World.rowIs.cell (HR.out.next HI.out.1) (i := i) hlt
      have hk0 : (0 : Int) ≤ (i : Int) := by omega
      have hk1 : (i : Int) < (n : Int) := by omega
      obtain ⟨m, HM⟩ : ∃ m, Hid (M i = m) := ⟨_, (rfl : M i = _)⟩
      rw [HM.out] at c0
      cases m with
      | true =>
        have HN : Hid (∀ j, j < i + 1 → M j = true) := fun j hj => by
          by_cases e : j = i
          · subst e; exact HM.out
          · exact HI.out.2 j (by omega)
        have HB := HI.out.1
        go_wp2_with fail
        go_roundw
        case rel => exact ⟨i + 1, by omega, by go_num, HB, HN.out⟩
        case measure => simp [intOf]; omega
      | false =>
        have HB := HI.out.1
        go_wp2_with fail
        go_ret
        exact ⟨_, rfl, fun h => by omega, HB⟩
    · have hk1 : ¬ (i : Int) < (n : Int) := by omega
      have HB := HI.out.1
      have HA : Hid (∀ j, j < n → M j = true) := fun j hj => HI.out.2 j (by omega)
      go_wp2_with fail
      go_ret
      exact ⟨_, rfl, fun _ => HA.out, HB⟩
def CoP (n : Nat) (M : Nat → Bool) (e : Ending) : Prop := ∃ q, e = .returned (.bool q) ∧ (q = false → ∀ i, i < n → M i = true)
set_option maxHeartbeats 3200000 in
set_option maxRecDepth 20000 in
theorem containsB_any (b n : Nat) (hn : n ≤ 100000) (M : Nat → Bool) (w : World) (h : Rb w b n M) :
    Calls Try.prog 63 #[.slice (some ⟨b, 0, none⟩) n n, .bool false] w fun e w' => CoP n M e ∧ Below w.heap.size w w' := by
  have hcall := indexB_any b n hn M w h
  go_enter Try.func63, Try.ntmps63
  go_wp2_with fail
  refine hcall.mono ?_
  rintro _ w2 ⟨r, rfl, hr, hb⟩
  have HR : Hid _ := hr
  clear hcall hr
  by_cases h0 : r < 0
  · have hk : decide (r ≥ 0) = false := by simpa using h0
    have hk2 : ¬ (0 : Int) ≤ r := by omega
    have HM : Hid _ := HR.out h0
    go_wp2_with fail
    go_ret
    exact ⟨⟨_, rfl, fun _ => HM.out⟩, hb⟩
  · have hk : decide (r ≥ 0) = true := by simpa using h0
    have hk2 : (0 : Int) ≤ r := by omega
    go_wp2_with fail
    go_ret
    exact ⟨⟨_, rfl, fun h => by simp at h⟩, hb⟩
theorem cBg_true {t n : Int} {ps : List Pd} {ws : List Int} (h1 : ckW t n ps ws = 0) (h2 : Bgn ps ws (2, 0) 0) : cBg t n ps ws = true := by
  unfold cBg; simp [h1, h2]
theorem cBg_false {t n : Int} {ps : List Pd} {ws : List Int} (h2 : ¬ Bgn ps ws (2, 0) 0) : cBg t n ps ws = false := by
  unfold cBg; simp [h2]
theorem ints_take {w : World} {wo : Option Addr} {wc k : Nat} {ws : List Int} (h : Ints w (.slice wo ws.length wc) ws) (hk : k ≤ ws.length) : Ints w (.slice wo k wc) (ws.take k) := by
  obtain ⟨ao, c, e, hm, hx⟩ := h
  simp only [Value.slice.injEq] at e
  obtain ⟨rfl, -, rfl⟩ := e
  refine ⟨wo, wc, by rw [List.length_take, Nat.min_eq_left hk], by rw [List.length_take]; omega, ?_⟩
  rcases hx with h0 | ⟨b, o, h1, h2, h3⟩
  · left; rw [h0]; simp
  · right
    refine ⟨b, o, h1, h2, fun i hi => ?_⟩
    rw [List.length_take] at hi
    rw [List.getElem_take]
    exact h3 i (by omega)
theorem ckW_take {t n : Int} {ps : List Pd} {ws : List Int} (h : ckW t n ps ws = 0) (k : Nat) : ckW t n ps (ws.take k) = 0 := by
  obtain ⟨h1, h2, h3⟩ := ckW_zero h
  unfold ckW
  rw [if_pos h1, if_neg (by rw [List.length_take]; omega), if_pos]
  refine List.all_eq_true.2 fun x hx => ?_
  have := h3 x (List.mem_of_mem_take hx)
  unfold okN; simp; exact this
set_option maxHeartbeats 8000000 in
set_option maxRecDepth 20000 in
theorem soon_true (t : Int) (n : Nat) (pv : Value) (ps : List Pd) (wo : Option Addr) (wc : Nat) (ws : List Int) (k : Nat) (er : Int) (w : World) (hp : Pds w pv ps) (hw : Ints w (.slice wo ws.length wc) ws) (hcap : ws.length ≤ wc) (hck : ckW t (n : Int) ps ws = 0) (hk : k ≤ ws.length)
    (hq : er = 14 ∨ ∀ (E : Nat → Bool) (F V : Nat → Wd) (R M : Nat → Bool), Fa ps E F V R M → (∀ i, i < n → M i = true) → Bgn ps (ws.take k) (2, 0) 0 ∧ (k < ws.length → ¬ Bgn ps (ws.take (k + 1)) (2, 0) 0)) :
    Calls Try.prog 29 #[.agg #[.int .i64 t, .int .i64 (n : Int), pv], .slice wo ws.length wc, .int .i64 (k : Int), .int .i64 er] w fun e w' => e = .returned (.bool true) ∧ Below w.heap.size w w' := by
  have HG0 : Hid _ := Gb.box hp t (n : Int)
  have HPV : Hid (Pds w pv ps) := hp
  have HWV : Hid (Ints w (.slice wo ws.length wc) ws) := hw
  have HCK : Hid (ckW t (n : Int) ps ws = 0) := hck
  have HKK : Hid (k ≤ ws.length ∧ ws.length ≤ wc ∧ ws.length ≤ 20 ∧ n ≤ 20) := ⟨hk, hcap, (ckW_zero hck).2.1, by have := okTN_le (chk_zero (ckW_zero hck).1).1; omega⟩
  have HQ : Hid _ := hq
  obtain ⟨po, pc, rfl, hpm, -⟩ := hp
  have HB1 : Hid (Below w.heap.size w (w.alloc (Obj.cells #[.int .i64 t, .int .i64 (n : Int), .slice po ps.length pc] 24))) := below_alloc _ _
  clear hck hq hw hcap hk
  go_enter Try.func29, Try.ntmps29
  go_upto_region 1 with fail
  generalize w.alloc (Obj.cells #[.int .i64 t, .int .i64 (n : Int), .slice po ps.length pc] 24) = w1 at HG0 HB1 ⊢
  obtain ⟨g, HG⟩ : ∃ g, Hid (w.heap.size = g) := ⟨_, (rfl : w.heap.size = w.heap.size)⟩
  rw [HG.out] at HG0 ⊢
  have hcall := Of_ok t n (.slice po ps.length pc) ps w1 HG0.out.pds (ckW_zero HCK.out).1
  have z0 := HG0.out.c0
  have z1 := HG0.out.c1
  have z2 := HG0.out.c2
  go_wp2_with fail
  refine hcall.mono ?_
  rintro _ w2 ⟨be, bf, bw, br, bm, rfl, hb2, E, F, V, R, M, hfx, hfa⟩
  have HBA : Hid (Below w2.heap.size w2 (w2.alloc (Obj.cells #[.slice (some ⟨be, 0, none⟩) n n, .slice (some ⟨bf, 0, none⟩) n n, .slice (some ⟨bw, 0, none⟩) n n, .slice (some ⟨br, 0, none⟩) n n, .slice (some ⟨bm, 0, none⟩) n n] 82))) := below_alloc _ _
  have HFX : Hid _ := hfx.next HBA.out
  have HFA : Hid _ := hfa
  have HG2 : Hid _ := (HG0.out.next hb2).next HBA.out
  have HBK : Hid _ := heap_alloc_new w2 (Obj.cells #[.slice (some ⟨be, 0, none⟩) n n, .slice (some ⟨bf, 0, none⟩) n n, .slice (some ⟨bw, 0, none⟩) n n, .slice (some ⟨br, 0, none⟩) n n, .slice (some ⟨bm, 0, none⟩) n n] 82)
  have HB2 : Hid (Below w.heap.size w (w2.alloc (Obj.cells #[.slice (some ⟨be, 0, none⟩) n n, .slice (some ⟨bf, 0, none⟩) n n, .slice (some ⟨bw, 0, none⟩) n n, .slice (some ⟨br, 0, none⟩) n n, .slice (some ⟨bm, 0, none⟩) n n] 82))) := (HB1.out.trans (hb2.mono HB1.out.size)).alloc (Nat.le_trans HB1.out.size hb2.size) _
  clear hcall hb2 hfx hfa z0 z1 z2 HG0 HB1 HBA
  obtain ⟨kb, HKB⟩ : ∃ kb, Hid (w2.heap.size = kb) := ⟨_, (rfl : w2.heap.size = _)⟩
  go_upto_region 2 with fail
  generalize w2.alloc (Obj.cells #[.slice (some ⟨be, 0, none⟩) n n, .slice (some ⟨bf, 0, none⟩) n n, .slice (some ⟨bw, 0, none⟩) n n, .slice (some ⟨br, 0, none⟩) n n, .slice (some ⟨bm, 0, none⟩) n n] 82) = w3 at HFX HG2 HBK HB2 ⊢
  rw [HKB.out] at HBK ⊢
  have hcall := containsB_any bm n (by have := HKK.out; omega) M w3 HFX.out.m
  have t4 := tcell_blk HBK.out 4
  simp only [List.getElem?_toArray, List.getElem?_cons_zero, List.getElem?_cons_succ] at t4
  go_wp2_with fail
  refine hcall.mono ?_
  rintro _ w4 ⟨⟨q, rfl, hq⟩, hb4⟩
  have HMK : Hid (q = false → ∀ i, i < n → M i = true) := hq
  have HG4 : Hid _ := HG2.out.next hb4
  have HB4 : Hid (Below w.heap.size w w4) := HB2.out.trans (hb4.mono HB2.out.size)
  clear hcall hq hb4 t4 HBK HFX HG2 HB2
  cases q with
  | true =>
    go_wp2_with fail
    go_ret
    exact ⟨rfl, HB4.out⟩
  | false =>
    have HM : Hid (∀ i, i < n → M i = true) := HMK.out rfl
    clear HMK
    by_cases h14 : er = 14
    · have hb14 : (er == 14) = true := by simp [h14]
      subst h14
      go_wp2_with fail
      go_ret
      exact ⟨rfl, HB4.out⟩
    · have hb14 : (er == 14) = false := by simpa using h14
      have HQ2 : Hid _ := HQ.out.resolve_left h14 E F V R M HFA.out HM.out
      clear h14 HQ
      have hkc : (k : Int) ≤ (wc : Int) := by have := HKK.out; omega
      have hk0 : (0 : Int) ≤ (k : Int) := by omega
      have hkl : k ≤ ws.length := HKK.out.1
      have HCA : Hid (∀ p : Kp (Sb w4), Calls Try.prog 11 #[.agg #[.int .i64 t, .int .i64 (n : Int), .slice po ps.length pc], .slice wo k wc] p.W fun e w'' => e = .returned (.tuple #[.bool true, .int .i64 0]) ∧ ∃ q : Kp (Sb w4), w'' = q.W) := fun p => by
        have h1 := CBegins_any t (n : Int) (.slice po ps.length pc) (.slice wo k wc) ps (ws.take k) p.W (HG4.out.next p.h).pds (ints_take (HWV.out.below (HB4.out.trans (p.h.mono HB4.out.size))) hkl)
        have e1 : cBg t (n : Int) ps (ws.take k) = true := cBg_true (ckW_take HCK.out k) HQ2.out.1
        rw [e1, ckW_take HCK.out k] at h1
        exact Kp.calls p Sb.next h1
      have hne : Nonempty (Kp (Sb w4)) := ⟨⟨_, Sb.drew w4⟩⟩
      have m0 : ∀ p : Kp (Sb w4), p.W.cell? ⟨g, 0, none⟩ = some (.int .i64 t) := fun p => (HG4.out.next p.h).c0
      have m1 : ∀ p : Kp (Sb w4), p.W.cell? ⟨g, 1, none⟩ = some (.int .i64 (n : Int)) := fun p => (HG4.out.next p.h).c1
      have m2 : ∀ p : Kp (Sb w4), p.W.cell? ⟨g, 2, none⟩ = some (.slice po ps.length pc) := fun p => (HG4.out.next p.h).c2
      go_upto_region 4 with fail
      refine wp_region_kept mixed (by kernel_rfl) (Sb.drew w4) ?_
      repeat (go_big_quiet_step (first | (go_at_call 11; with_reducible exact HCA.out _)))
      refine wpQuiet_nil ?_
      intro W5 hw5
      obtain ⟨⟨W5, HS5⟩, rfl⟩ := hw5
      have HG5 : Hid _ := HG4.out.next HS5
      have HB5 : Hid (Below w.heap.size w W5) := HB4.out.trans (HS5.mono HB4.out.size)
      clear HS5 hne m0 m1 m2 HCA HG4 HB4
      by_cases hlt : k = ws.length
      · have hbk : ((k : Int) == (ws.length : Int)) = true := by simp [hlt]
        clear hlt
        go_wp2_with fail
        go_ret
        exact ⟨rfl, HB5.out⟩
      · have hbk : ((k : Int) == (ws.length : Int)) = false := by simp; omega
        have hkl1 : k + 1 ≤ ws.length := by omega
        have hkc1 : (k : Int) + 1 ≤ (wc : Int) := by have := HKK.out; omega
        have hk1 : (0 : Int) ≤ (k : Int) + 1 := by omega
        have hk2 : (k : Int) ≤ 20 := by have := HKK.out; omega
        have HCA : Hid (∀ p : Kp (Sb W5), Calls Try.prog 11 #[.agg #[.int .i64 t, .int .i64 (n : Int), .slice po ps.length pc], .slice wo (k + 1) wc] p.W fun e w'' => e = .returned (.tuple #[.bool false, .int .i64 0]) ∧ ∃ q : Kp (Sb W5), w'' = q.W) := fun p => by
          have h1 := CBegins_any t (n : Int) (.slice po ps.length pc) (.slice wo (k + 1) wc) ps (ws.take (k + 1)) p.W (HG5.out.next p.h).pds (ints_take (HWV.out.below (HB5.out.trans (p.h.mono HB5.out.size))) hkl1)
          have e1 : cBg t (n : Int) ps (ws.take (k + 1)) = false := cBg_false (HQ2.out.2 (by omega))
          rw [e1, ckW_take HCK.out (k + 1)] at h1
          exact Kp.calls p Sb.next h1
        have hne : Nonempty (Kp (Sb W5)) := ⟨⟨_, Sb.drew W5⟩⟩
        have m0 : ∀ p : Kp (Sb W5), p.W.cell? ⟨g, 0, none⟩ = some (.int .i64 t) := fun p => (HG5.out.next p.h).c0
        have m1 : ∀ p : Kp (Sb W5), p.W.cell? ⟨g, 1, none⟩ = some (.int .i64 (n : Int)) := fun p => (HG5.out.next p.h).c1
        have m2 : ∀ p : Kp (Sb W5), p.W.cell? ⟨g, 2, none⟩ = some (.slice po ps.length pc) := fun p => (HG5.out.next p.h).c2
        clear hlt hkl hkc hk0
        go_upto_region 7 with fail
        refine wp_region_kept mixed (by kernel_rfl) (Sb.drew W5) ?_
        repeat (go_big_quiet_step (first | (go_at_call 11; with_reducible exact HCA.out _)))
        refine wpQuiet_nil ?_
        intro W6 hw6
        obtain ⟨⟨W6, HS6⟩, rfl⟩ := hw6
        have HB6 : Hid (Below w.heap.size w W6) := HB5.out.trans (HS6.mono HB5.out.size)
        clear HS6 hne m0 m1 m2 HCA HG5 HB5
        go_wp2_with fail
        go_ret
        exact ⟨rfl, HB6.out⟩
end Go.Proofs.Ytpfehghicaaghaa
