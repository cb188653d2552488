/-
  The contracts of the plain loops over lists of numbers: areRules, arePlaces, rising, slices.Index, slices.Contains, slices.Equal, marked.
-/
import Derived.Test.YtgdaegmmapljgaaPoOpens
import Derived.Deep.QuietTactic
import Derived.BigQuiet
import Derived.OwnWalk
namespace Go.Proofs.Ytgdaegmmapljgaa
open Go.RowKit
open Cls Po

theorem info3 : (Try.prog.info? 3).map (fun i => (i.zero, i.size, i.bytes)) = some (some (.int .i64 0), 1, 8) := by kernel_rfl

set_option maxHeartbeats 1600000 in
set_option maxRecDepth 20000 in
theorem areRules_any (v : Value) (l : List Int) (k : Nat) (w : World) (h : Ints w v l) :
    Calls Try.prog 37 #[v, .int .i64 (k : Int)] w fun e w' => e = .returned (.bool (l.all (ruleOk k))) ∧ w' = w := by
  obtain ⟨ao, cap, rfl, hm, hcs⟩ := h
  go_enter Try.func37, Try.ntmps37
  go_wp2_with fail
  go_loopw [9] (fun i wr => ∃ q : Nat, q ≤ l.length ∧ i = .int .i64 (q : Int) ∧ Hid ((l.take q).all (ruleOk k) = true) ∧ wr = w) (fun i _ => l.length - (intOf i).toNat)
  case atStart => exact ⟨0, by omega, rfl, rfl, rfl⟩
  case round =>
    obtain ⟨q, hq, rfl, HA, rfl⟩ := hrel
    by_cases hlt : q < l.length
    · obtain ⟨b, o, rfl, hb, hc⟩ := hcs.resolve_left (by intro e; subst e; simp at hlt)
      have c0 := hc q hlt
      obtain ⟨z, HZ⟩ : ∃ z, Hid (l[q] = z) := ⟨_, (rfl : l[q] = l[q])⟩
      rw [HZ.out] at c0
      have hk1 : (q : Int) < (l.length : Int) := by omega
      have HS : Hid ((l.take (q + 1)).all (ruleOk k) = ruleOk k z) := by
        show _ = _
        rw [List.take_succ_eq_append_getElem hlt, List.all_append, HA.out, HZ.out]; simp
      have HF : Hid (ruleOk k z = false → l.all (ruleOk k) = false) := fun e => by
        rw [List.all_eq_false]; exact ⟨z, by rw [← HZ.out]; exact List.getElem_mem hlt, by rw [e]; simp⟩
      clear hcs hc
      by_cases h1 : z < 0
      · go_wp2_with fail
        go_ret
        exact ⟨by rw [HF.out (by unfold ruleOk; simp; omega)]; rfl, rfl⟩
      · by_cases h2 : (k : Int) ≤ z
        · go_wp2_with fail
          go_ret
          exact ⟨by rw [HF.out (by unfold ruleOk; simp; omega)]; rfl, rfl⟩
        · go_wp2_with fail
          go_roundw
          case rel => exact ⟨q + 1, by omega, by go_num, by show _ = _; rw [HS.out]; unfold ruleOk; simp; omega, by trivial⟩
          case measure => simp [intOf]; omega
    · go_wp2_with fail
      go_ret
      refine ⟨?_, rfl⟩
      rw [← HA.out, List.take_of_length_le (by omega)]; rfl

set_option maxHeartbeats 1600000 in
set_option maxRecDepth 20000 in
theorem arePlaces_any (v : Value) (l : List Int) (k : Nat) (w : World) (h : Ints w v l) :
    Calls Try.prog 38 #[v, .int .i64 (k : Int)] w fun e w' => e = .returned (.bool (rises k l)) ∧ w' = w := by
  obtain ⟨ao, cap, rfl, hm, hcs⟩ := h
  go_enter Try.func38, Try.ntmps38
  go_wp2_with fail
  go_loopw [10, 5] (fun i z wr => ∃ (q : Nat) (y : Int), q ≤ l.length ∧ i = .int .i64 (q : Int) ∧ z = .int .i64 y ∧ Hid (rises k l = risesFrom k y (l.drop q)) ∧ wr = w) (fun i _ _ => l.length - (intOf i).toNat)
  case atStart => exact ⟨0, -1, by omega, rfl, rfl, rfl, rfl⟩
  case round =>
    obtain ⟨q, y, hq, rfl, rfl, HA, rfl⟩ := hrel
    by_cases hlt : q < l.length
    · obtain ⟨b, o, rfl, hb, hc⟩ := hcs.resolve_left (by intro e; subst e; simp at hlt)
      have c0 := hc q hlt
      have HS : Hid (rises k l = (decide (y < l[q]) && decide (l[q] < (k : Int)) && risesFrom k l[q] (l.drop (q + 1)))) := by
        show _ = _
        rw [HA.out, risesFrom_step k y l q hlt]
      obtain ⟨z, HZ⟩ : ∃ z, Hid (l[q] = z) := ⟨_, (rfl : l[q] = l[q])⟩
      rw [HZ.out] at c0 HS
      have hk1 : (q : Int) < (l.length : Int) := by omega
      clear hcs hc
      by_cases h1 : z ≤ y
      · go_wp2_with fail
        go_ret
        exact ⟨by rw [HS.out, decide_eq_false (by omega)]; rfl, rfl⟩
      · by_cases h2 : (k : Int) ≤ z
        · go_wp2_with fail
          go_ret
          exact ⟨by rw [HS.out, decide_eq_false (p := z < (k : Int)) (by omega)]; simp, rfl⟩
        · go_wp2_with fail
          go_roundw
          case rel => exact ⟨q + 1, z, by omega, by go_num, rfl, by show _ = _; rw [HS.out, decide_eq_true (by omega), decide_eq_true (by omega)]; rfl, by trivial⟩
          case measure => simp [intOf]; omega
    · go_wp2_with fail
      go_ret
      refine ⟨?_, rfl⟩
      rw [HA.out, List.drop_of_length_le (by omega)]; rfl

set_option maxHeartbeats 1600000 in
set_option maxRecDepth 20000 in
theorem rising_any (v : Value) (l : List Int) (k : Nat) (w : World) (h : Ints w v l) :
    Calls Try.prog 36 #[v, .int .i64 (k : Int)] w fun e w' => e = .returned (.bool (rises k l)) ∧ w' = w := by
  obtain ⟨ao, cap, rfl, hm, hcs⟩ := h
  go_enter Try.func36, Try.ntmps36
  go_wp2_with fail
  go_loopw [6, 5] (fun i z wr => ∃ (q : Nat) (y : Int), q ≤ l.length ∧ i = .int .i64 (q : Int) ∧ z = .int .i64 y ∧ Hid (rises k l = risesFrom k y (l.drop q)) ∧ wr = w) (fun i _ _ => l.length - (intOf i).toNat)
  case atStart => exact ⟨0, -1, by omega, rfl, rfl, rfl, rfl⟩
  case round =>
    obtain ⟨q, y, hq, rfl, rfl, HA, rfl⟩ := hrel
    by_cases hlt : q < l.length
    · obtain ⟨b, o, rfl, hb, hc⟩ := hcs.resolve_left (by intro e; subst e; simp at hlt)
      have c0 := hc q hlt
      have HS : Hid (rises k l = (decide (y < l[q]) && decide (l[q] < (k : Int)) && risesFrom k l[q] (l.drop (q + 1)))) := by
        show _ = _
        rw [HA.out, risesFrom_step k y l q hlt]
      obtain ⟨z, HZ⟩ : ∃ z, Hid (l[q] = z) := ⟨_, (rfl : l[q] = l[q])⟩
      rw [HZ.out] at c0 HS
      have hk1 : (q : Int) < (l.length : Int) := by omega
      clear hcs hc
      by_cases h1 : z ≤ y
      · go_wp2_with fail
        go_ret
        exact ⟨by rw [HS.out, decide_eq_false (by omega)]; rfl, rfl⟩
      · by_cases h2 : (k : Int) ≤ z
        · go_wp2_with fail
          go_ret
          exact ⟨by rw [HS.out, decide_eq_false (p := z < (k : Int)) (by omega)]; simp, rfl⟩
        · go_wp2_with fail
          go_roundw
          case rel => exact ⟨q + 1, z, by omega, by go_num, rfl, by show _ = _; rw [HS.out, decide_eq_true (by omega), decide_eq_true (by omega)]; rfl, by trivial⟩
          case measure => simp [intOf]; omega
    · go_wp2_with fail
      go_ret
      refine ⟨?_, rfl⟩
      rw [HA.out, List.drop_of_length_le (by omega)]; rfl

set_option maxHeartbeats 1600000 in
set_option maxRecDepth 20000 in
theorem index_any (v : Value) (l : List Int) (x : Int) (w : World) (h : Ints w v l) :
    Calls Try.prog 45 #[v, .int .i64 x] w fun e w' => (∃ z : Int, e = .returned (.int .i64 z) ∧ (0 ≤ z ↔ l.contains x = true)) ∧ w' = w := by
  obtain ⟨ao, cap, rfl, hm, hcs⟩ := h
  go_enter Try.func45, Try.ntmps45
  go_wp2_with fail
  go_loopw [8] (fun i wr => ∃ q : Nat, q ≤ l.length ∧ i = .int .i64 (q : Int) ∧ Hid (∀ i (hi : i < l.length), i < q → l[i] ≠ x) ∧ wr = w) (fun i _ => l.length - (intOf i).toNat)
  case atStart => exact ⟨0, by omega, rfl, fun i _ hi => by omega, rfl⟩
  case round =>
    obtain ⟨q, hq, rfl, HA, rfl⟩ := hrel
    by_cases hlt : q < l.length
    · obtain ⟨b, o, rfl, hb, hc⟩ := hcs.resolve_left (by intro e; subst e; simp at hlt)
      have c0 := hc q hlt
      obtain ⟨z, HZ⟩ : ∃ z, Hid (l[q] = z) := ⟨_, (rfl : l[q] = l[q])⟩
      rw [HZ.out] at c0
      have hk1 : (q : Int) < (l.length : Int) := by omega
      clear hcs hc
      by_cases h1 : x = z
      · subst h1
        go_wp2_with fail
        go_ret
        refine ⟨⟨(q : Int), rfl, ?_⟩, rfl⟩
        constructor
        · intro _; simp; rw [← HZ.out]; exact List.getElem_mem hlt
        · intro _; omega
      · have hb1 : (x == z) = false := by simp; exact h1
        go_wp2_with fail
        go_roundw
        case rel =>
          refine ⟨q + 1, by omega, by go_num, fun i hi h2 => ?_, by trivial⟩
          by_cases e : i = q
          · subst e; rw [HZ.out]; exact fun e => h1 e.symm
          · exact HA.out i hi (by omega)
        case measure => simp [intOf]; omega
    · go_wp2_with fail
      go_ret
      refine ⟨⟨-1, rfl, ?_⟩, rfl⟩
      constructor
      · intro h; omega
      · intro h
        simp at h
        obtain ⟨i, hi, e⟩ := List.getElem_of_mem h
        exact absurd e (HA.out i hi (by omega))

set_option maxHeartbeats 1600000 in
set_option maxRecDepth 20000 in
theorem contains_any (v : Value) (l : List Int) (x : Int) (w : World) (h : Ints w v l) :
    Calls Try.prog 20 #[v, .int .i64 x] w fun e w' => e = .returned (.bool (l.contains x)) ∧ w' = w := by
  have HI := index_any v l x w h
  obtain ⟨ao, cap, rfl, hm, hcs⟩ := h
  go_enter Try.func20, Try.ntmps20
  go_wp2_with fail
  refine HI.mono ?_
  rintro _ w1 ⟨⟨z, rfl, hz⟩, rfl⟩
  have HZ : Hid (0 ≤ z ↔ l.contains x = true) := hz
  clear hz HI
  go_wp2_with fail
  go_ret
  refine ⟨ret_bool ?_, rfl⟩
  rw [Bool.eq_iff_iff, decide_eq_true_eq]
  exact HZ.out

set_option maxHeartbeats 1600000 in
set_option maxRecDepth 20000 in
theorem equal_any (v u : Value) (l m : List Int) (w : World) (h : Ints w v l) (h' : Ints w u m) :
    Calls Try.prog 15 #[v, u] w fun e w' => e = .returned (.bool (decide (l = m))) ∧ Below w.heap.size w w' := by
  obtain ⟨ao, cap, rfl, hm, hcs⟩ := h
  obtain ⟨ao', cap', rfl, hm', hcs'⟩ := h'
  go_enter Try.func15, Try.ntmps15
  by_cases hlen : l.length = m.length
  · have HL : Hid (l.length = m.length) := hlen
    obtain ⟨n, HN⟩ : ∃ n, Hid (l.length = n) := ⟨_, (rfl : l.length = l.length)⟩
    rw [← hlen, HN.out]
    have HM : Hid (m.length = n) := by show _ = _; rw [← hlen, HN.out]
    have hnm : n ≤ 9223372036854775807 := by rw [← HN.out]; exact hm
    have hnn : ((n : Int) != (n : Int)) = false := by simp
    clear hlen hm hm'
    go_wp2_with fail
    go_loopw [13] (fun i wr => ∃ q : Nat, q ≤ n ∧ i = .int .i64 (q : Int) ∧ Hid (∀ i (hi : i < l.length) (hi' : i < m.length), i < q → l[i] = m[i]) ∧ Below w.heap.size w wr) (fun i _ => n - (intOf i).toNat)
    case atStart => exact ⟨0, by omega, rfl, fun i _ _ hi => by omega, Below.refl _ _⟩
    case round =>
      obtain ⟨q, hq, rfl, HA, hbel⟩ := hrel
      by_cases hlt : q < n
      · have hl1 : q < l.length := by rw [HN.out]; exact hlt
        have hl2 : q < m.length := by rw [HM.out]; exact hlt
        obtain ⟨b, o, rfl, hb, hc⟩ := hcs.resolve_left (by intro e; subst e; simp at hl1)
        obtain ⟨b', o', rfl, hb', hc'⟩ := hcs'.resolve_left (by intro e; subst e; simp at hl2)
        have c0 : wr.cell? ⟨b, o + q, none⟩ = _ := (hbel.cell (p := ⟨b, o + q, none⟩) hb).trans (hc q hl1)
        have c1 : wr.cell? ⟨b', o' + q, none⟩ = _ := (hbel.cell (p := ⟨b', o' + q, none⟩) hb').trans (hc' q hl2)
        obtain ⟨z, HZ⟩ : ∃ z, Hid (l[q] = z) := ⟨_, (rfl : l[q] = l[q])⟩
        obtain ⟨y, HY⟩ : ∃ y, Hid (m[q] = y) := ⟨_, (rfl : m[q] = m[q])⟩
        rw [HZ.out] at c0
        rw [HY.out] at c1
        have hk1 : (q : Int) < (n : Int) := by omega
        clear hcs hc hcs' hc'
        by_cases h1 : z = y
        · have hb1 : (z != y) = false := by simp; exact h1
          have H1 : Hid (z = y) := h1
          clear h1
          go_wp2_with (go_quiet (fail))
          go_roundw
          case rel =>
            refine ⟨q + 1, by omega, by go_num, fun i hi hi' h2 => ?_, below_drewN hbel nq⟩
            by_cases e : i = q
            · subst e; rw [HZ.out, HY.out, H1.out]
            · exact HA.out i hi hi' (by omega)
          case measure => simp [intOf]; omega
        · have hb1 : (z != y) = true := by simp; exact h1
          have HD : Hid (decide (l = m) = false) := by
            show _ = _
            apply decide_eq_false
            intro e
            subst e
            exact h1 (by rw [← HZ.out, ← HY.out])
          go_wp2_with (go_quiet (fail))
          go_ret
          exact ⟨by rw [HD.out]; rfl, below_drewN hbel nq⟩
      · go_wp2_with fail
        go_ret
        refine ⟨?_, hbel⟩
        have e : l = m := List.ext_getElem HL.out fun i h1 h2 => HA.out i h1 h2 (by rw [HN.out] at h1; omega)
        rw [decide_eq_true e]; rfl
  · have HD : Hid (decide (l = m) = false) := by
      show _ = _
      apply decide_eq_false
      intro e; subst e; exact hlen rfl
    have hnn : ((l.length : Int) != (m.length : Int)) = true := by simp; omega
    go_wp2_with fail
    go_ret
    exact ⟨by rw [HD.out]; rfl, Below.refl _ _⟩

set_option maxHeartbeats 1600000 in
set_option maxRecDepth 20000 in
theorem marked_any (v : Value) (bs : List Bool) (w : World) (h : Bls w v bs) (hl : bs.length ≤ 200) :
    Calls Try.prog 41 #[v] w fun e w' => ∃ v', e = .returned v' ∧ Ints w' v' (sel bs.length (bs.getD · false)) ∧ Fr w.heap.size v' ∧ Below w.heap.size w w' := by
  obtain ⟨i0, hi, hz0, hz1, hz2⟩ := info_parts info3
  obtain ⟨ao, cap, rfl, hm, hcs⟩ := h
  go_enter Try.func41, Try.ntmps41
  go_wp2_with fail
  go_loopw [8, 3] (fun i v wr => ∃ q : Nat, q ≤ bs.length ∧ i = .int .i64 (q : Int) ∧ wr.ownsRow w.heap.size 3 1 v (sel q (bs.getD · false)).length ((sel q (bs.getD · false)).map (Value.int .i64)) ∧ Below w.heap.size w wr) (fun i _ _ => bs.length - (intOf i).toNat)
  case atStart => exact ⟨0, by omega, rfl, World.ownsRow_nil _ _ _ _, Below.refl _ _⟩
  case round =>
    obtain ⟨q, hq, rfl, hown, hbel⟩ := hrel
    have hsb := hbel.size
    by_cases hlt : q < bs.length
    · obtain ⟨b, o, rfl, hb, hc⟩ := hcs.resolve_left (by intro e; subst e; simp at hlt)
      have c0 : wr.cell? ⟨b, o + q, none⟩ = _ := (hbel.cell (p := ⟨b, o + q, none⟩) hb).trans (hc q hlt)
      have HG : Hid (bs.getD q false = bs[q]) := by show _ = _; rw [List.getD_eq_getElem?_getD, List.getElem?_eq_getElem hlt]; rfl
      have hk1 : (q : Int) < (bs.length : Int) := by omega
      have hsl := sel_length q (bs.getD · false)
      clear hcs hc
      cases hx : bs[q] with
      | true =>
        rw [hx] at c0
        have HS : Hid (sel (q + 1) (bs.getD · false) = sel q (bs.getD · false) ++ [(q : Int)]) := by show _ = _; rw [sel_step, if_pos (by rw [HG.out, hx])]
        clear hx
        go_wp2_with (at_builtin; refine wpList_append_own _ rfl _ _ 24 rfl w.heap.size 3 i0 (.int .i64 0) 1 8 Try.underlying24 hi hz0 hz1 hz2 rfl (by decide) _ _ _ rfl (hown.alloc _) ⟨wr.heap.size, 0, none⟩ 1 1 [.int .i64 (q : Int)] rfl rfl (World.news_of_block (t := 3) (fr := (0, 0)) (heap_alloc_new wr _)) (by simp [Value.oneCell']) (by unfold maxLen; omega) (by omega) (by simp; omega) ?_)
        intro v' w2 hown' hgrow _
        have R1 : w2.ownsRow w.heap.size 3 1 v' (sel (q + 1) (bs.getD · false)).length ((sel (q + 1) (bs.getD · false)).map (Value.int .i64)) := by rw [HS.out, List.length_append, List.map_append]; exact hown'
        have R2 : Below w.heap.size w w2 := Below.grown (hbel.alloc hsb _) hgrow (by simp; omega) (own_ge hown)
        clear hown' hgrow hown hbel
        go_wp2_with fail
        go_roundw
        case rel => exact ⟨q + 1, by omega, by go_num, R1, R2⟩
        case measure => simp [intOf]; omega
      | false =>
        rw [hx] at c0
        have HS : Hid (sel (q + 1) (bs.getD · false) = sel q (bs.getD · false)) := by show _ = _; rw [sel_step, if_neg (by rw [HG.out, hx]; simp)]; simp
        clear hx
        go_wp2_with fail
        go_roundw
        case rel => exact ⟨q + 1, by omega, by go_num, by rw [HS.out]; exact hown, hbel⟩
        case measure => simp [intOf]; omega
    · obtain rfl : q = bs.length := by omega
      have hsl := sel_length bs.length (bs.getD · false)
      have HI : Hid (Ints wr _ _) := ints_of_own hown (by omega)
      have HFr : Hid (Fr w.heap.size _) := own_ge hown
      obtain ⟨a', m', c', rfl⟩ := own_form hown
      go_wp2_with fail
      go_ret
      exact ⟨_, rfl, HI.out, HFr.out, hbel⟩
end Go.Proofs.Ytgdaegmmapljgaa
