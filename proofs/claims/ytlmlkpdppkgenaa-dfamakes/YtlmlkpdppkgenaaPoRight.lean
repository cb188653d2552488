/-
  The contract of the document's own answer pushref.RightPosn.
-/
import Derived.Test.YtlmlkpdppkgenaaPoCheck
namespace Go.Proofs.Ytlmlkpdppkgenaa
open Go.RowKit
open Cls Po

def Sb (w W : World) : Prop := Below w.heap.size w W
theorem Sb.next {w : World} (W W' : World) (h : Sb w W) (hb : Below W.heap.size W W') : Sb w W' := Below.trans h (hb.mono h.size)
theorem Sb.refl (w : World) : Sb w w := Below.refl _ _
theorem Sb.drew (w : World) : Sb w w.drew := ⟨rfl, rfl, rfl, Nat.le_refl _, fun _ _ => rfl⟩
theorem rising_below (v : Value) (l : List Int) (k : Nat) (w : World) (h : Ints w v l) :
    Calls Try.prog 31 #[v, .int .i64 (k : Int)] w fun e w' => e = .returned (.bool (rises k l)) ∧ Below w.heap.size w w' :=
  (rising_any v l k w h).mono fun _ _ ⟨h1, h2⟩ => ⟨h1, by rw [h2]; exact Below.refl _ _⟩

set_option maxHeartbeats 8000000 in
set_option maxRecDepth 20000 in
theorem right_any (v0 v1 v2 v3 v4 v5 : Value) (p : P) (w : World) (hp : Pn w v0 v1 v2 v3 v4 v5 p) :
    Calls Try.prog 10 #[.agg #[v0, v1, v2, v3, v4, v5]] w fun e w' => e = .returned (.int .i64 (chk p)) ∧ Below w.heap.size w w' := by
  have H0 : Hid (Px w w.heap.size v0 v1 v2 v3 v4 v5 p (w.alloc (Obj.cells #[v0, v1, v2, v3, v4, v5] 27))) := Px.box hp
  obtain ⟨a0, k0, rfl, hm0, -⟩ := hp.cls
  obtain ⟨a1, k1, rfl, hm1, -⟩ := hp.rules
  obtain ⟨a2, k2, rfl, hm2, -⟩ := hp.first
  obtain ⟨a3, k3, rfl, hm3, -⟩ := hp.follow
  obtain ⟨a4, k4, rfl, hm4, -⟩ := hp.last
  obtain ⟨a5, k5, rfl, hm5, -⟩ := hp.empty
  clear hp
  have HB : Hid (Below w.heap.size w (w.alloc (Obj.cells #[.slice a0 p.cls.length k0, .slice a1 p.rules.length k1, .slice a2 p.first.length k2, .slice a3 p.follow.length k3, .slice a4 p.last.length k4, .slice a5 p.empty.length k5] 27))) := H0.out.below
  go_enter Try.func10, Try.ntmps10
  by_cases e1 : p.rules.length = p.cls.length
  · have E1 : Hid (p.rules.length = p.cls.length) := e1
    have b1 := ne_false e1.symm
    clear e1
    by_cases e2 : p.follow.length = p.cls.length
    · have E2 : Hid (p.follow.length = p.cls.length) := e2
      have b2 := ne_false e2.symm
      clear e2
      by_cases e3 : p.last.length = p.cls.length
      · have E3 : Hid (p.last.length = p.cls.length) := e3
        have b3 := ne_false e3.symm
        clear e3
        by_cases e4 : 0 < p.empty.length
        · have b4 : ¬ (p.empty.length : Int) < 1 := by omega
          by_cases e5 : p.empty.length ≤ 20
          · have b5 : ¬ (20 : Int) < (p.empty.length : Int) := by omega
            have b4' : decide ((p.empty.length : Int) < 1) = false := by simp; omega
            have b5' : decide ((20 : Int) < (p.empty.length : Int)) = false := by simp; omega
            go_wp2_with fail
            refine (rising_any _ p.first p.cls.length _ H0.out.pn.first).mono ?_
            rintro _ W1 ⟨rfl, hW1⟩
            have H1 : Hid (Px w w.heap.size (.slice a0 p.cls.length k0) (.slice a1 p.rules.length k1) (.slice a2 p.first.length k2) (.slice a3 p.follow.length k3) (.slice a4 p.last.length k4) (.slice a5 p.empty.length k5) p W1) := by rw [hW1]; exact H0.out
            clear hW1 H0
            cases hf : rises p.cls.length p.first with
            | false =>
              go_wp2_with fail
              go_ret
              exact ⟨by rw [chk_bad (by rw [ok_iff]; rintro ⟨-, -, -, -, -, -, h, -⟩; rw [hf] at h; cases h)]; rfl, H1.out.below⟩
            | true =>
              have HFI : Hid (rises p.cls.length p.first = true) := hf
              clear hf
              go_wp2_with fail
              clear b1 b2 b3 b4 b5 b4' b5'
              go_loopw [4] (fun z wr => ∃ q : Nat, q ≤ p.cls.length ∧ z = .int .i64 (q : Int) ∧ Hid ((p.rules.take q).all (ruleOk p.empty.length) = true) ∧ Hid ((p.follow.take q).all (rises p.cls.length) = true) ∧ Sb W1 wr) (fun z _ => p.cls.length - (intOf z).toNat)
              case atStart => exact ⟨0, by omega, rfl, rfl, rfl, Sb.refl _⟩
              case round =>
                obtain ⟨WM, rfl⟩ : ∃ WM, WM = wr := ⟨_, rfl⟩
                obtain ⟨q, hq, rfl, HA, HF, hbel⟩ := hrel
                have H2 : Hid (Px w w.heap.size (.slice a0 p.cls.length k0) (.slice a1 p.rules.length k1) (.slice a2 p.first.length k2) (.slice a3 p.follow.length k3) (.slice a4 p.last.length k4) (.slice a5 p.empty.length k5) p WM) := H1.out.next _ _ hbel
                by_cases hlt : q < p.cls.length
                · have hq1 : q < p.rules.length := by rw [E1.out]; exact hlt
                  have hq3 : q < p.follow.length := by rw [E2.out]; exact hlt
                  have hqi : (q : Int) < (p.cls.length : Int) := by omega
                  have hqi1 : (q : Int) < (p.rules.length : Int) := by omega
                  have hqi3 : (q : Int) < (p.follow.length : Int) := by omega
                  have HSA : Hid ((p.rules.take (q + 1)).all (ruleOk p.empty.length) = ruleOk p.empty.length p.rules[q]) := by
                    show _ = _
                    rw [List.take_succ_eq_append_getElem hq1, List.all_append, HA.out]; simp
                  have HSF : Hid ((p.follow.take (q + 1)).all (rises p.cls.length) = rises p.cls.length p.follow[q]) := by
                    show _ = _
                    rw [List.take_succ_eq_append_getElem hq3, List.all_append, HF.out]; simp
                  have HNA : Hid (ruleOk p.empty.length p.rules[q] = false → ¬ ok p = true) := fun e h => by
                    have := List.all_eq_true.1 ((ok_iff p).1 h).2.2.2.2.2.1 p.rules[q] (List.getElem_mem hq1); rw [e] at this; cases this
                  have HNF : Hid (rises p.cls.length p.follow[q] = false → ¬ ok p = true) := fun e h => by
                    have := List.all_eq_true.1 ((ok_iff p).1 h).2.2.2.2.2.2.2 p.follow[q] (List.getElem_mem hq3); rw [e] at this; cases this
                  obtain ⟨a1', k1', hv1, -, hcs1⟩ := H2.out.pn.rules
                  simp only [Value.slice.injEq] at hv1
                  obtain ⟨rfl, -, rfl⟩ := hv1
                  obtain ⟨b1, o1, rfl, hb1, hd1⟩ := hcs1.resolve_left (by intro e; rw [e] at hq1; simp at hq1)
                  obtain ⟨a3', k3', hv3, -, hcs3⟩ := H2.out.pn.follow
                  simp only [Value.slice.injEq] at hv3
                  obtain ⟨rfl, -, rfl⟩ := hv3
                  obtain ⟨b3, o3, rfl, hb3, hd3⟩ := hcs3.resolve_left (by intro e; rw [e] at hq3; simp at hq3)
                  obtain ⟨u, d3, hu⟩ := hd3 q hq3
                  have d1 := hd1 q hq1
                  obtain ⟨z, HZ⟩ : ∃ z, Hid (p.rules[q] = z) := ⟨_, (rfl : p.rules[q] = p.rules[q])⟩
                  rw [HZ.out] at d1 HSA HNA
                  have z1 : ∀ p_1 : Kp (Sb WM), p_1.W.cell? ⟨w.heap.size, 1, none⟩ = _ := fun p_1 => (Below.cell p_1.h (p := ⟨w.heap.size, 1, none⟩) H2.out.lt).trans H2.out.c1
                  have z3 : ∀ p_1 : Kp (Sb WM), p_1.W.cell? ⟨w.heap.size, 3, none⟩ = _ := fun p_1 => (Below.cell p_1.h (p := ⟨w.heap.size, 3, none⟩) H2.out.lt).trans H2.out.c3
                  have z5 : ∀ p_1 : Kp (Sb WM), p_1.W.cell? ⟨w.heap.size, 5, none⟩ = _ := fun p_1 => (Below.cell p_1.h (p := ⟨w.heap.size, 5, none⟩) H2.out.lt).trans H2.out.c5
                  have zd1 : ∀ p_1 : Kp (Sb WM), p_1.W.cell? ⟨b1, o1 + q, none⟩ = some (.int .i64 z) := fun p_1 => (Below.cell p_1.h (p := ⟨b1, o1 + q, none⟩) hb1).trans d1
                  have zd3 : ∀ p_1 : Kp (Sb WM), p_1.W.cell? ⟨b3, o3 + q, none⟩ = some u := fun p_1 => (Below.cell p_1.h (p := ⟨b3, o3 + q, none⟩) hb3).trans d3
                  have hne : Nonempty (Kp (Sb WM)) := ⟨⟨_, Sb.drew WM⟩⟩
                  obtain ⟨r, HR⟩ : ∃ r, Hid (rises p.cls.length p.follow[q] = r) := ⟨_, (rfl : rises p.cls.length p.follow[q] = rises p.cls.length p.follow[q])⟩
                  have HCA : Hid (∀ p_1 : Kp (Sb WM), Calls Try.prog 31 #[u, .int .i64 (p.cls.length : Int)] p_1.W fun e w'' => e = .returned (.bool r) ∧ ∃ q : Kp (Sb WM), w'' = q.W) := fun p_1 => by
                    have := rising_below u p.follow[q] p.cls.length p_1.W (hu.below p_1.h)
                    rw [HR.out] at this
                    exact Kp.calls p_1 Sb.next this
                  clear hd1 hd3 hcs1 hcs3 hu d1 d3
                  by_cases z0 : z < 0
                  · have bz : decide (z < 0) = true := by simp; exact z0
                    go_wp2_with fail
                    refine wp_region_kept mixed (by kernel_rfl) (Sb.drew WM) ?_
                    repeat (go_big_quiet_step (first | (go_at_call 31; with_reducible exact HCA.out _)))
                    refine wpQuiet_nil ?_
                    intro W2 hw2
                    obtain ⟨⟨W2, HS2⟩, rfl⟩ := hw2
                    have HBx : Hid (Below w.heap.size w W2) := H2.out.below.trans (Below.mono HS2 H2.out.below.size)
                    clear HS2 hne z1 z3 z5 zd1 zd3
                    go_wp2_with fail
                    go_ret
                    exact ⟨by rw [chk_bad (HNA.out (by unfold ruleOk; simp; omega))]; rfl, HBx.out⟩
                  · have bz : decide (z < 0) = false := by simp; omega
                    by_cases z9 : (p.empty.length : Int) ≤ z
                    · have bz9 : decide ((p.empty.length : Int) ≤ z) = true := by simp; exact z9
                      go_wp2_with fail
                      refine wp_region_kept mixed (by kernel_rfl) (Sb.drew WM) ?_
                      repeat (go_big_quiet_step (first | (go_at_call 31; with_reducible exact HCA.out _)))
                      refine wpQuiet_nil ?_
                      intro W2 hw2
                      obtain ⟨⟨W2, HS2⟩, rfl⟩ := hw2
                      have HBx : Hid (Below w.heap.size w W2) := H2.out.below.trans (Below.mono HS2 H2.out.below.size)
                      clear HS2 hne z1 z3 z5 zd1 zd3
                      go_wp2_with fail
                      go_ret
                      exact ⟨by rw [chk_bad (HNA.out (by unfold ruleOk; simp; omega))]; rfl, HBx.out⟩
                    · have bz9 : decide ((p.empty.length : Int) ≤ z) = false := by simp; omega
                      go_wp2_with fail
                      refine wp_region_kept mixed (by kernel_rfl) (Sb.drew WM) ?_
                      repeat (go_big_quiet_step (first | (go_at_call 31; with_reducible exact HCA.out _)))
                      refine wpQuiet_nil ?_
                      intro W2 hw2
                      obtain ⟨⟨W2, HS2⟩, rfl⟩ := hw2
                      have HBx : Hid (Below w.heap.size w W2) := H2.out.below.trans (Below.mono HS2 H2.out.below.size)
                      have HSb : Hid (Sb W1 W2) := Sb.next _ _ hbel HS2
                      clear HS2 hne z1 z3 z5 zd1 zd3
                      cases r with
                      | false =>
                        go_wp2_with fail
                        go_ret
                        exact ⟨by rw [chk_bad (HNF.out HR.out)]; rfl, HBx.out⟩
                      | true =>
                        go_wp2_with fail
                        go_roundw
                        case rel => exact ⟨q + 1, by omega, by go_num, by show _ = _; rw [HSA.out]; unfold ruleOk; simp; omega, by show _ = _; rw [HSF.out, HR.out], HSb.out⟩
                        case measure => simp [intOf]; omega
                · have hok : ok p = true := by
                    rw [ok_iff]
                    have h1 := HA.out
                    have h2 := HF.out
                    rw [show p.rules.take q = p.rules from List.take_of_length_le (by rw [E1.out]; omega)] at h1
                    rw [show p.follow.take q = p.follow from List.take_of_length_le (by rw [E2.out]; omega)] at h2
                    exact ⟨E1.out, E2.out, E3.out, e4, e5, h1, HFI.out, h2⟩
                  have HOK : Hid (ok p = true) := hok
                  clear hok
                  by_cases hl : 200 < p.cls.length
                  · have hl1 : (200 : Int) < (p.cls.length : Int) := by omega
                    go_wp2_with fail
                    go_ret
                    exact ⟨by rw [chk_large HOK.out hl]; rfl, H2.out.below⟩
                  · have hl1 : ¬ (200 : Int) < (p.cls.length : Int) := by omega
                    go_wp2_with fail
                    go_ret
                    exact ⟨by rw [chk_fine HOK.out hl]; rfl, H2.out.below⟩
          · have b4' : decide ((p.empty.length : Int) < 1) = false := by simp; omega
            have b5 : decide ((20 : Int) < (p.empty.length : Int)) = true := by simp; omega
            go_wp2_with fail
            go_ret
            exact ⟨by rw [chk_bad (by rw [ok_iff]; rintro ⟨-, -, -, -, h, -⟩; exact e5 h)]; rfl, HB.out⟩
        · have b4 : decide ((p.empty.length : Int) < 1) = true := by simp; omega
          go_wp2_with fail
          go_ret
          exact ⟨by rw [chk_bad (by rw [ok_iff]; rintro ⟨-, -, -, h, -⟩; exact e4 h)]; rfl, HB.out⟩
      · have b3 := ne_true (fun e => e3 (Eq.symm e))
        go_wp2_with fail
        go_ret
        exact ⟨by rw [chk_bad (by rw [ok_iff]; rintro ⟨-, -, h, -⟩; exact e3 h)]; rfl, HB.out⟩
    · have b2 := ne_true (fun e => e2 (Eq.symm e))
      go_wp2_with fail
      go_ret
      exact ⟨by rw [chk_bad (by rw [ok_iff]; rintro ⟨-, h, -⟩; exact e2 h)]; rfl, HB.out⟩
  · have b1 := ne_true (fun e => e1 (Eq.symm e))
    go_wp2_with fail
    go_ret
    exact ⟨by rw [chk_bad (by rw [ok_iff]; rintro ⟨h, -⟩; exact e1 h)]; rfl, HB.out⟩
end Go.Proofs.Ytlmlkpdppkgenaa
