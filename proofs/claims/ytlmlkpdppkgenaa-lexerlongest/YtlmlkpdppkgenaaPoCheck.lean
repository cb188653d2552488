/-
  The contracts of places.Check, places.checkBoth and places.Run.
-/
import Derived.Test.YtlmlkpdppkgenaaPoRun
namespace Go.Proofs.Ytlmlkpdppkgenaa
open Go.RowKit
open Cls Po

theorem ne_true {a b : Nat} (h : ¬ a = b) : ((a : Int) != (b : Int)) = true := by simp; omega
theorem ne_false {a b : Nat} (h : a = b) : ((a : Int) != (b : Int)) = false := by subst h; simp

set_option maxHeartbeats 4000000 in
set_option maxRecDepth 20000 in
theorem Check_any (v0 v1 v2 v3 v4 v5 : Value) (p : P) (w : World) (hp : Pn w v0 v1 v2 v3 v4 v5 p) :
    Calls Try.prog 24 #[.agg #[v0, v1, v2, v3, v4, v5]] w fun e w' => e = .returned (.int .i64 (chk p)) ∧ Below w.heap.size w w' := by
  have H0 : Hid (Px w w.heap.size v0 v1 v2 v3 v4 v5 p (w.alloc (Obj.cells #[v0, v1, v2, v3, v4, v5] 27))) := Px.box hp
  obtain ⟨a0, k0, rfl, hm0, -⟩ := hp.cls
  obtain ⟨a1, k1, rfl, hm1, -⟩ := hp.rules
  obtain ⟨a2, k2, rfl, hm2, -⟩ := hp.first
  obtain ⟨a3, k3, rfl, hm3, -⟩ := hp.follow
  obtain ⟨a4, k4, rfl, hm4, -⟩ := hp.last
  obtain ⟨a5, k5, rfl, hm5, -⟩ := hp.empty
  clear hp
  have HB : Hid (Below w.heap.size w (w.alloc (Obj.cells #[.slice a0 p.cls.length k0, .slice a1 p.rules.length k1, .slice a2 p.first.length k2, .slice a3 p.follow.length k3, .slice a4 p.last.length k4, .slice a5 p.empty.length k5] 27))) := H0.out.below
  go_enter Try.func24, Try.ntmps24
  by_cases e1 : p.rules.length = p.cls.length
  · have E1 : Hid (p.rules.length = p.cls.length) := e1
    have b1 := ne_false e1
    clear e1
    by_cases e2 : p.follow.length = p.cls.length
    · have E2 : Hid (p.follow.length = p.cls.length) := e2
      have b2 := ne_false e2
      clear e2
      by_cases e3 : p.last.length = p.cls.length
      · have E3 : Hid (p.last.length = p.cls.length) := e3
        have b3 := ne_false e3
        clear e3
        by_cases e4 : 0 < p.empty.length
        · have b4 : ((p.empty.length : Int) == 0) = false := by simp; intro e; rw [e] at e4; simp at e4
          by_cases e5 : p.empty.length ≤ 20
          · have b5 : ¬ (20 : Int) < (p.empty.length : Int) := by omega
            go_wp2_with (go_quiet (fail))
            have H1 : Hid (Px w w.heap.size _ _ _ _ _ _ p ((w.alloc (Obj.cells #[.slice a0 p.cls.length k0, .slice a1 p.rules.length k1, .slice a2 p.first.length k2, .slice a3 p.follow.length k3, .slice a4 p.last.length k4, .slice a5 p.empty.length k5] 27)).drewN nq)) := H0.out.next _ _ ⟨rfl, rfl, rfl, Nat.le_refl _, fun _ _ => rfl⟩
            generalize (w.alloc (Obj.cells #[.slice a0 p.cls.length k0, .slice a1 p.rules.length k1, .slice a2 p.first.length k2, .slice a3 p.follow.length k3, .slice a4 p.last.length k4, .slice a5 p.empty.length k5] 27)).drewN nq = W1 at H1 ⊢
            clear H0 HB b1 b2 b3 b4 b5
            have y1 := H1.out.c1
            have y2 := H1.out.c2
            have y3 := H1.out.c3
            refine (areRules_any _ p.rules p.empty.length W1 H1.out.pn.rules).mono ?_
            rintro _ W2 ⟨rfl, rfl⟩
            cases hr : p.rules.all (ruleOk p.empty.length) with
            | false =>
              go_wp2_with fail
              go_ret
              exact ⟨by rw [chk_bad (by rw [ok_iff]; rintro ⟨-, -, -, -, -, h, -⟩; rw [hr] at h; cases h)]; rfl, H1.out.below⟩
            | true =>
              go_wp2_with fail
              refine (arePlaces_any _ p.first p.cls.length _ H1.out.pn.first).mono ?_
              rintro _ W2 ⟨rfl, rfl⟩
              cases hf : rises p.cls.length p.first with
              | false =>
                go_wp2_with fail
                go_ret
                exact ⟨by rw [chk_bad (by rw [ok_iff]; rintro ⟨-, -, -, -, -, -, h, -⟩; rw [hf] at h; cases h)]; rfl, H1.out.below⟩
              | true =>
                have HRF : Hid (p.rules.all (ruleOk p.empty.length) = true ∧ rises p.cls.length p.first = true) := ⟨hr, hf⟩
                clear hr hf
                obtain ⟨a3', k3', hv3, -, hcs⟩ := H1.out.pn.follow
                simp only [Value.slice.injEq] at hv3
                obtain ⟨rfl, -, rfl⟩ := hv3
                go_wp2_with fail
                go_loopw [56] (fun i wr => ∃ q : Nat, q ≤ p.follow.length ∧ i = .int .i64 (q : Int) ∧ Hid ((p.follow.take q).all (rises p.cls.length) = true) ∧ wr = W2) (fun i _ => p.follow.length - (intOf i).toNat)
                case atStart => exact ⟨0, by omega, rfl, rfl, rfl⟩
                case round =>
                  obtain ⟨q, hq, rfl, HA, rfl⟩ := hrel
                  by_cases hlt : q < p.follow.length
                  · obtain ⟨b, o, rfl, hb, hc⟩ := hcs.resolve_left (by intro e; rw [e] at hlt; simp at hlt)
                    obtain ⟨u, c0, hu⟩ := hc q hlt
                    have HU : Hid (Ints wr u p.follow[q]) := hu
                    obtain ⟨au, ku, rfl, -, -⟩ := hu
                    have hk1 : (q : Int) < (p.follow.length : Int) := by omega
                    have HS : Hid ((p.follow.take (q + 1)).all (rises p.cls.length) = rises p.cls.length p.follow[q]) := by
                      show _ = _
                      rw [List.take_succ_eq_append_getElem hlt, List.all_append, HA.out]; simp
                    have HF : Hid (rises p.cls.length p.follow[q] = false → p.follow.all (rises p.cls.length) = false) := fun e => by
                      rw [List.all_eq_false]; exact ⟨p.follow[q], List.getElem_mem hlt, by rw [e]; simp⟩
                    clear hcs hc
                    go_wp2_with fail
                    refine (arePlaces_any _ p.follow[q] p.cls.length _ HU.out).mono ?_
                    rintro _ W3 ⟨rfl, rfl⟩
                    cases hx : rises p.cls.length p.follow[q] with
                    | false =>
                      go_wp2_with fail
                      go_ret
                      exact ⟨by rw [chk_bad (by rw [ok_iff]; rintro ⟨-, -, -, -, -, -, -, h⟩; rw [HF.out hx] at h; cases h)]; rfl, H1.out.below⟩
                    | true =>
                      go_wp2_with fail
                      go_roundw
                      case rel => exact ⟨q + 1, by omega, by go_num, by show _ = _; rw [HS.out, hx], by trivial⟩
                      case measure => simp [intOf]; omega
                  · have hok : ok p = true := by
                      rw [ok_iff]
                      have := HA.out
                      rw [List.take_of_length_le (by omega)] at this
                      exact ⟨E1.out, E2.out, E3.out, e4, e5, HRF.out.1, HRF.out.2, this⟩
                    have HOK : Hid (ok p = true) := hok
                    clear hok
                    by_cases hl : 200 < p.cls.length
                    · have hl1 : (200 : Int) < (p.cls.length : Int) := by omega
                      go_wp2_with fail
                      go_ret
                      exact ⟨by rw [chk_large HOK.out hl]; rfl, H1.out.below⟩
                    · have hl1 : ¬ (200 : Int) < (p.cls.length : Int) := by omega
                      go_wp2_with fail
                      go_ret
                      exact ⟨by rw [chk_fine HOK.out hl]; rfl, H1.out.below⟩
          · have b5 : (20 : Int) < (p.empty.length : Int) := by omega
            go_wp2_with (go_quiet (fail))
            go_ret
            exact ⟨by rw [chk_bad (by rw [ok_iff]; rintro ⟨-, -, -, -, h, -⟩; exact e5 h)]; rfl, below_drewN HB.out nq⟩
        · have b4 : ((p.empty.length : Int) == 0) = true := by simp; exact List.length_eq_zero_iff.1 (by omega)
          go_wp2_with (go_quiet (fail))
          go_ret
          exact ⟨by rw [chk_bad (by rw [ok_iff]; rintro ⟨-, -, -, h, -⟩; exact e4 h)]; rfl, below_drewN HB.out nq⟩
      · have b3 := ne_true e3
        go_wp2_with (go_quiet (fail))
        go_ret
        exact ⟨by rw [chk_bad (by rw [ok_iff]; rintro ⟨-, -, h, -⟩; exact e3 h)]; rfl, below_drewN HB.out nq⟩
    · have b2 := ne_true e2
      go_wp2_with (go_quiet (fail))
      go_ret
      exact ⟨by rw [chk_bad (by rw [ok_iff]; rintro ⟨-, h, -⟩; exact e2 h)]; rfl, below_drewN HB.out nq⟩
  · have b1 := ne_true e1
    go_wp2_with (go_quiet (fail))
    go_ret
    exact ⟨by rw [chk_bad (by rw [ok_iff]; rintro ⟨h, -⟩; exact e1 h)]; rfl, below_drewN HB.out nq⟩
end Go.Proofs.Ytlmlkpdppkgenaa
