/-
  The contracts of pushref.Longest and lexer.longest: both find the longest token at a place.
-/
import Derived.Test.YtcdnbkfjiigdmaaLxLow
namespace Go.Proofs.Ytcdnbkfjiigdmaa
open Go.RowKit
open Dfa

theorem tagOf_ge {T : Nat → Int} {m : Nat} (h : upOk m T 19 = true) {q : Int} (hq : q < (m : Int)) : -1 ≤ tagOf T q ∧ tagOf T q ≤ 19 := by
  unfold tagOf
  split
  · omega
  · exact up_at h q.toNat (by omega)

set_option maxHeartbeats 1600000 in
set_option maxRecDepth 20000 in
theorem refLong_any (rv tv : Value) (n : Nat) (R : Nat → Nat → Int) (T : Nat → Int) (s : ByteArray) (w : World) (hr : Rw w rv n R) (ht : Ts w tv n T) (h0 : 0 < n) (hok : rowsOk n R = true) (hs : s.size ≤ 2000) :
    Calls Try.prog 19 #[.agg #[rv, tv], .string s] w fun e w' => e = .returned (.tuple #[.int .i64 (lng R T s.data.toList).1, .int .i64 ((lng R T s.data.toList).2 : Int)]) ∧ Below w.heap.size w w' := by
  have HT : Hid (Ts w tv n T) := ht
  obtain ⟨ao, cap, rfl, hn, hwf, hcs⟩ := hr
  have HW : Hid (∀ i j, -32768 ≤ R i j ∧ R i j ≤ 32767) := hwf
  have HO : Hid (rowsOk n R = true) := hok
  obtain ⟨b, o, rfl, hb, hc⟩ := hcs.resolve_left (by omega)
  have HC : Hid (∀ i, i < n → ∀ j, j < 256 → w.cell? ⟨b, o + i * 256 + j, none⟩ = some (.int .i16 (R i j))) := hc
  obtain ⟨aa, mm, cc, rfl⟩ : ∃ a m c, tv = .slice a m c := by obtain ⟨a, c, h, -⟩ := ht; exact ⟨_, _, _, h⟩
  have hG := Goes.start R T s.data.toList
  obtain ⟨ans, HA⟩ : ∃ a, Hid (lng R T s.data.toList = a) := ⟨_, (rfl : lng R T s.data.toList = lng R T s.data.toList)⟩
  rw [HA.out] at hG ⊢
  clear hwf hok hcs hc ht
  go_enter Try.func19, Try.ntmps19
  go_wp2_with fail
  go_loopw [4, 5, 6, 7] (fun rr zz qq i wr => ∃ (k z : Nat) (q r : Int), k ≤ s.size ∧ z ≤ k ∧ i = .int .i64 (k : Int) ∧ rr = .int .i64 r ∧ zz = .int .i64 (z : Int) ∧ qq = .int .i64 q ∧ At n q ∧ Goes R T s.data.toList k q r z ans ∧ wr.cell? ⟨w.heap.size, 0, none⟩ = some (.slice (some ⟨b, o, none⟩) n cap) ∧ wr.cell? ⟨w.heap.size, 1, none⟩ = some (.slice aa mm cc) ∧ w.heap.size < wr.heap.size ∧ Below w.heap.size w wr) (fun _ _ _ i _ => s.size - (intOf i).toNat)
  case atStart => exact ⟨0, 0, 0, 0, by omega, by omega, rfl, rfl, rfl, rfl, ⟨by omega, by omega⟩, hG, by simp, by simp, by simp, (Below.refl _ _).alloc (Nat.le_refl _) _⟩
  case round =>
    obtain ⟨k, z, q, r, hk, hz, rfl, rfl, rfl, rfl, ⟨hq1, hq2⟩, hgo, hc0, hc1, hws, hbel⟩ := hrel
    have HG : Hid (Goes R T s.data.toList k q r z ans) := hgo
    have hsb := hbel.size
    clear hgo hG
    by_cases hlt : k < s.size
    · have hk1 : (k : Int) < (s.size : Int) := by omega
      by_cases hq : q < 0
      · have HE : Hid (ans = (r, z)) := HG.out.over (Or.inr hq)
        go_wp2_with fail
        go_ret2
        exact ⟨by rw [HE.out]; rfl, hbel⟩
      · obtain ⟨p, rfl⟩ : ∃ p : Nat, q = (p : Int) := ⟨q.toNat, by omega⟩
        have hp : p < n := by omega
        have hp1 : (p : Int) < (n : Int) := by omega
        have hp0 : (0 : Int) ≤ (p : Int) := by omega
        have hbr := byte_run s k hlt
        obtain ⟨x, HX⟩ : ∃ x, Hid (s[k] = x) := ⟨_, (rfl : s[k] = s[k])⟩
        rw [HX.out] at hbr
        have hx : x.toNat < 256 := x.toNat_lt
        have hx1 : (x.toNat : Int) < 256 := by omega
        have c0 : wr.cell? ⟨b, o + p * 256 + x.toNat, none⟩ = some (.int .i16 (R p x.toNat)) := (hbel.cell (p := ⟨b, o + p * 256 + x.toNat, none⟩) hb).trans (HC.out p hp x.toNat hx)
        have hzz := HW.out p x.toNat
        have hat : At n (R p x.toNat) := by
          have h1 := all_at (all_at HO.out p hp) x.toNat hx
          simp only [numOk, Bool.and_eq_true, decide_eq_true_eq] at h1
          exact h1
        have HN : Hid (tagOf T (R p x.toNat) < 0 → Goes R T s.data.toList (k + 1) (R p x.toNat) r z ans) := fun h => HG.out.none (by rw [drop_cons s k hlt, HX.out]) h
        have HM : Hid (¬ tagOf T (R p x.toNat) < 0 → Goes R T s.data.toList (k + 1) (R p x.toNat) (tagOf T (R p x.toNat)) (k + 1) ans) := fun h => HG.out.some (by rw [drop_cons s k hlt, HX.out]) h
        obtain ⟨y, HY⟩ : ∃ y, Hid (R p x.toNat = y) := ⟨_, (rfl : R p x.toNat = R p x.toNat)⟩
        rw [HY.out] at c0 hzz hat HN HM
        have HAT : Hid (At n y) := hat
        have hwr := wrap_small hzz
        clear hzz hat
        go_wp2_with (go_quiet (fail))
        have hbel1 := below_drewN hbel nq
        have d0 : (wr.drewN nq).cell? ⟨w.heap.size, 0, none⟩ = _ := hc0
        have d1 : (wr.drewN nq).cell? ⟨w.heap.size, 1, none⟩ = _ := hc1
        have dws : w.heap.size < (wr.drewN nq).heap.size := hws
        generalize wr.drewN nq = w1 at hbel1 d0 d1 dws ⊢
        clear hbel hc0 hc1 hws c0 hwr
        refine (tagOf_any _ _ n T y w1 (HT.out.below hbel1 (Nat.le_refl _)) HAT.out.2).mono ?_
        rintro _ w2 ⟨rfl, hb2⟩
        have e0 : w2.cell? ⟨w.heap.size, 0, none⟩ = _ := (hb2.cell (p := ⟨w.heap.size, 0, none⟩) dws).trans d0
        have e1 : w2.cell? ⟨w.heap.size, 1, none⟩ = _ := (hb2.cell (p := ⟨w.heap.size, 1, none⟩) dws).trans d1
        have ews : w.heap.size < w2.heap.size := Nat.lt_of_lt_of_le dws hb2.size
        have hbel2 : Below w.heap.size w w2 := hbel1.trans (hb2.mono (by omega))
        clear hb2 hbel1 d0 d1 dws
        obtain ⟨t, HTT⟩ : ∃ t, Hid (tagOf T y = t) := ⟨_, (rfl : tagOf T y = tagOf T y)⟩
        rw [HTT.out] at HN HM ⊢
        by_cases ht : t < 0
        · go_wp2_with fail
          go_roundw
          case rel => exact ⟨k + 1, z, y, r, by omega, by omega, by go_num, rfl, rfl, rfl, HAT.out, HN.out ht, e0, e1, ews, hbel2⟩
          case measure => simp [intOf]; omega
        · go_wp2_with fail
          refine (tagOf_any _ _ n T y w2 (HT.out.below hbel2 (Nat.le_refl _)) HAT.out.2).mono ?_
          rintro _ w3 ⟨rfl, hb3⟩
          have g0 : w3.cell? ⟨w.heap.size, 0, none⟩ = _ := (hb3.cell (p := ⟨w.heap.size, 0, none⟩) ews).trans e0
          have g1 : w3.cell? ⟨w.heap.size, 1, none⟩ = _ := (hb3.cell (p := ⟨w.heap.size, 1, none⟩) ews).trans e1
          have gws : w.heap.size < w3.heap.size := Nat.lt_of_lt_of_le ews hb3.size
          have hbel3 : Below w.heap.size w w3 := hbel2.trans (hb3.mono (by omega))
          clear hb3 hbel2 e0 e1 ews
          rw [HTT.out]
          go_wp2_with fail
          go_roundw
          case rel => exact ⟨k + 1, k + 1, y, t, by omega, by omega, by go_num, rfl, by go_num, rfl, HAT.out, HM.out ht, g0, g1, gws, hbel3⟩
          case measure => simp [intOf]; omega
    · have HE : Hid (ans = (r, z)) := HG.out.over (Or.inl (drop_all s k (by omega)))
      have hk1 : ¬ (k : Int) < (s.size : Int) := by omega
      go_wp2_with fail
      go_ret2
      exact ⟨by rw [HE.out]; rfl, hbel⟩

end Go.Proofs.Ytcdnbkfjiigdmaa
