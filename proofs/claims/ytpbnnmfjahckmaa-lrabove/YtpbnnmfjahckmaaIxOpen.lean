/-
  The contract of items.bag's open: all productions of a nonterminal with each Look of a set are put in.
-/
import Derived.Test.YtpbnnmfjahckmaaIxAdd
namespace Go.Proofs.Ytpbnnmfjahckmaa
open Go.RowKit
open Cg

theorem wd_div (x : Wd) (k : Nat) : ((x.toNat : Int) / 2 ^ k) = ((x.toNat / 2 ^ k : Nat) : Int) := by simp
theorem wd_bit (x : Wd) (k : Nat) : x.getLsbD k = decide (x.toNat / 2 ^ k % 2 = 1) := by
  show x.toNat.testBit k = _
  exact Nat.testBit_eq_decide_div_mod_eq
theorem and_wd1 (x : Wd) (k : Nat) : (bits .and .u64 ((x.toNat : Int) / 2 ^ k) 1 == 1) = x.getLsbD k := by
  have h1 := x.isLt
  have h2 : x.toNat / 2 ^ k ≤ x.toNat := Nat.div_le_self _ _
  rw [wd_div]
  have := u64_and_nat (x.toNat / 2 ^ k) 1 (by omega) (by omega)
  rw [show ((1 : Nat) : Int) = 1 from rfl] at this
  rw [this, Nat.and_one_is_mod, wd_bit]
  generalize x.toNat / 2 ^ k = n
  have : n % 2 = 0 ∨ n % 2 = 1 := by omega
  rcases this with h | h <;> rw [h] <;> rfl
/-- Those that were come to. -/
def HdN (T : Nat) (ps : List Pd) (m : Int) (lk : Wd) (n k : Nat) (z : It) : Prop := Hd T ps m lk z ∧ (z.1 < n ∨ (z.1 = n ∧ z.2.2 < k))
theorem hdN_end {T : Nat} {ps : List Pd} {m : Int} {lk : Wd} (z : It) : HdN T ps m lk ps.length 0 z ↔ Hd T ps m lk z := ⟨fun h => h.1, fun h => ⟨h, Or.inl h.1⟩⟩
theorem hdN_skip {T : Nat} {ps : List Pd} {m : Int} {lk : Wd} {n : Nat} (hn : n < ps.length) (hm : ps[n].1 ≠ m) (z : It) : HdN T ps m lk n 0 z ↔ HdN T ps m lk (n + 1) 0 z := by
  constructor
  · rintro ⟨h1, h2⟩; exact ⟨h1, Or.inl (by omega)⟩
  · rintro ⟨h1, h2⟩
    refine ⟨h1, Or.inl ?_⟩
    have h3 : z.1 < n + 1 := by omega
    rcases Nat.lt_or_ge z.1 n with h4 | h4
    · exact h4
    · exfalso
      have e : z.1 = n := by omega
      have h5 := h1.2.1
      rw [e, List.getD_eq_getElem?_getD, List.getElem?_eq_getElem hn] at h5
      exact hm h5
theorem hdN_row {T : Nat} {ps : List Pd} {m : Int} {lk : Wd} {n k : Nat} (hk : T < k) (z : It) : HdN T ps m lk n k z ↔ HdN T ps m lk (n + 1) 0 z := by
  constructor
  · rintro ⟨h1, h2⟩; exact ⟨h1, Or.inl (by omega)⟩
  · rintro ⟨h1, h2⟩
    have := h1.2.2.2.1
    exact ⟨h1, by omega⟩
theorem hdN_no {T : Nat} {ps : List Pd} {m : Int} {lk : Wd} {n k : Nat} (hb : lk.getLsbD k = false) (z : It) : HdN T ps m lk n k z ↔ HdN T ps m lk n (k + 1) z := by
  constructor
  · rintro ⟨h1, h2⟩; exact ⟨h1, by omega⟩
  · rintro ⟨h1, h2⟩
    refine ⟨h1, ?_⟩
    rcases h2 with h2 | ⟨h2, h3⟩
    · exact Or.inl h2
    · refine Or.inr ⟨h2, ?_⟩
      rcases Nat.lt_or_ge z.2.2 k with h4 | h4
      · exact h4
      · have e : z.2.2 = k := by omega
        have := h1.2.2.2.2
        rw [e, hb] at this; cases this
theorem hdN_yes {T : Nat} {ps : List Pd} {m : Int} {lk : Wd} {n k : Nat} (hn : n < ps.length) (hm : ps[n].1 = m) (hk : k ≤ T) (hb : lk.getLsbD k = true) (z : It) : HdN T ps m lk n (k + 1) z ↔ HdN T ps m lk n k z ∨ z = (n, 0, k) := by
  constructor
  · rintro ⟨h1, h2⟩
    by_cases h4 : z.1 = n ∧ z.2.2 = k
    · exact Or.inr (Prod.ext h4.1 (Prod.ext h1.2.2.1 h4.2))
    · exact Or.inl ⟨h1, by omega⟩
  · rintro (⟨h1, h2⟩ | rfl)
    · exact ⟨h1, by omega⟩
    · refine ⟨⟨hn, ?_, rfl, hk, hb⟩, Or.inr ⟨rfl, Nat.lt_succ_self k⟩⟩
      show (ps.getD n (0, [])).1 = m
      rw [List.getD_eq_getElem?_getD, List.getElem?_eq_getElem hn]; exact hm
/-- A bag that grows. -/
structure Og (B g mb : Nat) (v : Value) (b : List It) (P : It → Prop) (w W : World) (v' : Value) (b' : List It) (D' : DataW Unit) : Prop where
  ba : Ba B g mb v' b' b' D' W
  ad : Ad P b b'
  fm : Fm (Xb g mb v) w W
  fo : ∃ ao cp, v' = .slice ao b'.length cp
  ow : ∀ k, v'.ownBlock = some k → v.ownBlock = some k ∨ w.heap.size ≤ k
theorem Og.next {B g mb : Nat} {v : Value} {b : List It} {P : It → Prop} {w W W' : World} {v' : Value} {b' : List It} {D' : DataW Unit} (h : Og B g mb v b P w W v' b' D') (hb : Below W.heap.size W W') : Og B g mb v b P w W' v' b' D' :=
  ⟨h.ba.next hb, h.ad, h.fm.trans (Fm.of hb) (fun _ _ h => h), h.fo, h.ow⟩
theorem Og.from {B g mb : Nat} {v : Value} {b : List It} {P : It → Prop} {w w1 W : World} {v' : Value} {b' : List It} {D' : DataW Unit} (hb : Below w.heap.size w w1) (h : Og B g mb v b P w1 W v' b' D') : Og B g mb v b P w W v' b' D' :=
  ⟨h.ba, h.ad, (Fm.of hb).trans h.fm (fun _ _ h => h), h.fo, fun k hk => (h.ow k hk).imp id (fun h => Nat.le_trans hb.size h)⟩
theorem Og.same {B g mb : Nat} {v : Value} {b : List It} {P Q : It → Prop} {w W : World} {v' : Value} {b' : List It} {D' : DataW Unit} (h : Og B g mb v b P w W v' b' D') (e : ∀ z, P z ↔ Q z) : Og B g mb v b Q w W v' b' D' :=
  ⟨h.ba, h.ad.same e, h.fm, h.fo, h.ow⟩
theorem Og.put {B g mb : Nat} {v : Value} {b : List It} {P Q : It → Prop} {w W W' : World} {v' : Value} {b' : List It} {D' : DataW Unit} (h : Og B g mb v b P w W v' b' D') {x : It} (ha : AddP B g mb v' (addL b' x) W W') (e : ∀ z, Q z ↔ P z ∨ z = x) : ∃ v2 b2 D2, Og B g mb v b Q w W' v2 b2 D2 := by
  obtain ⟨v2, D2, h1, h2, h3, h4⟩ := ha
  refine ⟨v2, addL b' x, D2, h1, h.ad.put x e, h.fm.trans h2 (fun q hq hx => ?_), h3, fun k hk => ?_⟩
  · rcases hx with hx | hx | hx
    · exact Or.inl hx
    · exact Or.inr (Or.inl hx)
    · rcases h.ow q hx with h5 | h5
      · exact Or.inr (Or.inr h5)
      · omega
  · rcases h4 k hk with h5 | h5
    · exact h.ow k h5
    · exact Or.inr (Nat.le_trans h.fm.size h5)
theorem Og.len {B g mb : Nat} {v : Value} {b : List It} {T : Nat} {ps : List Pd} {m : Int} {lk : Wd} {n k : Nat} {nn : Nat} {w W : World} {v' : Value} {b' : List It} {D' : DataW Unit} (h : Og B g mb v b (HdN T ps m lk n k) w W v' b' D') (hk : chk (T : Int) nn ps = 0) (ok : ∀ x ∈ b, OkIt T ps x) : b'.length ≤ 1000000 := by
  have := count_le hk h.ad.nd (fun x hx => by
    rcases h.ad.inn x hx with h1 | h1
    · exact ok x h1
    · exact hd_ok h1.1)
  omega
/-- What open leaves. -/
def OpnP (B g mb : Nat) (v : Value) (b : List It) (P : It → Prop) (w W : World) : Prop := ∃ v' b' D', Og B g mb v b P w W v' b' D'
set_option maxHeartbeats 8000000 in
set_option maxRecDepth 20000 in
theorem open_any (B g mb : Nat) (v : Value) (b : List It) (D : DataW Unit) (T nn : Nat) (pv : Value) (ps : List Pd) (m : Nat) (lk : Wd) (w0 w : World) (hB : w0.heap.size ≤ B) (hbw : Below w0.heap.size w0 w) (hp : Pds w0 pv ps) (hk : chk (T : Int) nn ps = 0) (h : Ba B g mb v b b D w) (hn : b.Nodup) (ok : ∀ x ∈ b, OkIt T ps x) (hv : ∃ ao cp, v = .slice ao b.length cp) :
    Calls Try.prog 93 #[.pointer (some ⟨g, 0, none⟩), .agg #[.int .i64 (T : Int), .int .i64 (nn : Int), pv], .int .i64 (m : Int), .int .u64 (lk.toNat : Int)] w fun e w' => e = .returned (.tuple #[]) ∧ OpnP B g mb v b (Hd T ps (m : Int) lk) w w' := by
  have HT : Hid (T ≤ 30 ∧ ps.length ≤ 40) := by have h1 := okTN_le (chk_zero hk).1; have h2 := (chk_zero hk).2.1; exact ⟨by omega, h2⟩
  have hpw : Pds w pv ps := hp.below hbw
  have HGB := Gb.box hpw (T : Int) (nn : Int)
  obtain ⟨ao, c, rfl, hm, hcs⟩ := hp
  obtain ⟨w1, HW1⟩ : ∃ z, Hid (w.alloc (Obj.cells #[.int .i64 (T : Int), .int .i64 (nn : Int), .slice ao ps.length c] 24) = z) := ⟨_, (rfl : w.alloc (Obj.cells #[.int .i64 (T : Int), .int .i64 (nn : Int), .slice ao ps.length c] 24) = _)⟩
  rw [HW1.out] at HGB
  have HG1 : Hid (Gb w w.heap.size (T : Int) (nn : Int) (.slice ao ps.length c) ps w1) := HGB
  obtain ⟨l1, l2, l3⟩ := h.lt
  have HQ : Hid (w.heap.size < w1.heap.size ∧ w.heap.size ≠ g ∧ w.heap.size ≠ mb ∧ v.ownBlock ≠ some w.heap.size) := ⟨HGB.lt, by omega, by omega, fun e => by have := l3 _ e; omega⟩
  have HOG0 : Hid (∀ P, (∀ z, ¬ P z) → Og B g mb v b P w1 w1 v b D) := fun P hP => ⟨h.next HGB.below, Ad.none hn hP, Fm.refl _ _, hv, fun k hk => Or.inl hk⟩
  have HK : Hid (chk (T : Int) nn ps = 0) := hk
  have HOKB : Hid (∀ x ∈ b, OkIt T ps x) := ok
  have HBW : Hid (w0.heap.size ≤ B ∧ Below w0.heap.size w0 w ∧ B ≤ w.heap.size ∧ w.heap.size ≤ w1.heap.size) := ⟨hB, hbw, h.ge.2.2, HGB.below.size⟩
  have HXB : Hid (∀ k, Xb g mb v k → B ≤ k) := fun k hk => by
    rcases hk with rfl | rfl | hk
    · exact h.ge.1
    · exact h.ge.2.1
    · exact (h.own.lt k hk).1
  clear HGB hpw hbw hB hk h hn ok hv l1 l2 l3
  by_cases hz : lk = 0#64
  · have b0 : ((lk.toNat : Int) == 0) = true := by rw [hz]; rfl
    have HFIN : Hid (OpnP B g mb v b (Hd T ps (m : Int) lk) w w1) := ⟨v, b, D, Og.from HG1.out.below (HOG0.out _ (fun z hz2 => by have := hz2.2.2.2.2; rw [hz] at this; simp at this))⟩
    clear hz hcs
    go_enter Try.func93, Try.ntmps93
    go_upto_region 1 with fail
    rw [HW1.out]
    go_wp2_with fail
    refine bodyPost_ret (v := .tuple #[]) (by simp [results, Try.results93, go_sem]) rfl ⟨rfl, HFIN.out⟩
  · have b0 : ((lk.toNat : Int) == 0) = false := by
      have : lk.toNat ≠ 0 := fun e => hz (BitVec.eq_of_toNat_eq (by simpa using e))
      simp; omega
    have HOG1 : Hid (Og B g mb v b (HdN T ps (m : Int) lk 0 0) w1 w1 v b D) := HOG0.out _ (fun z hz2 => by have := hz2.2; omega)
    clear hz HOG0
    have z2 := HG1.out.c2
    obtain ⟨q, HQQ⟩ : ∃ z, Hid (w.heap.size = z) := ⟨_, (rfl : w.heap.size = _)⟩
    have HWW : Hid (Below w.heap.size w w1) := HG1.out.below
    rw [HQQ.out] at HQ HG1 z2
    go_enter Try.func93, Try.ntmps93
    go_upto_region 1 with fail
    rw [HW1.out, HQQ.out]
    go_wp2_with fail
    clear z2 b0
    go_loopw [16] (fun i wr => ∃ n : Nat, n ≤ ps.length ∧ i = .int .i64 (n : Int) ∧ Hid (OpnP B g mb v b (HdN T ps (m : Int) lk n 0) w1 wr)) (fun i _ => ps.length - (intOf i).toNat)
    case atStart => exact ⟨0, by omega, rfl, v, b, D, HOG1.out⟩
    case round =>
      obtain ⟨n, hn, rfl, HA⟩ := hrel
      clear HOG1
      by_cases hlt : n < ps.length
      · obtain ⟨bp, op, rfl, hbp, hcp⟩ := hcs.resolve_left (by intro e; subst e; simp at hlt)
        obtain ⟨d0, u, d1, hsy⟩ := hcp n hlt
        have HW0 : Hid (Below w0.heap.size w0 wr) := by
          obtain ⟨v2, b2, D2, h2⟩ := HA.out
          exact (HBW.out.2.1.trans (HWW.out.mono HBW.out.2.1.size)).trans (h2.fm.below (B := w0.heap.size) (Nat.le_trans HBW.out.2.1.size HBW.out.2.2.2) (fun k hk => Nat.le_trans HBW.out.1 (HXB.out k hk)))
        replace d0 : wr.cell? ⟨bp, op + n * 2, none⟩ = _ := (HW0.out.cell (p := ⟨bp, op + n * 2, none⟩) hbp).trans d0
        replace d1 : wr.cell? ⟨bp, op + n * 2 + 1, none⟩ = _ := (HW0.out.cell (p := ⟨bp, op + n * 2 + 1, none⟩) hbp).trans d1
        obtain ⟨uo, uc, hu, -⟩ := hsy
        subst hu
        have HNL : Hid (n < ps.length) := hlt
        have HSK : Hid (ps[n].1 ≠ (m : Int) → ∀ z, HdN T ps (m : Int) lk n 0 z ↔ HdN T ps (m : Int) lk (n + 1) 0 z) := fun e => hdN_skip hlt e
        have HYS : Hid (ps[n].1 = (m : Int) → ∀ k, k ≤ T → lk.getLsbD k = true → ∀ z, HdN T ps (m : Int) lk n (k + 1) z ↔ HdN T ps (m : Int) lk n k z ∨ z = (n, 0, k)) := fun e k h1 h2 => hdN_yes hlt e h1 h2
        generalize ps[n].1 = hd at d0 HSK HYS
        generalize ps[n].2.length = ul at d1
        have hk0 : (0 : Int) ≤ (n : Int) := by omega
        have hk1 : (n : Int) < (ps.length : Int) := by omega
        have hbz : Below wr.heap.size wr (wr.alloc (Obj.cells #[.int .i64 hd, .slice uo ul uc] 79)) := below_alloc wr _
        have HA2 : Hid (OpnP B g mb v b (HdN T ps (m : Int) lk n 0) w1 (wr.alloc (Obj.cells #[.int .i64 hd, .slice uo ul uc] 79))) := by
          obtain ⟨v2, b2, D2, h2⟩ := HA.out
          exact ⟨v2, b2, D2, h2.next hbz⟩
        have y0 : (wr.alloc (Obj.cells #[.int .i64 hd, .slice uo ul uc] 79)).cell? ⟨q, 0, none⟩ = some (.int .i64 (T : Int)) := by
          obtain ⟨v2, b2, D2, h2⟩ := HA2.out
          exact (h2.fm.cell (p := ⟨q, 0, none⟩) HQ.out.1 (fun e => by rcases e with e | e | e; exact HQ.out.2.1 e; exact HQ.out.2.2.1 e; exact HQ.out.2.2.2 e)).trans HG1.out.c0
        clear hcs hcp hbz HA HW0
        by_cases hh : hd = (m : Int)
        · subst hh
          have b1 : ((m : Int) != (m : Int)) = false := by simp
          have hT := HT.out.1
          go_wp2_with fail
          generalize (wr.alloc (Obj.cells #[.int .i64 (m : Int), .slice uo ul uc] 79)) = w3 at HA2 y0 ⊢
          clear d0 d1 y0 b1
          go_loopw [28] (fun i wr => ∃ k : Nat, k ≤ T + 1 ∧ i = .int .i64 (k : Int) ∧ Hid (OpnP B g mb v b (HdN T ps (m : Int) lk n k) w1 wr)) (fun i _ => T + 1 - (intOf i).toNat)
          case atStart => exact ⟨0, by omega, rfl, HA2⟩
          case round =>
            obtain ⟨k, hkk, rfl, HA⟩ := hrel
            clear HA2
            by_cases hkl : k ≤ T
            · have e1 : decide ((k : Int) < (T : Int) + 1) = true := by simp; omega
              have h64 : k < 64 := by omega
              obtain ⟨bb, HBB⟩ : ∃ z, Hid (lk.getLsbD k = z) := ⟨_, (rfl : lk.getLsbD k = _)⟩
              have hbit : (bits .and .u64 ((lk.toNat : Int) / 2 ^ k) 1 == 1) = bb := (and_wd1 lk k).trans HBB.out
              cases bb with
              | true =>
                obtain ⟨v2, b2, D2, h2⟩ := HA.out
                have hcall := add_any B g mb v2 b2 D2 (n, 0, k) wr h2.ba (by have := HNL.out; have := HT.out; unfold Sml; exact ⟨by show n ≤ 1000; omega, by show 0 ≤ 1000; omega, by show k ≤ 1000; omega⟩) (h2.len HK.out HOKB.out) h2.fo
                have HOG : Hid (Og B g mb v b (HdN T ps (m : Int) lk n k) w1 wr v2 b2 D2) := h2
                clear HA h2
                go_wp2_with fail
                refine hcall.mono ?_
                rintro _ w4 ⟨rfl, hadd⟩
                have HA4 : Hid (OpnP B g mb v b (HdN T ps (m : Int) lk n (k + 1)) w1 w4) := by
                  exact HOG.out.put hadd (HYS.out (by first | exact trivial | rfl) k hkl HBB.out)
                clear hcall hadd HOG
                go_wp2_with fail
                go_roundw
                case rel => exact ⟨k + 1, by omega, by go_num, HA4⟩
                case measure => simp [intOf]; omega
              | false =>
                have HA4 : Hid (OpnP B g mb v b (HdN T ps (m : Int) lk n (k + 1)) w1 wr) := by
                  obtain ⟨v2, b2, D2, h2⟩ := HA.out
                  exact ⟨v2, b2, D2, h2.same (hdN_no HBB.out)⟩
                clear HA
                go_wp2_with fail
                go_roundw
                case rel => exact ⟨k + 1, by omega, by go_num, HA4⟩
                case measure => simp [intOf]; omega
            · have e1 : decide ((k : Int) < (T : Int) + 1) = false := by simp; omega
              have HA4 : Hid (OpnP B g mb v b (HdN T ps (m : Int) lk (n + 1) 0) w1 wr) := by
                obtain ⟨v2, b2, D2, h2⟩ := HA.out
                exact ⟨v2, b2, D2, h2.same (hdN_row (by omega))⟩
              clear HA
              go_wp2_with fail
              go_roundw
              case rel => exact ⟨n + 1, by have := HNL.out; omega, by go_num, HA4⟩
              case measure => have := HNL.out; simp [intOf]; omega
        · have b1 : (hd != (m : Int)) = true := by simp [hh]
          have HA4 : Hid (OpnP B g mb v b (HdN T ps (m : Int) lk (n + 1) 0) w1 (wr.alloc (Obj.cells #[.int .i64 hd, .slice uo ul uc] 79))) := by
            obtain ⟨v2, b2, D2, h2⟩ := HA2.out
            exact ⟨v2, b2, D2, h2.same (HSK.out hh)⟩
          clear HA2 hh
          go_wp2_with fail
          go_roundw
          case rel => exact ⟨n + 1, by omega, by go_num, HA4⟩
          case measure => simp [intOf]; omega
      · have HFIN : Hid (OpnP B g mb v b (Hd T ps (m : Int) lk) w wr) := by
          obtain ⟨v2, b2, D2, h2⟩ := HA.out
          obtain rfl : n = ps.length := by omega
          exact ⟨v2, b2, D2, Og.from HWW.out (h2.same hdN_end)⟩
        clear hcs HA
        go_wp2_with fail
        refine bodyPost_end (v := .tuple #[]) (by simp [results, Try.results93, go_sem]) rfl ⟨rfl, HFIN.out⟩
end Go.Proofs.Ytpbnnmfjahckmaa
