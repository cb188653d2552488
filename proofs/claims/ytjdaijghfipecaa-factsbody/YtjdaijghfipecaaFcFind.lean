/-
  The contracts of slices.IndexFunc and slices.ContainsFunc at symbols, and of the closures of FactsSays and FactsBody; a slice of symbols that is handed in; sets without one another.
-/
import Derived.Test.YtjdaijghfipecaaFcBrack
namespace Go.Proofs.Ytjdaijghfipecaa
open Go.ChangeShapes Go.WideShapes Go.ChangeAt Go.RowKit
open Cg

variable {H : Type} {enc : TypeId × Value → H}
theorem open_symsv {W : World} {r : Reach} {b0 : Nat} {v : Value} {d : DataW H} {p : List MemPlace} (hv : Value.okWide Try.prog W r b0 25 v) (h : DataW.Trod enc Try.prog W 0 (fun _ => true) true 25 v d p) : ∃ l, Syms W v l := by
  obtain ⟨fuel, hf⟩ := h
  have hc : v.cells = #[v] := by
    obtain ⟨a, n, c, rfl⟩ := okWide_slice Try.underlying25 hv
    rfl
  rw [hc] at hf
  obtain ⟨v', l, e, hs⟩ := open_syms hf
  simp at e
  subst e
  exact ⟨l, hs⟩
theorem not_le {a b : Wd} (h : le a b) : bits .andNot .u64 (a.toNat : Int) (b.toNat : Int) = 0 := by
  rw [u64_andNot_nat _ _ a.isLt b.isLt]
  have e : (18446744073709551615 - b.toNat) = (~~~b).toNat := by rw [BitVec.toNat_not]
  rw [e, ← BitVec.toNat_and]
  have z : a &&& ~~~b = 0#64 := by
    apply BitVec.eq_of_getLsbD_eq
    intro i hi
    rw [BitVec.getLsbD_and, BitVec.getLsbD_not, BitVec.getLsbD_zero]
    cases ha : a.getLsbD i with
    | false => rfl
    | true => rw [le_bits.1 h i ha]; simp
  rw [z]; rfl
theorem bg_more (E : Nat → Bool) (F : Nat → Wd) (a b : Wd) : ∀ l, le (bg E F l (a ||| b)) (bg E F l a ||| b)
  | [] => le_refl _
  | s :: l => by
    unfold bg
    split
    · exact le_orl _ _
    · split
      · refine or_le (le_trans (le_orl _ _) (le_orl _ _)) (le_trans (bg_more E F a b l) (or_le (le_trans (le_orr _ _) (le_orl _ _)) (le_orr _ _)))
      · exact le_orl _ _
set_option maxHeartbeats 3200000 in
set_option maxRecDepth 20000 in
theorem indexF_any (N : Nat) (cp : Value) (he : Enters Try.prog N) (pr : Sy → Bool) (v : Value) (l : List Sy) (w : World) (h : Syms w v l) (hp : ∀ (W : World) (i : Nat) (hi : i < l.length), Below w.heap.size w W → Calls Try.prog N #[.agg #[.int .i64 l[i].1, .int .i64 l[i].2], cp] W fun e w' => e = .returned (.bool (pr l[i])) ∧ Below W.heap.size W w') :
    Calls Try.prog 30 #[v, .func (.func N) #[] #[cp]] w fun e w' => ∃ k : Int, e = .returned (.int .i64 k) ∧ decide (0 ≤ k) = l.any pr ∧ Below w.heap.size w w' := by
  have HP : Hid (∀ (W : World) (i : Nat) (hi : i < l.length), Below w.heap.size w W → Calls Try.prog N #[.agg #[.int .i64 l[i].1, .int .i64 l[i].2], cp] W fun e w' => e = .returned (.bool (pr l[i])) ∧ Below W.heap.size W w') := hp
  clear hp
  obtain ⟨ao, cap, rfl, hm, hcs⟩ := h
  go_enter Try.func30, Try.ntmps30
  go_wp2_with fail
  go_loopw [8] (fun i wr => ∃ q : Nat, q ≤ l.length ∧ i = .int .i64 (q : Int) ∧ Hid ((l.take q).any pr = false) ∧ Below w.heap.size w wr) (fun i _ => l.length - (intOf i).toNat)
  case atStart => exact ⟨0, by omega, rfl, rfl, Below.refl _ _⟩
  case round =>
    obtain ⟨q, hq, rfl, HA, hbel⟩ := hrel
    by_cases hlt : q < l.length
    · obtain ⟨b, o, rfl, hb, hc⟩ := hcs.resolve_left (by intro e; subst e; simp at hlt)
      have c0 := (hbel.cell (p := ⟨b, o + q * 2, none⟩) hb).trans (hc q hlt).1
      have c1 := (hbel.cell (p := ⟨b, o + q * 2 + 1, none⟩) hb).trans (hc q hlt).2
      have hcall := HP.out wr q hlt hbel
      have HT : Hid (pr l[q] = true → l.any pr = true) := fun e => List.any_eq_true.2 ⟨l[q], List.getElem_mem hlt, e⟩
      have HN : Hid (pr l[q] = false → (l.take (q + 1)).any pr = false) := fun e => by rw [List.take_succ_eq_append_getElem hlt, List.any_append, HA.out]; simp [e]
      generalize pr l[q] = rr at hcall HT HN
      generalize l[q].1 = s0 at c0 hcall
      generalize l[q].2 = s1 at c1 hcall
      have hk1 : (q : Int) < (l.length : Int) := by omega
      have HB0 : Hid (Below w.heap.size w wr) := hbel
      clear hcs hc hbel HP
      go_wp2_with fail
      rw [he, Oper.upon_enter]
      refine hcall.mono ?_
      rintro _ w1 ⟨rfl, hb1⟩
      have HB1 : Hid (Below w.heap.size w w1) := HB0.out.trans (hb1.mono HB0.out.size)
      clear hb1 hcall c0 c1
      cases rr with
      | true =>
        go_wp2_with fail
        go_ret
        exact ⟨(q : Int), by simp, by rw [HT.out (by trivial)]; simp, HB1.out⟩
      | false =>
        go_wp2_with fail
        go_roundw
        case rel => exact ⟨q + 1, by omega, by go_num, HN.out (by trivial), HB1.out⟩
        case measure => simp [intOf]; omega
    · have HB0 : Hid (Below w.heap.size w wr) := hbel
      have HE : Hid (l.any pr = false) := by show _ = _; rw [← HA.out, List.take_of_length_le (by omega)]
      clear hbel
      go_wp2_with fail
      go_ret
      exact ⟨-1, by simp, by rw [HE.out]; rfl, HB0.out⟩
set_option maxHeartbeats 3200000 in
set_option maxRecDepth 20000 in
theorem containsF_any (N : Nat) (cp : Value) (he : Enters Try.prog N) (pr : Sy → Bool) (v : Value) (l : List Sy) (w : World) (h : Syms w v l) (hp : ∀ (W : World) (i : Nat) (hi : i < l.length), Below w.heap.size w W → Calls Try.prog N #[.agg #[.int .i64 l[i].1, .int .i64 l[i].2], cp] W fun e w' => e = .returned (.bool (pr l[i])) ∧ Below W.heap.size W w') :
    Calls Try.prog 10 #[v, .func (.func N) #[] #[cp]] w fun e w' => e = .returned (.bool (l.any pr)) ∧ Below w.heap.size w w' := by
  have hc := indexF_any N cp he pr v l w h hp
  obtain ⟨ao, cap, rfl, hm, hcs⟩ := h
  clear hp hcs
  go_enter Try.func10, Try.ntmps10
  go_wp2_with fail
  refine hc.mono ?_
  rintro _ w1 ⟨k, rfl, hk, hb1⟩
  have HB : Hid (Below w.heap.size w w1) := hb1
  have HK : Hid (decide (0 ≤ k) = l.any pr) := hk
  clear hc hb1 hk
  go_wp2_with fail
  go_ret
  exact ⟨by rw [← HK.out]; simp, HB.out⟩
set_option maxHeartbeats 3200000 in
set_option maxRecDepth 20000 in
theorem clos17_any (t : Int) (n bm cf : Nat) (M : Nat → Bool) (a0 a1 a2 a3 : Value) (s0 s1 : Int) (ok : (s0 = 1 ∧ 0 ≤ s1 ∧ s1 < t) ∨ (s0 = 2 ∧ 0 ≤ s1 ∧ s1 < (n : Int))) (W : World) (hr : Rb W bm n M) (hf : W.rowIs cf 32 5 (fv a0 a1 a2 a3 (.slice (some ⟨bm, 0, none⟩) n n))) :
    Calls Try.prog 17 #[.agg #[.int .i64 s0, .int .i64 s1], .pointer (some ⟨cf, 0, none⟩)] W fun e w' => e = .returned (.bool (!mks M true (s0, s1))) ∧ Below W.heap.size W w' := by
  have HBA : Hid (Below W.heap.size W (W.alloc (Obj.cells #[.int .i64 s0, .int .i64 s1] 41))) := below_alloc _ _
  have y4 : (W.alloc (Obj.cells #[.int .i64 s0, .int .i64 s1] 41)).cell? ⟨cf, 4, none⟩ = some (.slice (some ⟨bm, 0, none⟩) n n) := (hf.alloc _).cell (i := 4) (by omega)
  rcases ok with ⟨rfl, h1, h2⟩ | ⟨rfl, h1, h2⟩
  · obtain ⟨r, HR⟩ : ∃ r, Hid ((!mks M true (1, s1)) = r) := ⟨_, (rfl : (!mks M true (1, s1)) = (!mks M true (1, s1)))⟩
    obtain rfl : r = false := by rw [← HR.out]; rfl
    rw [HR.out]
    clear HR
    go_enter Try.func17, Try.ntmps17
    go_wp2_with fail
    go_ret
    exact ⟨by simp, HBA.out⟩
  · obtain ⟨m, rfl⟩ : ∃ m : Nat, s1 = (m : Int) := ⟨s1.toNat, by omega⟩
    have hm : m < n := by omega
    have y5 := (hr.next HBA.out).cell hm
    obtain ⟨r, HR⟩ : ∃ r, Hid ((!mks M true (2, (m : Int))) = r) := ⟨_, (rfl : (!mks M true (2, (m : Int))) = (!mks M true (2, (m : Int))))⟩
    have HRM : Hid (r = !M m) := by show _ = _; rw [← HR.out]; unfold mks; simp
    rw [HR.out]
    generalize M m = im at y5 HRM
    obtain rfl := HRM.out
    clear HR HRM hr hf
    cases im with
    | true =>
      go_enter Try.func17, Try.ntmps17
      go_wp2_with fail
      go_ret
      exact ⟨by simp, HBA.out⟩
    | false =>
      go_enter Try.func17, Try.ntmps17
      go_wp2_with fail
      go_ret
      exact ⟨by simp, HBA.out⟩
set_option maxHeartbeats 3200000 in
set_option maxRecDepth 20000 in
theorem clos11_any (t n : Int) (ao : Option Addr) (np c g : Nat) (s0 s1 : Int) (W : World) (h0 : W.cell? ⟨g, 0, none⟩ = some (.int .i64 t)) (h1 : W.cell? ⟨g, 1, none⟩ = some (.int .i64 n)) (h2 : W.cell? ⟨g, 2, none⟩ = some (.slice ao np c)) (hg : g < W.heap.size) :
    Calls Try.prog 11 #[.agg #[.int .i64 s0, .int .i64 s1], .pointer (some ⟨g, 0, none⟩)] W fun e w' => e = .returned (.bool (!okSy t n (s0, s1))) ∧ Below W.heap.size W w' := by
  have hba := below_alloc W (Obj.cells #[.int .i64 s0, .int .i64 s1] 41)
  have k0 := (hba.cell (p := ⟨g, 0, none⟩) hg).trans h0
  have k1 := (hba.cell (p := ⟨g, 1, none⟩) hg).trans h1
  have k2 := (hba.cell (p := ⟨g, 2, none⟩) hg).trans h2
  have HBA : Hid (Below W.heap.size W (W.alloc (Obj.cells #[.int .i64 s0, .int .i64 s1] 41))) := hba
  have hc := rightSym_any t n ao np c s0 s1 (W.alloc (Obj.cells #[.int .i64 s0, .int .i64 s1] 41))
  generalize okSy t n (s0, s1) = r at hc ⊢
  clear hba h0 h1 h2
  go_enter Try.func11, Try.ntmps11
  go_wp2_with fail
  refine hc.mono ?_
  rintro _ w1 ⟨rfl, hb1⟩
  have HB1 : Hid (Below W.heap.size W w1) := HBA.out.trans (hb1.mono HBA.out.size)
  clear hb1 hc k0 k1 k2
  go_wp2_with fail
  go_ret
  exact ⟨by simp, HB1.out⟩
end Go.Proofs.Ytjdaijghfipecaa
