/-
  The contracts of pushref.Where and of the closures that pushlaw.ClassSays hands to it: the class of the bytes for which the closure holds, for every closure that tells of each byte and leaves what lay below the heap's end as it was.
-/
import Derived.Test.YtgoejdakmbpcmaaEqs
import Derived.Shelf.Abstract
namespace Go.Proofs.Ytgoejdakmbpcmaa
open Go.RowKit
open Cls

theorem cell_block {W : World} {b : Nat} {d : Cl} (h : W.heap[b]? = some (.cells #[.int .u64 (d.1.toNat : Int), .int .u64 (d.2.1.toNat : Int), .int .u64 (d.2.2.1.toNat : Int), .int .u64 (d.2.2.2.toNat : Int)] 24)) (i : Nat) (hi : i < 4) : W.cell? ⟨b, i, none⟩ = some (.int .u64 ((wd d i).toNat : Int)) := by
  have : i = 0 ∨ i = 1 ∨ i = 2 ∨ i = 3 := by omega
  rcases this with rfl | rfl | rfl | rfl <;> simp [World.cell?, h, wd]
theorem free_block {W : World} {b : Nat} {d : Cl} (h : W.heap[b]? = some (.cells #[.int .u64 (d.1.toNat : Int), .int .u64 (d.2.1.toNat : Int), .int .u64 (d.2.2.1.toNat : Int), .int .u64 (d.2.2.2.toNat : Int)] 24)) (i : Nat) : W.frozen? ⟨b, i, none⟩ = false := by simp [World.frozen?, h]
theorem upd_block {W : World} {b : Nat} {d : Cl} (h : W.heap[b]? = some (.cells #[.int .u64 (d.1.toNat : Int), .int .u64 (d.2.1.toNat : Int), .int .u64 (d.2.2.1.toNat : Int), .int .u64 (d.2.2.2.toNat : Int)] 24)) (i : Nat) (hi : i < 4) (v : Wd) : (W.setCell ⟨b, i, none⟩ (.int .u64 (v.toNat : Int))).heap[b]? = some (.cells #[.int .u64 ((upd d i v).1.toNat : Int), .int .u64 ((upd d i v).2.1.toNat : Int), .int .u64 ((upd d i v).2.2.1.toNat : Int), .int .u64 ((upd d i v).2.2.2.toNat : Int)] 24) := by
  have : i = 0 ∨ i = 1 ∨ i = 2 ∨ i = 3 := by omega
  rcases this with rfl | rfl | rfl | rfl <;> simp [World.setCell, Array.getElem?_modify, h, upd]
theorem one_shl (k : Nat) : IntKind.u64.wrap ((2 : Int) ^ (k % 64)) = ((BitVec.ofNat 64 (2 ^ (k % 64))).toNat : Int) := by
  have hw : ∀ n : Int, IntKind.u64.wrap n = n % 18446744073709551616 := fun n => by simp [IntKind.wrap, IntKind.bits, IntKind.signed]
  rw [hw, BitVec.toNat_ofNat]
  simp
theorem or_shl (c : Cl) (k : Nat) : bits .or .u64 ((wd c (k / 64)).toNat : Int) (IntKind.u64.wrap ((2 : Int) ^ (k % 64))) = ((wd c (k / 64) ||| BitVec.ofNat 64 (2 ^ (k % 64))).toNat : Int) := by
  rw [one_shl, or64]

set_option maxHeartbeats 2000000 in
set_option maxRecDepth 20000 in
theorem where_any (g : Nat) (lb : Array Value) (p : Nat → Bool) (w : World) (eg : ∀ args w, (callFunc g args).run Try.prog w = .ok (.enter g args) w)
    (hp : ∀ (W : World) (x : Nat), x < 256 → Below w.heap.size w W → Calls Try.prog g (#[.int .i64 (x : Int)] ++ lb) W fun e w' => e = .returned (.bool (p x)) ∧ Below W.heap.size W w') :
    Calls Try.prog 11 #[.func (.func g) #[] lb] w fun e w' => e = .returned (.agg #[.int .u64 ((wher p).1.toNat : Int), .int .u64 ((wher p).2.1.toNat : Int), .int .u64 ((wher p).2.2.1.toNat : Int), .int .u64 ((wher p).2.2.2.toNat : Int)]) ∧ Below w.heap.size w w' := by
  have HP : Hid (∀ (W : World) (x : Nat), x < 256 → Below w.heap.size w W → Calls Try.prog g (#[.int .i64 (x : Int)] ++ lb) W fun e w' => e = .returned (.bool (p x)) ∧ Below W.heap.size W w') := hp
  clear hp
  go_enter Try.func11, Try.ntmps11
  go_wp2_with fail
  go_loopw [4] (fun i wr => ∃ k : Nat, k ≤ 256 ∧ i = .int .i64 (k : Int) ∧ Hid (wr.heap[w.heap.size + 1]? = some (.cells #[.int .u64 ((whereTo p k).1.toNat : Int), .int .u64 ((whereTo p k).2.1.toNat : Int), .int .u64 ((whereTo p k).2.2.1.toNat : Int), .int .u64 ((whereTo p k).2.2.2.toNat : Int)] 24) ∧ (wr.heap[w.heap.size]? = some (.cells #[.int .u64 (empty.1.toNat : Int), .int .u64 (empty.2.1.toNat : Int), .int .u64 (empty.2.2.1.toNat : Int), .int .u64 (empty.2.2.2.toNat : Int)] 24)) ∧ Below w.heap.size w wr ∧ w.heap.size + 2 ≤ wr.heap.size)) (fun i _ => 256 - (intOf i).toNat)
  case atStart =>
    refine ⟨0, by omega, rfl, ⟨?_, ?_, ((Below.refl _ w).alloc (Nat.le_refl _) _).alloc (by simp) _, by simp⟩⟩
    · have := block_new (w.alloc (.cells #[.int .u64 (empty.1.toNat : Int), .int .u64 (empty.2.1.toNat : Int), .int .u64 (empty.2.2.1.toNat : Int), .int .u64 (empty.2.2.2.toNat : Int)] 24)) (.cells #[.int .u64 (empty.1.toNat : Int), .int .u64 (empty.2.1.toNat : Int), .int .u64 (empty.2.2.1.toNat : Int), .int .u64 (empty.2.2.2.toNat : Int)] 24)
      have e : (w.alloc (.cells #[.int .u64 (empty.1.toNat : Int), .int .u64 (empty.2.1.toNat : Int), .int .u64 (empty.2.2.1.toNat : Int), .int .u64 (empty.2.2.2.toNat : Int)] 24)).heap.size = w.heap.size + 1 := by simp
      rw [e] at this; exact this
    · rw [Below.heap_alloc _ _ _ (by simp)]; exact block_new w (.cells #[.int .u64 (empty.1.toNat : Int), .int .u64 (empty.2.1.toNat : Int), .int .u64 (empty.2.2.1.toNat : Int), .int .u64 (empty.2.2.2.toNat : Int)] 24)
  case round =>
    obtain ⟨k, hk, rfl, HW⟩ := hrel
    obtain ⟨h1, h2, h3, h4⟩ := HW.out
    by_cases hlt : k < 256
    · have hcall := HP.out wr k hlt h3
      cases hpk : p k with
      | true =>
        rw [hpk] at hcall
        have HE : Hid (whereTo p (k + 1) = upd (whereTo p k) (k / 64) (wd (whereTo p k) (k / 64) ||| BitVec.ofNat 64 (2 ^ (k % 64)))) := by show (if p k then setb (whereTo p k) k else whereTo p k) = _; rw [if_pos hpk]; rfl
        clear h1 h2 h3
        go_wp2_with (go_at_fn g; refine hcall.mono ?_; rintro e W1 ⟨rfl, hb⟩)
        have hs := hb.size
        have b1 : W1.heap[w.heap.size + 1]? = some (.cells #[.int .u64 ((whereTo p k).1.toNat : Int), .int .u64 ((whereTo p k).2.1.toNat : Int), .int .u64 ((whereTo p k).2.2.1.toNat : Int), .int .u64 ((whereTo p k).2.2.2.toNat : Int)] 24) := (hb.block _ (by omega)).trans HW.out.1
        have b2 : W1.heap[w.heap.size]? = some (.cells #[.int .u64 (empty.1.toNat : Int), .int .u64 (empty.2.1.toNat : Int), .int .u64 (empty.2.2.1.toNat : Int), .int .u64 (empty.2.2.2.toNat : Int)] 24) := (hb.block _ (by omega)).trans HW.out.2.1
        have HB : Hid (W1.heap[w.heap.size + 1]? = some (.cells #[.int .u64 ((whereTo p k).1.toNat : Int), .int .u64 ((whereTo p k).2.1.toNat : Int), .int .u64 ((whereTo p k).2.2.1.toNat : Int), .int .u64 ((whereTo p k).2.2.2.toNat : Int)] 24) ∧ W1.heap[w.heap.size]? = some (.cells #[.int .u64 (empty.1.toNat : Int), .int .u64 (empty.2.1.toNat : Int), .int .u64 (empty.2.2.1.toNat : Int), .int .u64 (empty.2.2.2.toNat : Int)] 24) ∧ Below w.heap.size w W1) := ⟨b1, b2, HW.out.2.2.1.trans (hb.mono (by omega))⟩
        have hcell := cell_block b1 (k / 64) (by omega)
        have hfree := free_block b1 (k / 64)
        have hk4 : k / 64 < 4 := by omega
        have hk6 : k % 64 < 64 := by omega
        clear b1 b2 hb hcall
        generalize hgw : wd (whereTo p k) (k / 64) = gw at hcell
        have HG : Hid (wd (whereTo p k) (k / 64) = gw) := hgw
        clear hgw
        go_region
        go_wp2_with fail
        have ho : bits .or .u64 (gw.toNat : Int) (IntKind.u64.wrap ((2 : Int) ^ (k % 64))) = ((gw ||| BitVec.ofNat 64 (2 ^ (k % 64))).toNat : Int) := by rw [one_shl, or64]
        rw [ho]
        go_roundw
        case rel =>
          refine ⟨k + 1, by omega, by go_num, ⟨?_, ?_, (HB.out.2.2.setCell (Nat.le_succ _) _).drew, ?_⟩⟩
          · rw [HE.out, HG.out]
            exact upd_block HB.out.1 (k / 64) hk4 _
          · exact (Below.heap_setCell _ _ _ _ (by simp)).trans HB.out.2.1
          · show _ ≤ (W1.setCell _ _).heap.size
            simp [World.setCell]; omega
        case measure => simp [intOf]; omega
      | false =>
        rw [hpk] at hcall
        have HE : Hid (whereTo p (k + 1) = whereTo p k) := by show (if p k then setb (whereTo p k) k else whereTo p k) = _; rw [if_neg (by simp [hpk])]
        clear h1 h2 h3
        go_wp2_with (go_at_fn g; refine hcall.mono ?_; rintro e W1 ⟨rfl, hb⟩)
        have hs := hb.size
        go_roundw
        case rel => exact ⟨k + 1, by omega, by go_num, ⟨by rw [HE.out]; exact (hb.block _ (by omega)).trans HW.out.1, (hb.block _ (by omega)).trans HW.out.2.1, HW.out.2.2.1.trans (hb.mono (by omega)), by omega⟩⟩
        case measure => simp [intOf]; omega
    · have e : k = 256 := by omega
      subst e
      obtain ⟨⟨z0, z1, z2, z3⟩, y0, y1, y2, y3⟩ := block4 h2
      obtain ⟨⟨x0, x1, x2, x3⟩, _⟩ := block4 h1
      clear h1 h2
      go_wp2_with fail
      refine bodyPost_ret (v := .agg #[.int .u64 ((whereTo p 256).1.toNat : Int), .int .u64 ((whereTo p 256).2.1.toNat : Int), .int .u64 ((whereTo p 256).2.2.1.toNat : Int), .int .u64 ((whereTo p 256).2.2.2.toNat : Int)]) (by simp [results, Try.results11, go_sem, z0, z1, z2, z3]) rfl ⟨rfl, ?_⟩
      exact (((h3.setCell (Nat.le_refl _) _).setCell (Nat.le_refl _) _).setCell (Nat.le_refl _) _).setCell (Nat.le_refl _) _

/-! ### The closures of ClassSays -/
theorem clos12 (x : Nat) (lo hi : Int) (a b : Nat) (W : World) (h0 : W.cell? ⟨a, 0, none⟩ = some (.int .i64 lo)) (h1 : W.cell? ⟨b, 0, none⟩ = some (.int .i64 hi)) :
    Calls Try.prog 12 (#[.int .i64 (x : Int)] ++ #[.pointer (some ⟨a, 0, none⟩), .pointer (some ⟨b, 0, none⟩)]) W fun e w' => e = .returned (.bool (decide (lo ≤ (x : Int)) && decide ((x : Int) ≤ hi))) ∧ Below W.heap.size W w' := by
  show Calls Try.prog 12 #[.int .i64 (x : Int), .pointer (some ⟨a, 0, none⟩), .pointer (some ⟨b, 0, none⟩)] W _
  by_cases hl : lo ≤ (x : Int)
  · go_enter Try.func12, Try.ntmps12
    go_wp2
    go_ret
    exact ⟨by simp [hl], Below.refl _ W⟩
  · have hl' : decide (lo ≤ (x : Int)) = false := by simp; omega
    go_enter Try.func12, Try.ntmps12
    go_wp2
    go_ret
    exact ⟨by simp, Below.refl _ W⟩

set_option maxHeartbeats 1000000 in
theorem clos15 (x : Nat) (hx : x < 256) (c d : Cl) (a b : Nat) (W : World) (h0 : Bx W a c) (h1 : Bx W b d) :
    Calls Try.prog 15 (#[.int .i64 (x : Int)] ++ #[.pointer (some ⟨a, 0, none⟩), .pointer (some ⟨b, 0, none⟩)]) W fun e w' => e = .returned (.bool (mem c x || mem d x)) ∧ Below W.heap.size W w' := by
  show Calls Try.prog 15 #[.int .i64 (x : Int), .pointer (some ⟨a, 0, none⟩), .pointer (some ⟨b, 0, none⟩)] W _
  have h0' := h0
  have h1' : Hid (Bx W b d) := h1
  obtain ⟨c0, c1, c2, c3⟩ := h0'
  clear h0 h1
  cases hc : mem c x with
  | true =>
    go_enter Try.func15, Try.ntmps15
    go_wp2_with (go_at_call 9; refine (rhas_any c _ x rfl hx _).mono ?_; rw [hc]; rintro e W1 ⟨rfl, hl⟩)
    go_ret
    exact ⟨rfl, hl.below⟩
  | false =>
    go_enter Try.func15, Try.ntmps15
    go_wp2_with fail
    refine (rhas_any c _ x rfl hx _).mono ?_
    rw [hc]
    rintro e W1 ⟨rfl, hl⟩
    have hb := hl.below
    obtain ⟨d0, d1, d2, d3⟩ := h1'.out.next hb
    go_wp2_with (go_at_call 9; refine (rhas_any d _ x rfl hx _).mono ?_; rintro e W2 ⟨rfl, hl2⟩)
    go_ret
    exact ⟨rfl, hb.trans (hl2.below.mono hb.size)⟩

set_option maxHeartbeats 1000000 in
theorem clos17 (x : Nat) (hx : x < 256) (c d : Cl) (a b : Nat) (W : World) (h0 : Bx W a c) (h1 : Bx W b d) :
    Calls Try.prog 17 (#[.int .i64 (x : Int)] ++ #[.pointer (some ⟨a, 0, none⟩), .pointer (some ⟨b, 0, none⟩)]) W fun e w' => e = .returned (.bool (mem c x && mem d x)) ∧ Below W.heap.size W w' := by
  show Calls Try.prog 17 #[.int .i64 (x : Int), .pointer (some ⟨a, 0, none⟩), .pointer (some ⟨b, 0, none⟩)] W _
  have h0' := h0
  have h1' : Hid (Bx W b d) := h1
  obtain ⟨c0, c1, c2, c3⟩ := h0'
  clear h0 h1
  cases hc : mem c x with
  | false =>
    go_enter Try.func17, Try.ntmps17
    go_wp2_with (go_at_call 9; refine (rhas_any c _ x rfl hx _).mono ?_; rw [hc]; rintro e W1 ⟨rfl, hl⟩)
    go_ret
    exact ⟨rfl, hl.below⟩
  | true =>
    go_enter Try.func17, Try.ntmps17
    go_wp2_with fail
    refine (rhas_any c _ x rfl hx _).mono ?_
    rw [hc]
    rintro e W1 ⟨rfl, hl⟩
    have hb := hl.below
    obtain ⟨d0, d1, d2, d3⟩ := h1'.out.next hb
    go_wp2_with (go_at_call 9; refine (rhas_any d _ x rfl hx _).mono ?_; rintro e W2 ⟨rfl, hl2⟩)
    go_ret
    exact ⟨rfl, hb.trans (hl2.below.mono hb.size)⟩

theorem clos19 (x : Nat) (hx : x < 256) (c : Cl) (a : Nat) (W : World) (h0 : Bx W a c) :
    Calls Try.prog 19 (#[.int .i64 (x : Int)] ++ #[.pointer (some ⟨a, 0, none⟩)]) W fun e w' => e = .returned (.bool (!mem c x)) ∧ Below W.heap.size W w' := by
  show Calls Try.prog 19 #[.int .i64 (x : Int), .pointer (some ⟨a, 0, none⟩)] W _
  obtain ⟨c0, c1, c2, c3⟩ := h0
  go_enter Try.func19, Try.ntmps19
  go_wp2_with (go_at_call 9; refine (rhas_any c _ x rfl hx _).mono ?_; rintro e W1 ⟨rfl, hl⟩)
  go_ret
  exact ⟨rfl, hl.below⟩
end Go.Proofs.Ytgoejdakmbpcmaa
