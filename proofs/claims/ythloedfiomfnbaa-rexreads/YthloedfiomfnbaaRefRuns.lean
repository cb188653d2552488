/-
  The contracts of the document's own answer pushref.runs and pushref.Where.
-/
import Derived.Test.YthloedfiomfnbaaRefChar
import Derived.Test.YthloedfiomfnbaaEqs
import Derived.Shelf.Abstract
namespace Go.Proofs.Ythloedfiomfnbaa
open Go.RowKit
open Cls Txt

theorem str_eq {x y : ByteArray} (h : x.data.toList = y.data.toList) : Value.string x = .string y := by
  obtain ⟨a⟩ := x
  obtain ⟨b⟩ := y
  have : a = b := Array.toList_inj.1 h
  rw [this]
theorem cell_block {W : World} {b : Nat} {d : Cl} (h : W.heap[b]? = some (.cells #[.int .u64 (d.1.toNat : Int), .int .u64 (d.2.1.toNat : Int), .int .u64 (d.2.2.1.toNat : Int), .int .u64 (d.2.2.2.toNat : Int)] 24)) (i : Nat) (hi : i < 4) : W.cell? ⟨b, i, none⟩ = some (.int .u64 ((wd d i).toNat : Int)) := by
  have : i = 0 ∨ i = 1 ∨ i = 2 ∨ i = 3 := by omega
  rcases this with rfl | rfl | rfl | rfl <;> simp [World.cell?, h, wd]
theorem free_block {W : World} {b : Nat} {d : Cl} (h : W.heap[b]? = some (.cells #[.int .u64 (d.1.toNat : Int), .int .u64 (d.2.1.toNat : Int), .int .u64 (d.2.2.1.toNat : Int), .int .u64 (d.2.2.2.toNat : Int)] 24)) (i : Nat) : W.frozen? ⟨b, i, none⟩ = false := by simp [World.frozen?, h]
theorem upd_block {W : World} {b : Nat} {d : Cl} (h : W.heap[b]? = some (.cells #[.int .u64 (d.1.toNat : Int), .int .u64 (d.2.1.toNat : Int), .int .u64 (d.2.2.1.toNat : Int), .int .u64 (d.2.2.2.toNat : Int)] 24)) (i : Nat) (hi : i < 4) (v : Wd) : (W.setCell ⟨b, i, none⟩ (.int .u64 (v.toNat : Int))).heap[b]? = some (.cells #[.int .u64 ((upd d i v).1.toNat : Int), .int .u64 ((upd d i v).2.1.toNat : Int), .int .u64 ((upd d i v).2.2.1.toNat : Int), .int .u64 ((upd d i v).2.2.2.toNat : Int)] 24) := by
  have : i = 0 ∨ i = 1 ∨ i = 2 ∨ i = 3 := by omega
  rcases this with rfl | rfl | rfl | rfl <;> simp [World.setCell, Array.getElem?_modify, h, upd]
theorem one_shl (k : Nat) : IntKind.u64.wrap ((2 : Int) ^ (k % 64)) = ((BitVec.ofNat 64 (2 ^ (k % 64))).toNat : Int) := by
  have hw : ∀ n : Int, IntKind.u64.wrap n = n % 18446744073709551616 := fun n => by simp [IntKind.wrap, IntKind.bits, IntKind.signed]
  rw [hw, BitVec.toNat_ofNat]
  simp
theorem or_shl (c : Cl) (k : Nat) : bits .or .u64 ((wd c (k / 64)).toNat : Int) (IntKind.u64.wrap ((2 : Int) ^ (k % 64))) = ((wd c (k / 64) ||| BitVec.ofNat 64 (2 ^ (k % 64))).toNat : Int) := by
  rw [one_shl, or64]
set_option maxHeartbeats 2000000 in
set_option maxRecDepth 20000 in
theorem where_any (g : Nat) (lb : Array Value) (p : Nat → Bool) (w : World) (eg : ∀ args w, (callFunc g args).run Try.prog w = .ok (.enter g args) w)
    (hp : ∀ (W : World) (x : Nat), x < 256 → Below w.heap.size w W → Calls Try.prog g (#[.int .i64 (x : Int)] ++ lb) W fun e w' => e = .returned (.bool (p x)) ∧ Below W.heap.size W w') :
    Calls Try.prog 22 #[.func (.func g) #[] lb] w fun e w' => e = .returned (.agg #[.int .u64 ((wher p).1.toNat : Int), .int .u64 ((wher p).2.1.toNat : Int), .int .u64 ((wher p).2.2.1.toNat : Int), .int .u64 ((wher p).2.2.2.toNat : Int)]) ∧ Below w.heap.size w w' := by
  have HP : Hid (∀ (W : World) (x : Nat), x < 256 → Below w.heap.size w W → Calls Try.prog g (#[.int .i64 (x : Int)] ++ lb) W fun e w' => e = .returned (.bool (p x)) ∧ Below W.heap.size W w') := hp
  clear hp
  go_enter Try.func22, Try.ntmps22
  go_wp2_with fail
  go_loopw [4] (fun i wr => ∃ k : Nat, k ≤ 256 ∧ i = .int .i64 (k : Int) ∧ Hid (wr.heap[w.heap.size + 1]? = some (.cells #[.int .u64 ((whereTo p k).1.toNat : Int), .int .u64 ((whereTo p k).2.1.toNat : Int), .int .u64 ((whereTo p k).2.2.1.toNat : Int), .int .u64 ((whereTo p k).2.2.2.toNat : Int)] 24) ∧ (wr.heap[w.heap.size]? = some (.cells #[.int .u64 (empty.1.toNat : Int), .int .u64 (empty.2.1.toNat : Int), .int .u64 (empty.2.2.1.toNat : Int), .int .u64 (empty.2.2.2.toNat : Int)] 24)) ∧ Below w.heap.size w wr ∧ w.heap.size + 2 ≤ wr.heap.size)) (fun i _ => 256 - (intOf i).toNat)
  case atStart =>
    refine ⟨0, by omega, rfl, ⟨?_, ?_, ((Below.refl _ w).alloc (Nat.le_refl _) _).alloc (by simp) _, by simp⟩⟩
    · have := block_new (w.alloc (.cells #[.int .u64 (empty.1.toNat : Int), .int .u64 (empty.2.1.toNat : Int), .int .u64 (empty.2.2.1.toNat : Int), .int .u64 (empty.2.2.2.toNat : Int)] 24)) (.cells #[.int .u64 (empty.1.toNat : Int), .int .u64 (empty.2.1.toNat : Int), .int .u64 (empty.2.2.1.toNat : Int), .int .u64 (empty.2.2.2.toNat : Int)] 24)
      have e : (w.alloc (.cells #[.int .u64 (empty.1.toNat : Int), .int .u64 (empty.2.1.toNat : Int), .int .u64 (empty.2.2.1.toNat : Int), .int .u64 (empty.2.2.2.toNat : Int)] 24)).heap.size = w.heap.size + 1 := by simp
      rw [e] at this; exact this
    · rw [Below.heap_alloc _ _ _ (by simp)]; exact block_new w (.cells #[.int .u64 (empty.1.toNat : Int), .int .u64 (empty.2.1.toNat : Int), .int .u64 (empty.2.2.1.toNat : Int), .int .u64 (empty.2.2.2.toNat : Int)] 24)
  case round =>
    obtain ⟨k, hk, rfl, HW⟩ := hrel
    obtain ⟨h1, h2, h3, h4⟩ := HW.out
    by_cases hlt : k < 256
    · have hcall := HP.out wr k hlt h3
      cases hpk : p k with
      | true =>
        rw [hpk] at hcall
        have HE : Hid (whereTo p (k + 1) = upd (whereTo p k) (k / 64) (wd (whereTo p k) (k / 64) ||| BitVec.ofNat 64 (2 ^ (k % 64)))) := by show (if p k then setb (whereTo p k) k else whereTo p k) = _; rw [if_pos hpk]; rfl
        clear h1 h2 h3
        go_wp2_with (go_at_fn g; refine hcall.mono ?_; rintro e W1 ⟨rfl, hb⟩)
        have hs := hb.size
        have b1 : W1.heap[w.heap.size + 1]? = some (.cells #[.int .u64 ((whereTo p k).1.toNat : Int), .int .u64 ((whereTo p k).2.1.toNat : Int), .int .u64 ((whereTo p k).2.2.1.toNat : Int), .int .u64 ((whereTo p k).2.2.2.toNat : Int)] 24) := (hb.block _ (by omega)).trans HW.out.1
        have b2 : W1.heap[w.heap.size]? = some (.cells #[.int .u64 (empty.1.toNat : Int), .int .u64 (empty.2.1.toNat : Int), .int .u64 (empty.2.2.1.toNat : Int), .int .u64 (empty.2.2.2.toNat : Int)] 24) := (hb.block _ (by omega)).trans HW.out.2.1
        have HB : Hid (W1.heap[w.heap.size + 1]? = some (.cells #[.int .u64 ((whereTo p k).1.toNat : Int), .int .u64 ((whereTo p k).2.1.toNat : Int), .int .u64 ((whereTo p k).2.2.1.toNat : Int), .int .u64 ((whereTo p k).2.2.2.toNat : Int)] 24) ∧ W1.heap[w.heap.size]? = some (.cells #[.int .u64 (empty.1.toNat : Int), .int .u64 (empty.2.1.toNat : Int), .int .u64 (empty.2.2.1.toNat : Int), .int .u64 (empty.2.2.2.toNat : Int)] 24) ∧ Below w.heap.size w W1) := ⟨b1, b2, HW.out.2.2.1.trans (hb.mono (by omega))⟩
        have hcell := cell_block b1 (k / 64) (by omega)
        have hfree := free_block b1 (k / 64)
        have hk4 : k / 64 < 4 := by omega
        have hk6 : k % 64 < 64 := by omega
        clear b1 b2 hb hcall
        generalize hgw : wd (whereTo p k) (k / 64) = gw at hcell
        have HG : Hid (wd (whereTo p k) (k / 64) = gw) := hgw
        clear hgw
        go_region
        go_wp2_with fail
        have ho : bits .or .u64 (gw.toNat : Int) (IntKind.u64.wrap ((2 : Int) ^ (k % 64))) = ((gw ||| BitVec.ofNat 64 (2 ^ (k % 64))).toNat : Int) := by rw [one_shl, or64]
        rw [ho]
        go_roundw
        case rel =>
          refine ⟨k + 1, by omega, by go_num, ⟨?_, ?_, (HB.out.2.2.setCell (Nat.le_succ _) _).drew, ?_⟩⟩
          · rw [HE.out, HG.out]
            exact upd_block HB.out.1 (k / 64) hk4 _
          · exact (Below.heap_setCell _ _ _ _ (by simp)).trans HB.out.2.1
          · show _ ≤ (W1.setCell _ _).heap.size
            simp [World.setCell]; omega
        case measure => simp [intOf]; omega
      | false =>
        rw [hpk] at hcall
        have HE : Hid (whereTo p (k + 1) = whereTo p k) := by show (if p k then setb (whereTo p k) k else whereTo p k) = _; rw [if_neg (by simp [hpk])]
        clear h1 h2 h3
        go_wp2_with (go_at_fn g; refine hcall.mono ?_; rintro e W1 ⟨rfl, hb⟩)
        have hs := hb.size
        go_roundw
        case rel => exact ⟨k + 1, by omega, by go_num, ⟨by rw [HE.out]; exact (hb.block _ (by omega)).trans HW.out.1, (hb.block _ (by omega)).trans HW.out.2.1, HW.out.2.2.1.trans (hb.mono (by omega)), by omega⟩⟩
        case measure => simp [intOf]; omega
    · have e : k = 256 := by omega
      subst e
      obtain ⟨⟨z0, z1, z2, z3⟩, y0, y1, y2, y3⟩ := block4 h2
      obtain ⟨⟨x0, x1, x2, x3⟩, _⟩ := block4 h1
      clear h1 h2
      go_wp2_with fail
      refine bodyPost_ret (v := .agg #[.int .u64 ((whereTo p 256).1.toNat : Int), .int .u64 ((whereTo p 256).2.1.toNat : Int), .int .u64 ((whereTo p 256).2.2.1.toNat : Int), .int .u64 ((whereTo p 256).2.2.2.toNat : Int)]) (by simp [results, Try.results22, go_sem, z0, z1, z2, z3]) rfl ⟨rfl, ?_⟩
      exact (((h3.setCell (Nat.le_refl _) _).setCell (Nat.le_refl _) _).setCell (Nat.le_refl _) _).setCell (Nat.le_refl _) _

set_option maxHeartbeats 2000000 in
set_option maxRecDepth 20000 in
theorem runs_any (c : Cl) (w : World) :
    Calls Try.prog 20 #[.agg #[.int .u64 (c.1.toNat : Int), .int .u64 (c.2.1.toNat : Int), .int .u64 (c.2.2.1.toNat : Int), .int .u64 (c.2.2.2.toNat : Int)]] w fun e w' => e = .returned (.string (S (runsT (mem c)))) ∧ Below w.heap.size w w' := by
  have HRH : Hid (∀ (z : Int) (b : Nat), z = (b : Int) → b < 256 → ∀ W, Calls Try.prog 21 #[.agg #[.int .u64 (c.1.toNat : Int), .int .u64 (c.2.1.toNat : Int), .int .u64 (c.2.2.1.toNat : Int), .int .u64 (c.2.2.2.toNat : Int)], .int .i64 z] W fun e w' => e = .returned (.bool (mem c b)) ∧ Below W.heap.size W w') := fun z b hz hb W => (rhas_any c z b hz hb W).mono fun _ _ ⟨h1, h2⟩ => ⟨h1, h2.below⟩
  go_enter Try.func20, Try.ntmps20
  go_wp2_with fail
  go_loopw [4, 3] (fun i v wr => ∃ (k : Nat) (L : List UInt8), k ≤ 256 ∧ i = .int .i64 (k : Int) ∧ v = .string (S L) ∧ Hid (runsTo (mem c) k = L) ∧ L.length ≤ 9 * k ∧ Hid (Below (w.heap.size + 1) (w.alloc (.cells #[.int .u64 (c.1.toNat : Int), .int .u64 (c.2.1.toNat : Int), .int .u64 (c.2.2.1.toNat : Int), .int .u64 (c.2.2.2.toNat : Int)] 24)) wr)) (fun i _ _ => 256 - (intOf i).toNat)
  case atStart => exact ⟨0, [], by omega, rfl, rfl, rfl, by simp, Below.refl _ _⟩
  case round =>
    obtain ⟨k, L, hk, rfl, rfl, HL, hlen, HB⟩ := hrel
    have hsl : (S L).size ≤ 2304 := by rw [S_size]; omega
    obtain ⟨q0, q1, q2, q3⟩ := cells_below HB.out (Nat.lt_succ_self _)
    by_cases hlt : k < 256
    · have HST : Hid (runsTo (mem c) (k + 1) = L ++ (if startB (mem c) k = true then runText k (lastOf (mem c) k) else [])) := by
        show _ = _
        rw [← HL.out]; rfl
      have hh := HRH.out (k : Int) k rfl hlt wr
      obtain ⟨mk, HMK⟩ : ∃ m, Hid (mem c k = m) := ⟨_, (rfl : mem c k = mem c k)⟩
      rw [HMK.out] at hh
      cases mk with
      | false =>
        have HS : Hid (runsTo (mem c) (k + 1) = L) := by show _ = _; rw [HST.out, if_neg (by unfold startB; rw [HMK.out]; simp)]; simp
        go_wp2_with fail
        refine hh.mono ?_
        rintro _ w1 ⟨rfl, hb1⟩
        have HB1 : Hid (Below (w.heap.size + 1) (w.alloc (.cells #[.int .u64 (c.1.toNat : Int), .int .u64 (c.2.1.toNat : Int), .int .u64 (c.2.2.1.toNat : Int), .int .u64 (c.2.2.2.toNat : Int)] 24)) w1) := HB.out.trans (hb1.mono (by have := HB.out.size; simp at this; omega))
        clear hb1 hh q0 q1 q2 q3
        go_wp2_with fail
        go_roundw
        case rel => exact ⟨k + 1, L, by omega, by go_num, rfl, HS, by omega, HB1⟩
        case measure => simp [intOf]; omega
      | true =>
        by_cases hprev : 0 < k ∧ mem c (k - 1) = true
        · have HS : Hid (runsTo (mem c) (k + 1) = L) := by
            show _ = _
            rw [HST.out, if_neg (by unfold startB; rw [HMK.out, hprev.2, decide_eq_true hprev.1]; simp)]; simp
          have hkp : decide ((0 : Int) < (k : Int)) = true := by simp; omega
          have hk0 : 0 < k := hprev.1
          have hh2 := fun W => HRH.out ((k : Int) - 1) (k - 1) (by omega) (by omega) W
          rw [hprev.2] at hh2
          have hw1 : wrap64 ((k : Int) - 1) = (k : Int) - 1 := wrap64_id _ (by omega) (by omega)
          clear hprev
          go_wp2_with fail
          refine hh.mono ?_
          rintro _ w1 ⟨rfl, hb1⟩
          have HB1 : Hid (Below (w.heap.size + 1) (w.alloc (.cells #[.int .u64 (c.1.toNat : Int), .int .u64 (c.2.1.toNat : Int), .int .u64 (c.2.2.1.toNat : Int), .int .u64 (c.2.2.2.toNat : Int)] 24)) w1) := HB.out.trans (hb1.mono (by have := HB.out.size; simp at this; omega))
          clear hb1 hh q0 q1 q2 q3
          obtain ⟨q0, q1, q2, q3⟩ := cells_below HB1.out (Nat.lt_succ_self _)
          go_wp2_with fail
          refine (hh2 _).mono ?_
          rintro _ w2 ⟨rfl, hb2⟩
          have HB2 : Hid (Below (w.heap.size + 1) (w.alloc (.cells #[.int .u64 (c.1.toNat : Int), .int .u64 (c.2.1.toNat : Int), .int .u64 (c.2.2.1.toNat : Int), .int .u64 (c.2.2.2.toNat : Int)] 24)) w2) := HB1.out.trans (hb2.mono (by have := HB1.out.size; simp at this; omega))
          clear hb2 hh2 q0 q1 q2 q3 hw1
          go_wp2_with fail
          go_roundw
          case rel => exact ⟨k + 1, L, by omega, by go_num, rfl, HS, by omega, HB2⟩
          case measure => simp [intOf]; omega
        · skip
          have HSTA : Hid (startB (mem c) k = true) := by
            show _ = _
            unfold startB
            rw [HMK.out]
            by_cases h0 : 0 < k
            · have : mem c (k - 1) = false := by
                cases e : mem c (k - 1) with
                | false => rfl
                | true => exact absurd ⟨h0, e⟩ hprev
              rw [this]; simp
            · rw [decide_eq_false h0]; simp
          by_cases hk0 : 0 < k
          · have hkp : decide ((0 : Int) < (k : Int)) = true := by simp; omega
            have hpf : mem c (k - 1) = false := by
              cases e : mem c (k - 1) with
              | false => rfl
              | true => exact absurd ⟨hk0, e⟩ hprev
            have hh2 := fun W => HRH.out ((k : Int) - 1) (k - 1) (by omega) (by omega) W
            rw [hpf] at hh2
            have hw1 : wrap64 ((k : Int) - 1) = (k : Int) - 1 := wrap64_id _ (by omega) (by omega)
            clear hprev hpf
            go_wp2_with fail
            refine hh.mono ?_
            rintro _ w1 ⟨rfl, hb1⟩
            have HB1 : Hid (Below (w.heap.size + 1) (w.alloc (.cells #[.int .u64 (c.1.toNat : Int), .int .u64 (c.2.1.toNat : Int), .int .u64 (c.2.2.1.toNat : Int), .int .u64 (c.2.2.2.toNat : Int)] 24)) w1) := HB.out.trans (hb1.mono (by have := HB.out.size; simp at this; omega))
            clear hb1 hh q0 q1 q2 q3
            obtain ⟨q0, q1, q2, q3⟩ := cells_below HB1.out (Nat.lt_succ_self _)
            go_wp2_with fail
            refine (hh2 _).mono ?_
            rintro _ w2 ⟨rfl, hb2⟩
            have HB2 : Hid (Below (w.heap.size + 1) (w.alloc (.cells #[.int .u64 (c.1.toNat : Int), .int .u64 (c.2.1.toNat : Int), .int .u64 (c.2.2.1.toNat : Int), .int .u64 (c.2.2.2.toNat : Int)] 24)) w2) := HB1.out.trans (hb2.mono (by have := HB1.out.size; simp at this; omega))
            clear hb2 hh2 q0 q1 q2 q3 hw1
            go_wp2_with fail
            go_loopw [5] (fun z wx => ∃ j : Nat, k ≤ j ∧ j ≤ 255 ∧ z = .int .i64 (j : Int) ∧ Hid (∀ i, k < i → i ≤ j → mem c i = true) ∧ Hid (Below (w.heap.size + 1) (w.alloc (.cells #[.int .u64 (c.1.toNat : Int), .int .u64 (c.2.1.toNat : Int), .int .u64 (c.2.2.1.toNat : Int), .int .u64 (c.2.2.2.toNat : Int)] 24)) wx)) (fun z _ => 255 - (intOf z).toNat)
            case atStart => exact ⟨k, Nat.le_refl _, by omega, rfl, fun i h1 h2 => by omega, HB2⟩
            case round =>
              obtain ⟨W3, rfl⟩ : ∃ W3, W3 = wr := ⟨_, rfl⟩
              obtain ⟨j, hj1, hj2, rfl, HJ, HB3⟩ := hrel
              obtain ⟨q0, q1, q2, q3⟩ := cells_below HB3.out (Nat.lt_succ_self _)
              by_cases hgo : j < 255 ∧ mem c (j + 1) = true
              · have hjd : decide ((j : Int) < 255) = true := by simp; omega
                have hj0 : j < 255 := hgo.1
                have hjj := fun W => HRH.out ((j : Int) + 1) (j + 1) (by omega) (by omega) W
                rw [hgo.2] at hjj
                have HG : Hid (mem c (j + 1) = true) := hgo.2
                clear hgo
                go_wp2_with fail
                refine (hjj _).mono ?_
                rintro _ w4 ⟨rfl, hb4⟩
                have HB4 : Hid (Below (w.heap.size + 1) (w.alloc (.cells #[.int .u64 (c.1.toNat : Int), .int .u64 (c.2.1.toNat : Int), .int .u64 (c.2.2.1.toNat : Int), .int .u64 (c.2.2.2.toNat : Int)] 24)) w4) := HB3.out.trans (hb4.mono (by have := HB3.out.size; simp at this; omega))
                clear hb4 hjj q0 q1 q2 q3
                go_wp2_with fail
                go_roundw
                case rel =>
                  refine ⟨j + 1, by omega, by omega, by go_num, fun i h1 h2 => ?_, HB4⟩
                  by_cases e : i = j + 1
                  · rw [e]; exact HG.out
                  · exact HJ.out i h1 (by omega)
                case measure => simp [intOf]; omega
              · have HLA : Hid (lastOf (mem c) k = j) := lastOf_eq (mem c) k j hj1 hj2 HJ.out (fun h => by
                  cases e : mem c (j + 1) with
                  | false => rfl
                  | true => exact absurd ⟨h, e⟩ hgo)
                have HS : Hid (runsTo (mem c) (k + 1) = L ++ runText k j) := by
                  show _ = _
                  rw [HST.out, if_pos HSTA.out, HLA.out]
                obtain ⟨CK, HCK⟩ : ∃ l, Hid (charT k = l) := ⟨_, (rfl : charT k = charT k)⟩
                obtain ⟨CJ, HCJ⟩ : ∃ l, Hid (charT j = l) := ⟨_, (rfl : charT j = charT j)⟩
                have lk : CK.length ≤ 4 := by rw [← HCK.out]; exact charT_length k
                have lj : CJ.length ≤ 4 := by rw [← HCJ.out]; exact charT_length j
                have sk : (S CK).size ≤ 4 := by rw [S_size]; exact lk
                have sj : (S CJ).size ≤ 4 := by rw [S_size]; exact lj
                have hck := fun W => char_any k hlt W
                have hcj := fun W => char_any j (by omega) W
                rw [HCK.out] at hck
                rw [HCJ.out] at hcj
                have HRT : Hid (runText k j = CK ++ (if k + 1 < j then [45] else []) ++ (if k < j then CJ else [])) := by show _ = _; unfold runText; rw [HCK.out, HCJ.out]
                by_cases hj255 : j < 255
                · have hjd : decide ((j : Int) < 255) = true := by simp; omega
                  have hjj := fun W => HRH.out ((j : Int) + 1) (j + 1) (by omega) (by omega) W
                  have hmf : mem c (j + 1) = false := by
                    cases e : mem c (j + 1) with
                    | false => rfl
                    | true => exact absurd ⟨hj255, e⟩ hgo
                  rw [hmf] at hjj
                  clear hgo hmf
                  go_wp2_with fail
                  refine (hjj _).mono ?_
                  rintro _ w4 ⟨rfl, hb4⟩
                  have HB4 : Hid (Below (w.heap.size + 1) (w.alloc (.cells #[.int .u64 (c.1.toNat : Int), .int .u64 (c.2.1.toNat : Int), .int .u64 (c.2.2.1.toNat : Int), .int .u64 (c.2.2.2.toNat : Int)] 24)) w4) := HB3.out.trans (hb4.mono (by have := HB3.out.size; simp at this; omega))
                  clear hb4 hjj q0 q1 q2 q3
                  go_wp2_with fail
                  refine (hck _).mono ?_
                  rintro _ w5 ⟨rfl, hb5⟩
                  have HB5 : Hid (Below (w.heap.size + 1) (w.alloc (.cells #[.int .u64 (c.1.toNat : Int), .int .u64 (c.2.1.toNat : Int), .int .u64 (c.2.2.1.toNat : Int), .int .u64 (c.2.2.2.toNat : Int)] 24)) w5) := HB4.out.trans (hb5.mono (by have := HB4.out.size; simp at this; omega))
                  clear hb5 hck
                  by_cases e1 : k < j
                  · by_cases e2 : k + 1 < j
                    · have g1 : (k : Int) + 1 < (j : Int) := by omega
                      have g0 : (k : Int) < (j : Int) := by omega
                      go_wp2_with fail
                      refine (hcj _).mono ?_
                      rintro _ w6 ⟨rfl, hb6⟩
                      have HB6 : Hid (Below (w.heap.size + 1) (w.alloc (.cells #[.int .u64 (c.1.toNat : Int), .int .u64 (c.2.1.toNat : Int), .int .u64 (c.2.2.1.toNat : Int), .int .u64 (c.2.2.2.toNat : Int)] 24)) w6) := HB5.out.trans (hb6.mono (by have := HB5.out.size; simp at this; omega))
                      clear hb6 hcj
                      go_wp2_with fail
                      go_roundw
                      case rel =>
                        refine ⟨k + 1, L ++ (CK ++ [45] ++ CJ), by omega, by go_num, ?_, by show _ = _; rw [HS.out, HRT.out, if_pos e2, if_pos e1], by simp; omega, HB6⟩
                        exact str_eq (by simp)
                      case measure => simp [intOf]; omega
                    · have g1 : ¬ (k : Int) + 1 < (j : Int) := by omega
                      have g0 : (k : Int) < (j : Int) := by omega
                      go_wp2_with fail
                      refine (hcj _).mono ?_
                      rintro _ w6 ⟨rfl, hb6⟩
                      have HB6 : Hid (Below (w.heap.size + 1) (w.alloc (.cells #[.int .u64 (c.1.toNat : Int), .int .u64 (c.2.1.toNat : Int), .int .u64 (c.2.2.1.toNat : Int), .int .u64 (c.2.2.2.toNat : Int)] 24)) w6) := HB5.out.trans (hb6.mono (by have := HB5.out.size; simp at this; omega))
                      clear hb6 hcj
                      go_wp2_with fail
                      go_roundw
                      case rel =>
                        refine ⟨k + 1, L ++ (CK ++ CJ), by omega, by go_num, ?_, by show _ = _; rw [HS.out, HRT.out, if_neg e2, if_pos e1]; simp, by simp; omega, HB6⟩
                        exact str_eq (by simp)
                      case measure => simp [intOf]; omega
                  · have g1 : ¬ (k : Int) + 1 < (j : Int) := by omega
                    have g0 : ¬ (k : Int) < (j : Int) := by omega
                    go_wp2_with fail
                    go_roundw
                    case rel =>
                      refine ⟨k + 1, L ++ CK, by omega, by go_num, ?_, by show _ = _; rw [HS.out, HRT.out, if_neg (by omega), if_neg e1]; simp, by simp; omega, HB5⟩
                      exact str_eq (by simp)
                    case measure => simp [intOf]; omega
                · have hjd : decide ((j : Int) < 255) = false := by simp; omega
                  obtain ⟨w4, rfl⟩ : ∃ w4, w4 = W3 := ⟨_, rfl⟩
                  have HB4 := HB3
                  clear hgo q0 q1 q2 q3
                  go_wp2_with fail
                  refine (hck _).mono ?_
                  rintro _ w5 ⟨rfl, hb5⟩
                  have HB5 : Hid (Below (w.heap.size + 1) (w.alloc (.cells #[.int .u64 (c.1.toNat : Int), .int .u64 (c.2.1.toNat : Int), .int .u64 (c.2.2.1.toNat : Int), .int .u64 (c.2.2.2.toNat : Int)] 24)) w5) := HB4.out.trans (hb5.mono (by have := HB4.out.size; simp at this; omega))
                  clear hb5 hck
                  by_cases e1 : k < j
                  · by_cases e2 : k + 1 < j
                    · have g1 : (k : Int) + 1 < (j : Int) := by omega
                      have g0 : (k : Int) < (j : Int) := by omega
                      go_wp2_with fail
                      refine (hcj _).mono ?_
                      rintro _ w6 ⟨rfl, hb6⟩
                      have HB6 : Hid (Below (w.heap.size + 1) (w.alloc (.cells #[.int .u64 (c.1.toNat : Int), .int .u64 (c.2.1.toNat : Int), .int .u64 (c.2.2.1.toNat : Int), .int .u64 (c.2.2.2.toNat : Int)] 24)) w6) := HB5.out.trans (hb6.mono (by have := HB5.out.size; simp at this; omega))
                      clear hb6 hcj
                      go_wp2_with fail
                      go_roundw
                      case rel =>
                        refine ⟨k + 1, L ++ (CK ++ [45] ++ CJ), by omega, by go_num, ?_, by show _ = _; rw [HS.out, HRT.out, if_pos e2, if_pos e1], by simp; omega, HB6⟩
                        exact str_eq (by simp)
                      case measure => simp [intOf]; omega
                    · have g1 : ¬ (k : Int) + 1 < (j : Int) := by omega
                      have g0 : (k : Int) < (j : Int) := by omega
                      go_wp2_with fail
                      refine (hcj _).mono ?_
                      rintro _ w6 ⟨rfl, hb6⟩
                      have HB6 : Hid (Below (w.heap.size + 1) (w.alloc (.cells #[.int .u64 (c.1.toNat : Int), .int .u64 (c.2.1.toNat : Int), .int .u64 (c.2.2.1.toNat : Int), .int .u64 (c.2.2.2.toNat : Int)] 24)) w6) := HB5.out.trans (hb6.mono (by have := HB5.out.size; simp at this; omega))
                      clear hb6 hcj
                      go_wp2_with fail
                      go_roundw
                      case rel =>
                        refine ⟨k + 1, L ++ (CK ++ CJ), by omega, by go_num, ?_, by show _ = _; rw [HS.out, HRT.out, if_neg e2, if_pos e1]; simp, by simp; omega, HB6⟩
                        exact str_eq (by simp)
                      case measure => simp [intOf]; omega
                  · have g1 : ¬ (k : Int) + 1 < (j : Int) := by omega
                    have g0 : ¬ (k : Int) < (j : Int) := by omega
                    go_wp2_with fail
                    go_roundw
                    case rel =>
                      refine ⟨k + 1, L ++ CK, by omega, by go_num, ?_, by show _ = _; rw [HS.out, HRT.out, if_neg (by omega), if_neg e1]; simp, by simp; omega, HB5⟩
                      exact str_eq (by simp)
                    case measure => simp [intOf]; omega
          · have hkp : decide ((0 : Int) < (k : Int)) = false := by simp; omega
            clear hprev
            go_wp2_with fail
            refine hh.mono ?_
            rintro _ w1 ⟨rfl, hb1⟩
            have HB1 : Hid (Below (w.heap.size + 1) (w.alloc (.cells #[.int .u64 (c.1.toNat : Int), .int .u64 (c.2.1.toNat : Int), .int .u64 (c.2.2.1.toNat : Int), .int .u64 (c.2.2.2.toNat : Int)] 24)) w1) := HB.out.trans (hb1.mono (by have := HB.out.size; simp at this; omega))
            clear hb1 hh q0 q1 q2 q3
            go_wp2_with fail
            go_loopw [5] (fun z wx => ∃ j : Nat, k ≤ j ∧ j ≤ 255 ∧ z = .int .i64 (j : Int) ∧ Hid (∀ i, k < i → i ≤ j → mem c i = true) ∧ Hid (Below (w.heap.size + 1) (w.alloc (.cells #[.int .u64 (c.1.toNat : Int), .int .u64 (c.2.1.toNat : Int), .int .u64 (c.2.2.1.toNat : Int), .int .u64 (c.2.2.2.toNat : Int)] 24)) wx)) (fun z _ => 255 - (intOf z).toNat)
            case atStart => exact ⟨k, Nat.le_refl _, by omega, rfl, fun i h1 h2 => by omega, HB1⟩
            case round =>
              obtain ⟨W3, rfl⟩ : ∃ W3, W3 = wr := ⟨_, rfl⟩
              obtain ⟨j, hj1, hj2, rfl, HJ, HB3⟩ := hrel
              obtain ⟨q0, q1, q2, q3⟩ := cells_below HB3.out (Nat.lt_succ_self _)
              by_cases hgo : j < 255 ∧ mem c (j + 1) = true
              · have hjd : decide ((j : Int) < 255) = true := by simp; omega
                have hj0 : j < 255 := hgo.1
                have hjj := fun W => HRH.out ((j : Int) + 1) (j + 1) (by omega) (by omega) W
                rw [hgo.2] at hjj
                have HG : Hid (mem c (j + 1) = true) := hgo.2
                clear hgo
                go_wp2_with fail
                refine (hjj _).mono ?_
                rintro _ w4 ⟨rfl, hb4⟩
                have HB4 : Hid (Below (w.heap.size + 1) (w.alloc (.cells #[.int .u64 (c.1.toNat : Int), .int .u64 (c.2.1.toNat : Int), .int .u64 (c.2.2.1.toNat : Int), .int .u64 (c.2.2.2.toNat : Int)] 24)) w4) := HB3.out.trans (hb4.mono (by have := HB3.out.size; simp at this; omega))
                clear hb4 hjj q0 q1 q2 q3
                go_wp2_with fail
                go_roundw
                case rel =>
                  refine ⟨j + 1, by omega, by omega, by go_num, fun i h1 h2 => ?_, HB4⟩
                  by_cases e : i = j + 1
                  · rw [e]; exact HG.out
                  · exact HJ.out i h1 (by omega)
                case measure => simp [intOf]; omega
              · have HLA : Hid (lastOf (mem c) k = j) := lastOf_eq (mem c) k j hj1 hj2 HJ.out (fun h => by
                  cases e : mem c (j + 1) with
                  | false => rfl
                  | true => exact absurd ⟨h, e⟩ hgo)
                have HS : Hid (runsTo (mem c) (k + 1) = L ++ runText k j) := by
                  show _ = _
                  rw [HST.out, if_pos HSTA.out, HLA.out]
                obtain ⟨CK, HCK⟩ : ∃ l, Hid (charT k = l) := ⟨_, (rfl : charT k = charT k)⟩
                obtain ⟨CJ, HCJ⟩ : ∃ l, Hid (charT j = l) := ⟨_, (rfl : charT j = charT j)⟩
                have lk : CK.length ≤ 4 := by rw [← HCK.out]; exact charT_length k
                have lj : CJ.length ≤ 4 := by rw [← HCJ.out]; exact charT_length j
                have sk : (S CK).size ≤ 4 := by rw [S_size]; exact lk
                have sj : (S CJ).size ≤ 4 := by rw [S_size]; exact lj
                have hck := fun W => char_any k hlt W
                have hcj := fun W => char_any j (by omega) W
                rw [HCK.out] at hck
                rw [HCJ.out] at hcj
                have HRT : Hid (runText k j = CK ++ (if k + 1 < j then [45] else []) ++ (if k < j then CJ else [])) := by show _ = _; unfold runText; rw [HCK.out, HCJ.out]
                by_cases hj255 : j < 255
                · have hjd : decide ((j : Int) < 255) = true := by simp; omega
                  have hjj := fun W => HRH.out ((j : Int) + 1) (j + 1) (by omega) (by omega) W
                  have hmf : mem c (j + 1) = false := by
                    cases e : mem c (j + 1) with
                    | false => rfl
                    | true => exact absurd ⟨hj255, e⟩ hgo
                  rw [hmf] at hjj
                  clear hgo hmf
                  go_wp2_with fail
                  refine (hjj _).mono ?_
                  rintro _ w4 ⟨rfl, hb4⟩
                  have HB4 : Hid (Below (w.heap.size + 1) (w.alloc (.cells #[.int .u64 (c.1.toNat : Int), .int .u64 (c.2.1.toNat : Int), .int .u64 (c.2.2.1.toNat : Int), .int .u64 (c.2.2.2.toNat : Int)] 24)) w4) := HB3.out.trans (hb4.mono (by have := HB3.out.size; simp at this; omega))
                  clear hb4 hjj q0 q1 q2 q3
                  go_wp2_with fail
                  refine (hck _).mono ?_
                  rintro _ w5 ⟨rfl, hb5⟩
                  have HB5 : Hid (Below (w.heap.size + 1) (w.alloc (.cells #[.int .u64 (c.1.toNat : Int), .int .u64 (c.2.1.toNat : Int), .int .u64 (c.2.2.1.toNat : Int), .int .u64 (c.2.2.2.toNat : Int)] 24)) w5) := HB4.out.trans (hb5.mono (by have := HB4.out.size; simp at this; omega))
                  clear hb5 hck
                  by_cases e1 : k < j
                  · by_cases e2 : k + 1 < j
                    · have g1 : (k : Int) + 1 < (j : Int) := by omega
                      have g0 : (k : Int) < (j : Int) := by omega
                      go_wp2_with fail
                      refine (hcj _).mono ?_
                      rintro _ w6 ⟨rfl, hb6⟩
                      have HB6 : Hid (Below (w.heap.size + 1) (w.alloc (.cells #[.int .u64 (c.1.toNat : Int), .int .u64 (c.2.1.toNat : Int), .int .u64 (c.2.2.1.toNat : Int), .int .u64 (c.2.2.2.toNat : Int)] 24)) w6) := HB5.out.trans (hb6.mono (by have := HB5.out.size; simp at this; omega))
                      clear hb6 hcj
                      go_wp2_with fail
                      go_roundw
                      case rel =>
                        refine ⟨k + 1, L ++ (CK ++ [45] ++ CJ), by omega, by go_num, ?_, by show _ = _; rw [HS.out, HRT.out, if_pos e2, if_pos e1], by simp; omega, HB6⟩
                        exact str_eq (by simp)
                      case measure => simp [intOf]; omega
                    · have g1 : ¬ (k : Int) + 1 < (j : Int) := by omega
                      have g0 : (k : Int) < (j : Int) := by omega
                      go_wp2_with fail
                      refine (hcj _).mono ?_
                      rintro _ w6 ⟨rfl, hb6⟩
                      have HB6 : Hid (Below (w.heap.size + 1) (w.alloc (.cells #[.int .u64 (c.1.toNat : Int), .int .u64 (c.2.1.toNat : Int), .int .u64 (c.2.2.1.toNat : Int), .int .u64 (c.2.2.2.toNat : Int)] 24)) w6) := HB5.out.trans (hb6.mono (by have := HB5.out.size; simp at this; omega))
                      clear hb6 hcj
                      go_wp2_with fail
                      go_roundw
                      case rel =>
                        refine ⟨k + 1, L ++ (CK ++ CJ), by omega, by go_num, ?_, by show _ = _; rw [HS.out, HRT.out, if_neg e2, if_pos e1]; simp, by simp; omega, HB6⟩
                        exact str_eq (by simp)
                      case measure => simp [intOf]; omega
                  · have g1 : ¬ (k : Int) + 1 < (j : Int) := by omega
                    have g0 : ¬ (k : Int) < (j : Int) := by omega
                    go_wp2_with fail
                    go_roundw
                    case rel =>
                      refine ⟨k + 1, L ++ CK, by omega, by go_num, ?_, by show _ = _; rw [HS.out, HRT.out, if_neg (by omega), if_neg e1]; simp, by simp; omega, HB5⟩
                      exact str_eq (by simp)
                    case measure => simp [intOf]; omega
                · have hjd : decide ((j : Int) < 255) = false := by simp; omega
                  obtain ⟨w4, rfl⟩ : ∃ w4, w4 = W3 := ⟨_, rfl⟩
                  have HB4 := HB3
                  clear hgo q0 q1 q2 q3
                  go_wp2_with fail
                  refine (hck _).mono ?_
                  rintro _ w5 ⟨rfl, hb5⟩
                  have HB5 : Hid (Below (w.heap.size + 1) (w.alloc (.cells #[.int .u64 (c.1.toNat : Int), .int .u64 (c.2.1.toNat : Int), .int .u64 (c.2.2.1.toNat : Int), .int .u64 (c.2.2.2.toNat : Int)] 24)) w5) := HB4.out.trans (hb5.mono (by have := HB4.out.size; simp at this; omega))
                  clear hb5 hck
                  by_cases e1 : k < j
                  · by_cases e2 : k + 1 < j
                    · have g1 : (k : Int) + 1 < (j : Int) := by omega
                      have g0 : (k : Int) < (j : Int) := by omega
                      go_wp2_with fail
                      refine (hcj _).mono ?_
                      rintro _ w6 ⟨rfl, hb6⟩
                      have HB6 : Hid (Below (w.heap.size + 1) (w.alloc (.cells #[.int .u64 (c.1.toNat : Int), .int .u64 (c.2.1.toNat : Int), .int .u64 (c.2.2.1.toNat : Int), .int .u64 (c.2.2.2.toNat : Int)] 24)) w6) := HB5.out.trans (hb6.mono (by have := HB5.out.size; simp at this; omega))
                      clear hb6 hcj
                      go_wp2_with fail
                      go_roundw
                      case rel =>
                        refine ⟨k + 1, L ++ (CK ++ [45] ++ CJ), by omega, by go_num, ?_, by show _ = _; rw [HS.out, HRT.out, if_pos e2, if_pos e1], by simp; omega, HB6⟩
                        exact str_eq (by simp)
                      case measure => simp [intOf]; omega
                    · exfalso; omega
                  · exfalso; omega
    · have e : k = 256 := by omega
      subst e
      go_wp2_with fail
      go_ret
      exact ⟨by unfold runsT; rw [HL.out]; rfl, ((Below.refl _ w).alloc (Nat.le_refl _) _).trans (HB.out.mono (Nat.le_succ _))⟩
end Go.Proofs.Ythloedfiomfnbaa
