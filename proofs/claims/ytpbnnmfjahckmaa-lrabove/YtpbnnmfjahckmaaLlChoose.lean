/-
  The contract of ll.choose.
-/
import Derived.Test.YtpbnnmfjahckmaaLlTaken
namespace Go.Proofs.Ytpbnnmfjahckmaa
open Go.RowKit
open Cg

theorem info_parts3 : ∃ i, Try.prog.info? 3 = some i ∧ i.zero = some (.int .i64 0) ∧ i.size = 1 ∧ i.bytes = 8 := by
  have h := info3
  cases e : Try.prog.info? 3 with
  | none => rw [e] at h; cases h
  | some i => rw [e] at h; simp at h; exact ⟨i, rfl, h.1, h.2.1, h.2.2⟩
/-- What choose holds: L may be taken so far. -/
structure CH (w : World) (T : Nat) (n : Int) (pv : Value) (ps : List Pd) (bs : Nat) (S : Nat → Wd) (v : Value) (L : List Int) (W : World) : Prop where
  gb : Gb w w.heap.size (T : Int) n pv ps W
  rs : Rw W bs ps.length S
  ow : W.ownsRow (w.heap.size + 1) 3 1 v L.tail.length (L.tail.map (Value.int .i64))
theorem CH.next {w : World} {T : Nat} {n : Int} {pv : Value} {ps : List Pd} {bs : Nat} {S : Nat → Wd} {v : Value} {L : List Int} {W W' : World} (h : CH w T n pv ps bs S v L W) (hb : Below W.heap.size W W') : CH w T n pv ps bs S v L W' :=
  ⟨h.gb.next hb, h.rs.next hb, own_below h.ow hb⟩
set_option maxHeartbeats 6400000 in
set_option maxRecDepth 20000 in
theorem choose_any (T : Nat) (n : Int) (hT : T ≤ 30) (pv : Value) (ps : List Pd) (hpl : ps.length ≤ 40) (bs : Nat) (S : Nat → Wd) (non col : Nat) (hcol : col ≤ T) (w : World) (hp : Pds w pv ps) (hs : Rw w bs ps.length S) :
    Calls Try.prog 70 #[.agg #[.int .i64 (T : Int), .int .i64 n, pv], .slice (some ⟨bs, 0, none⟩) ps.length ps.length, .int .i64 (non : Int), .int .i64 (col : Int)] w fun e w' => ∃ fo fl fc, e = .returned (.tuple #[.int .i64 (hdI (mayL ps S T non col)), .slice fo fl fc]) ∧ fl = (mayL ps S T non col).tail.length ∧ w'.ownsRow w.heap.size 3 1 (.slice fo fl fc) (mayL ps S T non col).tail.length ((mayL ps S T non col).tail.map (Value.int .i64)) ∧ Below w.heap.size w w' := by
  obtain ⟨i0, hi, hz0, hz1, hz2⟩ := info_parts3
  have HP : Hid (Pds w pv ps) := hp
  have HGB := Gb.box hp (T : Int) n
  obtain ⟨ao, c, rfl, hm, hcs⟩ := hp
  have hb0 := below_alloc w (Obj.cells #[.int .i64 (T : Int), .int .i64 n, .slice ao ps.length c] 24)
  have HCH0 : Hid (CH w T n (.slice ao ps.length c) ps bs S (.slice none 0 0) [] (w.alloc (Obj.cells #[.int .i64 (T : Int), .int .i64 n, .slice ao ps.length c] 24))) := ⟨HGB, hs.next hb0, World.ownsRow_nil _ _ _ _⟩
  have k2 := HGB.c2
  have HBS : Hid (bs < w.heap.size) := hs.lt
  have HPL : Hid (ps.length ≤ 40) := hpl
  have HBC : Hid (bc T col < 64) := by show _ < _; unfold bc; split <;> omega
  clear HGB hb0 hs
  go_enter Try.func70, Try.ntmps70
  go_wp2_with fail
  clear k2
  go_loopw [10, 11, 17] (fun ls fs i wr => ∃ (q : Nat) (L : List Int) (vo : Option Addr) (ln vc : Nat), q ≤ ps.length ∧ ls = .int .i64 (hdI L) ∧ fs = .slice vo ln vc ∧ i = .int .i64 (q : Int) ∧ Hid (ln = L.tail.length) ∧ Hid (mayQ ps S T non col q = L) ∧ Hid (CH w T n (.slice ao ps.length c) ps bs S (.slice vo ln vc) L wr)) (fun _ _ i _ => ps.length - (intOf i).toNat)
  case atStart => exact ⟨0, [], none, 0, 0, by omega, rfl, rfl, rfl, rfl, rfl, HCH0⟩
  case round =>
    obtain ⟨q, L, vo, ln, vc, hq, rfl, rfl, rfl, HLN, HL, HCHr⟩ := hrel
    clear HCH0
    by_cases hlt : q < ps.length
    · obtain ⟨b2, o, rfl, hb, hc⟩ := hcs.resolve_left (by intro e; subst e; simp at hlt)
      obtain ⟨c0, u, c1, hu⟩ := hc q hlt
      obtain ⟨uo, uc, rfl, -, -⟩ := hu
      have HMB : Hid (mayB ps S T non col q = (decide (ps[q].1 = (non : Int)) && (S q).getLsbD (bc T col))) := mayB_at hlt
      generalize ps[q].2.length = ul at c1
      generalize ps[q].1 = h at c0 HMB
      replace c0 : wr.cell? ⟨b2, o + q * 2, none⟩ = some (.int .i64 h) := (HCHr.out.gb.below.cell (p := ⟨b2, o + q * 2, none⟩) hb).trans c0
      replace c1 : wr.cell? ⟨b2, o + q * 2 + 1, none⟩ = some (.slice uo ul uc) := (HCHr.out.gb.below.cell (p := ⟨b2, o + q * 2 + 1, none⟩) hb).trans c1
      have hk1 : (q : Int) < (ps.length : Int) := by omega
      have hk0 : (0 : Int) ≤ (q : Int) := by omega
      have g0 := cell_new wr #[.int .i64 h, .slice uo ul uc] 79
      have hb0 := below_alloc wr (Obj.cells #[.int .i64 h, .slice uo ul uc] 79)
      obtain ⟨wb, HWB⟩ : ∃ wb, Hid (wr.alloc (Obj.cells #[.int .i64 h, .slice uo ul uc] 79) = wb) := ⟨_, (rfl : _ = _)⟩
      rw [HWB.out] at g0 hb0
      have HSZ : Hid (wr.heap.size < wb.heap.size) := by show _ < _; rw [← HWB.out]; simp
      have HCH : Hid (CH w T n (.slice (some ⟨b2, o, none⟩) ps.length c) ps bs S (.slice vo ln vc) L wb) := HCHr.out.next hb0
      have hne : Nonempty (Kp (Sb wb)) := ⟨⟨_, Sb.drew wb⟩⟩
      have y0 : ∀ p : Kp (Sb wb), p.W.cell? ⟨wr.heap.size, 0, none⟩ = some (.int .i64 h) := fun p => (Below.cell p.h (p := ⟨wr.heap.size, 0, none⟩) HSZ.out).trans (g0 0)
      have y1 : ∀ p : Kp (Sb wb), p.W.cell? ⟨bs, q, none⟩ = some (.int .u64 ((S q).toNat : Int)) := fun p => (HCH.out.next p.h).rs.cell hlt
      have k0 : ∀ p : Kp (Sb wb), p.W.cell? ⟨w.heap.size, 0, none⟩ = some (.int .i64 (T : Int)) := fun p => (HCH.out.next p.h).gb.c0
      have k1 : ∀ p : Kp (Sb wb), p.W.cell? ⟨w.heap.size, 1, none⟩ = some (.int .i64 n) := fun p => (HCH.out.next p.h).gb.c1
      have k2 : ∀ p : Kp (Sb wb), p.W.cell? ⟨w.heap.size, 2, none⟩ = some (.slice (some ⟨b2, o, none⟩) ps.length c) := fun p => (HCH.out.next p.h).gb.c2
      obtain ⟨kb, HKB⟩ : ∃ kb, Hid (bc T col = kb) := ⟨_, (rfl : _ = _)⟩
      have k3 : kb < 64 := by rw [← HKB.out]; exact HBC.out
      have HC : Hid (∀ p : Kp (Sb wb), Calls Try.prog 83 #[.agg #[.int .i64 (T : Int), .int .i64 n, .slice (some ⟨b2, o, none⟩) ps.length c], .int .i64 (col : Int)] p.W fun e w'' => e = .returned (.int .i64 (kb : Int)) ∧ ∃ q : Kp (Sb wb), w'' = q.W) := fun p => by
        have := bitOf_any T col n (.slice (some ⟨b2, o, none⟩) ps.length c) p.W ⟨_, _, _, rfl⟩
        rw [HKB.out] at this
        exact Kp.calls p Sb.next this
      obtain ⟨x, HX⟩ : ∃ x, Hid (S q = x) := ⟨_, (rfl : _ = _)⟩
      rw [HX.out] at y1
      rw [HX.out, HKB.out] at HMB
      have hbit := and_wd x kb
      clear hcs hc hb0 g0 HCHr HX HKB hlt
      by_cases hh : h = (non : Int)
      · have b0 : (h != (non : Int)) = false := by simp [hh]
        have HM2 : Hid (mayB ps S T non col q = x.getLsbD kb) := by show _ = _; rw [HMB.out, decide_eq_true hh, Bool.true_and]
        clear hh HMB
        cases hx : x.getLsbD kb with
        | false =>
          have HNX : Hid (mayQ ps S T non col (q + 1) = L) := by show _ = _; rw [mayQ_false (HM2.out.trans hx), HL.out]
          rw [hx] at hbit
          simp only [Bool.not_false] at hbit
          clear hx HM2 HL
          go_upto_region 7 with (fail)
          rw [HWB.out]
          refine wp_region_kept mixed (by kernel_rfl) (Sb.drew wb) ?_
          repeat (go_big_quiet_step (first | (go_at_call 83; with_reducible exact HC.out _)))
          refine wpQuiet_nil ?_
          intro W2 hw2
          obtain ⟨p2, rfl⟩ := hw2
          have HCH2 : Hid (CH w T n (.slice (some ⟨b2, o, none⟩) ps.length c) ps bs S (.slice vo ln vc) L p2.W) := HCH.out.next p2.h
          generalize p2.W = w2 at HCH2 ⊢
          clear y0 y1 k0 k1 k2 k3 HC hne HCH p2
          go_wp2_with fail
          go_roundw
          case rel => exact ⟨q + 1, L, vo, ln, vc, by omega, rfl, rfl, by go_num, HLN, HNX, HCH2⟩
          case measure => simp [intOf]; omega
        | true =>
          have HNX : Hid (mayQ ps S T non col (q + 1) = L ++ [(q : Int)]) := by show _ = _; rw [mayQ_true (HM2.out.trans hx), HL.out]
          rw [hx] at hbit
          simp only [Bool.not_true] at hbit
          have HGE : Hid (∀ x ∈ L, 0 ≤ x) := by show ∀ x ∈ L, 0 ≤ x; rw [← HL.out]; exact mayQ_ge
          have HLE : Hid (L.length ≤ q) := by show _ ≤ _; rw [← HL.out]; exact mayQ_length _ _ _ _ _ _
          clear hx HM2 HL
          by_cases hL : L = []
          · subst hL
            have b1 : (hdI [] == -1) = true := rfl
            obtain rfl : ln = 0 := HLN.out
            go_upto_region 7 with (fail)
            rw [HWB.out]
            refine wp_region_kept mixed (by kernel_rfl) (Sb.drew wb) ?_
            repeat (go_big_quiet_step (first | (go_at_call 83; with_reducible exact HC.out _)))
            refine wpQuiet_nil ?_
            intro W2 hw2
            obtain ⟨p2, rfl⟩ := hw2
            have HCH2 : Hid (CH w T n (.slice (some ⟨b2, o, none⟩) ps.length c) ps bs S (.slice vo 0 vc) [] p2.W) := HCH.out.next p2.h
            generalize p2.W = w2 at HCH2 ⊢
            clear y0 y1 k0 k1 k2 k3 HC hne HCH p2
            go_wp2_with fail
            go_roundw
            case rel => exact ⟨q + 1, [(q : Int)], vo, 0, vc, by omega, rfl, rfl, by go_num, rfl, HNX, ⟨HCH2.out.gb, HCH2.out.rs, HCH2.out.ow⟩⟩
            case measure => simp [intOf]; omega
          · have b1 : (hdI L == -1) = false := by
              cases e : (hdI L == -1) with
              | false => rfl
              | true => exact absurd ((hdI_neg HGE.out).1 e) hL
            have HE : Hid (hdI (L ++ [(q : Int)]) = hdI L ∧ (L ++ [(q : Int)]).tail = L.tail ++ [(q : Int)]) := ⟨hdI_app hL _, tl_app hL _⟩
            generalize hdI L = hd at b1 HE
            clear hL
            go_upto_region 7 with (fail)
            rw [HWB.out]
            refine wp_region_kept mixed (by kernel_rfl) (Sb.drew wb) ?_
            repeat (go_big_quiet_step (first | (go_at_call 83; with_reducible exact HC.out _)))
            refine wpQuiet_nil ?_
            intro W2 hw2
            obtain ⟨p2, rfl⟩ := hw2
            have HCH2 : Hid (CH w T n (.slice (some ⟨b2, o, none⟩) ps.length c) ps bs S (.slice vo ln vc) L p2.W) := HCH.out.next p2.h
            generalize p2.W = w2 at HCH2 ⊢
            clear y0 y1 k0 k1 k2 k3 HC hne HCH p2
            obtain ⟨M, HM⟩ : ∃ M, Hid (L.tail = M) := ⟨_, (rfl : _ = _)⟩
            have HO : Hid (w2.ownsRow (w.heap.size + 1) 3 1 (.slice vo ln vc) M.length (M.map (Value.int .i64))) := by rw [← HM.out]; exact HCH2.out.ow
            have HSW : Hid (w.heap.size + 1 ≤ w2.heap.size) := by have := HCH2.out.gb.lt; exact this
            have hsw := HSW.out
            have hll : M.length ≤ 40 := by have := HLE.out; rw [← HM.out, List.length_tail]; omega
            go_wp2_with (at_builtin; refine wpList_append_own _ rfl _ _ 29 rfl (w.heap.size + 1) 3 i0 (.int .i64 0) 1 8 Try.underlying29 hi hz0 hz1 hz2 rfl (by decide) _ _ _ rfl (HO.out.alloc _) ⟨w2.heap.size, 0, none⟩ 1 1 [.int .i64 (q : Int)] rfl rfl (World.news_of_block (t := 3) (fr := (0, 0)) (heap_alloc_new w2 _)) (by simp [Value.oneCell']) (by unfold maxLen; omega) (by omega) (by simp; omega) ?_)
            intro v' w4 hown' hgrow _
            have HCH4 : Hid (CH w T n (.slice (some ⟨b2, o, none⟩) ps.length c) ps bs S v' (L ++ [(q : Int)]) w4) := by
              have hfm : ∀ k, k < w2.heap.size → (Value.slice vo ln vc).ownBlock ≠ some k → w4.heap[k]? = w2.heap[k]? := fun k hk hn => (hgrow.block k (by simp; omega) (fun e => hn e.symm)).trans ((below_alloc w2 _).block k hk)
              have hlo := HO.out.lt
              have hbw : Below w.heap.size w w4 := Below.grown (HCH2.out.gb.below.trans ((below_alloc w2 _).mono HCH2.out.gb.below.size)) hgrow (by simp; omega) (fun k hk => by have := (hlo k hk).1; omega)
              have hgc : ∀ j, w4.cell? ⟨w.heap.size, j, none⟩ = w2.cell? ⟨w.heap.size, j, none⟩ := fun j => World.cell?_of_block (hfm w.heap.size (by omega) (fun e => by have := (hlo _ e).1; omega))
              refine ⟨⟨hbw, by have := hgrow.size; simp at this; omega, Nat.le_refl _, (hgc 0).trans HCH2.out.gb.c0, (hgc 1).trans HCH2.out.gb.c1, (hgc 2).trans HCH2.out.gb.c2, HP.out.below hbw⟩, HCH2.out.rs.of (hfm bs (by have := HBS.out; omega) (fun e => by have := (hlo _ e).1; have := HBS.out; omega)), ?_⟩
              rw [HE.out.2, HM.out, List.length_append, List.map_append]
              exact hown'
            obtain ⟨v'a, v'n, v'c, rfl⟩ := own_form hown'
            have HN4 : Hid (v'n = (L ++ [(q : Int)]).tail.length) := by
              rcases HCH4.out.ow.2 with ⟨he, h0⟩ | ⟨g, cap, cur, he, -⟩
              · cases he; exact h0.symm
              · cases he; rfl
            clear hown' hgrow HCH2 HO HSW hsw
            go_wp2_with fail
            go_roundw
            case rel => exact ⟨q + 1, L ++ [(q : Int)], v'a, v'n, v'c, by omega, by rw [HE.out.1], rfl, by go_num, HN4, HNX, HCH4⟩
            case measure => simp [intOf]; omega
      · have b0 : (h != (non : Int)) = true := by simp [hh]
        have HNX : Hid (mayQ ps S T non col (q + 1) = L) := by
          show _ = _
          rw [mayQ_false (by rw [HMB.out, decide_eq_false hh, Bool.false_and]), HL.out]
        clear hh HMB HL hbit
        go_upto_region 7 with (fail)
        rw [HWB.out]
        refine wp_region_kept mixed (by kernel_rfl) (Sb.drew wb) ?_
        repeat (go_big_quiet_step (first | (go_at_call 83; with_reducible exact HC.out _)))
        refine wpQuiet_nil ?_
        intro W2 hw2
        obtain ⟨p2, rfl⟩ := hw2
        have HCH2 : Hid (CH w T n (.slice (some ⟨b2, o, none⟩) ps.length c) ps bs S (.slice vo ln vc) L p2.W) := HCH.out.next p2.h
        generalize p2.W = w2 at HCH2 ⊢
        clear y0 y1 k0 k1 k2 k3 HC hne HCH p2
        go_wp2_with fail
        go_roundw
        case rel => exact ⟨q + 1, L, vo, ln, vc, by omega, rfl, rfl, by go_num, HLN, HNX, HCH2⟩
        case measure => simp [intOf]; omega
    · have HQL : Hid (mayL ps S T non col = L) := by show _ = _; rw [← HL.out, show q = ps.length by omega]; rfl
      clear hcs HL
      go_wp2_with fail
      go_ret2
      rw [HQL.out]
      exact ⟨vo, ln, vc, by simp, HLN.out, Go.Joins.ownsRow_le HCHr.out.ow (by omega), HCHr.out.gb.below⟩
end Go.Proofs.Ytpbnnmfjahckmaa
