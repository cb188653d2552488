/-
  The contract of pushkeep.parsed, where what was told is right.
-/
import Derived.Test.YtpfehghicaaghaaClEq
import Derived.Test.YtpfehghicaaghaaClDown
import Derived.Test.YtpfehghicaaghaaChOnly
namespace Go.Proofs.Ytpfehghicaaghaa
open Go.RowKit
open Cg

set_option maxHeartbeats 8000000 in
set_option maxRecDepth 20000 in
theorem parsed_true (t n : Int) (pv wv lv : Value) (ps : List Pd) (ws : List Int) (L : List Ev) (had er : Int) (w : World) (hp : Pds w pv ps) (hw : Ints w wv ws) (hl : Evs w lv L) (hck : ckW t n ps ws = 0)
    (hq : er = 14 ∨ ((∀ x, Sp ps ws x (2, 0) 0 ws.length → er = 0 ∧ had = (ws.length : Int) ∧ L = evD x) ∧ (cnt ps ws 0 0 ws.length = 0 → er = 13))) :
    Calls Try.prog 28 #[.agg #[.int .i64 t, .int .i64 n, pv], wv, lv, .int .i64 had, .int .i64 er, .bool true] w fun e w' => e = .returned (.bool true) ∧ Below w.heap.size w w' := by
  have HG0 : Hid _ := Gb.box hp t n
  have HPV : Hid (Pds w pv ps) := hp
  have HWV : Hid (Ints w wv ws) := hw
  have HLV : Hid (Evs w lv L) := hl
  have HCK : Hid (ckW t n ps ws = 0) := hck
  have HQ : Hid _ := hq
  obtain ⟨po, pc, rfl, hpm, -⟩ := hp
  obtain ⟨wo, wc, rfl, hwm, -⟩ := hw
  obtain ⟨lo, lc, rfl, hlm, -⟩ := hl
  have HB1 : Hid (Below w.heap.size w (w.alloc (Obj.cells #[.int .i64 t, .int .i64 n, .slice po ps.length pc] 24))) := below_alloc _ _
  clear hck hq
  go_enter Try.func28, Try.ntmps28
  go_upto_region 1 with fail
  generalize w.alloc (Obj.cells #[.int .i64 t, .int .i64 n, .slice po ps.length pc] 24) = w1 at HG0 HB1 ⊢
  obtain ⟨g, HG⟩ : ∃ g, Hid (w.heap.size = g) := ⟨_, (rfl : w.heap.size = w.heap.size)⟩
  rw [HG.out] at HG0 ⊢
  have hcall := Only_any t n (.slice po ps.length pc) (.slice wo ws.length wc) ps ws w1 HG0.out.pds (HWV.out.below HB1.out)
  have z0 := HG0.out.c0
  have z1 := HG0.out.c1
  have z2 := HG0.out.c2
  go_wp2_with fail
  refine hcall.mono ?_
  rintro _ w2 ⟨p, k, a, m, c, er2, xo, rfl, hol, htx, hb2⟩
  have HOL : Hid _ := hol
  have HTX : Hid _ := htx.bel (below_alloc w2 (Obj.cells #[.int .i64 p, .int .i64 k, .slice a m c] 32))
  have HG2 : Hid _ := (HG0.out.next hb2).next (below_alloc w2 (Obj.cells #[.int .i64 p, .int .i64 k, .slice a m c] 32))
  have HBK : Hid _ := heap_alloc_new w2 (Obj.cells #[.int .i64 p, .int .i64 k, .slice a m c] 32)
  have HB2 : Hid (Below w.heap.size w (w2.alloc (Obj.cells #[.int .i64 p, .int .i64 k, .slice a m c] 32))) := (HB1.out.trans (hb2.mono HB1.out.size)).alloc (Nat.le_trans HB1.out.size hb2.size) _
  clear hcall hol htx hb2 z0 z1 z2 HG0 HB1
  obtain ⟨kb, HKB⟩ : ∃ kb, Hid (w2.heap.size = kb) := ⟨_, (rfl : w2.heap.size = _)⟩
  go_upto_region 2 with fail
  generalize w2.alloc (Obj.cells #[.int .i64 p, .int .i64 k, .slice a m c] 32) = w3 at HTX HG2 HBK HB2 ⊢
  rw [HKB.out] at HBK ⊢
  by_cases h14 : er = 14
  · subst h14
    go_wp2_with fail
    go_ret
    exact ⟨rfl, HB2.out⟩
  · have hb14 : (er == 14) = false := by simpa using h14
    have HQ2 : Hid _ := HQ.out.resolve_left h14
    clear h14 HQ
    have hol := HOL.out
    unfold OlQ at hol
    rcases hol with h | ⟨-, h | h | ⟨hc1, x, hx, hu, he, ho⟩⟩
    · exact absurd HCK.out h.1
    · obtain ⟨h1, rfl, h3⟩ := h
      obtain rfl := HQ2.out.2 h1
      clear h1 h3 hb14
      go_wp2_with fail
      go_ret
      exact ⟨rfl, HB2.out⟩
    · obtain ⟨h1, rfl, h3⟩ := h
      clear h1 h3
      go_wp2_with fail
      go_ret
      exact ⟨rfl, HB2.out⟩
    · by_cases he0 : er2 = 0
      · subst he0
        rw [if_pos rfl] at ho
        subst ho
        obtain ⟨rfl, rfl, rfl⟩ := HQ2.out.1 _ hx
        have HET : Hid (errT t n ps xo = 0) := he.symm
        clear hc1 hx hu he HQ2 HOL
        have hcall := Down_any t n (.slice po ps.length pc) ps (.agg #[.int .i64 p, .int .i64 k, .slice a m c]) xo _ w3 HG2.out.pds HTX.out
        rw [HET.out] at hcall
        have z0 := HG2.out.c0
        have z1 := HG2.out.c1
        have z2 := HG2.out.c2
        have t0 := tcell_blk HBK.out 0
        have t1 := tcell_blk HBK.out 1
        have t2 := tcell_blk HBK.out 2
        simp only [List.getElem?_toArray, List.getElem?_cons_zero, List.getElem?_cons_succ] at t0 t1 t2
        go_wp2_with fail
        refine hcall.mono ?_
        rintro _ w4 ⟨ya, yn, yc, rfl, hb4, hd4⟩
        rw [if_pos HET.out] at hd4
        have HB4 : Hid (Below w.heap.size w w4) := HB2.out.trans (hb4.mono HB2.out.size)
        have hlen : (evD xo).length ≤ 9223372036854775807 := hlm
        have hev := evs_of_own hd4 hlen
        have hcall2 := equalE_same (.slice lo (evD xo).length lc) (.slice ya yn yc) (evD xo) w4 (HLV.out.below HB4.out) hev
        have hbl : ((ws.length : Int) == (ws.length : Int)) = true := by simp
        clear hcall hb4 hd4 z0 z1 z2 t0 t1 t2 hev
        go_wp2_with fail
        refine hcall2.mono ?_
        rintro _ w5 ⟨rfl, hb5⟩
        have HB5 : Hid (Below w.heap.size w w5) := HB4.out.trans (hb5.mono HB4.out.size)
        clear hcall2 hb5 hbl
        go_wp2_with fail
        go_ret
        exact ⟨rfl, HB5.out⟩
      · have hb0 : (er2 == 0) = false := by simpa using he0
        have h17 : er2 ≠ 17 := by
          rw [he]
          unfold errT
          rw [if_pos (ckW_zero HCK.out).1]
          obtain ⟨s1, s2, s3⟩ := sp_whole.1 hx
          have := thr_right (d := 1) (n := 0) (ws := []) s1 (by rw [s2, nums_length]; rfl)
          omega
        have hb17 : (er2 != 17) = true := by simpa using h17
        clear hc1 hx hu he ho h17 he0
        go_wp2_with fail
        go_ret
        exact ⟨rfl, HB2.out⟩
end Go.Proofs.Ytpfehghicaaghaa
