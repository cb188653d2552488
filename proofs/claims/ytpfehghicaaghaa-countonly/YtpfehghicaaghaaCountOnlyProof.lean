/-
  CountOnly returns true whatever grammar and word are handed in, and changes nothing that it was handed; no condition.
-/
import Derived.Test.YtpfehghicaaghaaRows
import Derived.WalkKit
import Derived.ProofKit
import Derived.OpenShut
import Derived.ShutString
import Derived.SizedLaws
import Derived.ChangeOld
import Derived.Below
import Derived.Carry
import Derived.WalkLawsBesides
import Derived.WalkSpells
import Derived.Test.YtpfehghicaaghaaOpens
import Derived.Deep.Cut
import Derived.Test.YtpfehghicaaghaaChOnly
import Derived.Test.YtpfehghicaaghaaTrSame
import Derived.Test.YtpfehghicaaghaaBrCnt
import Derived.Test.YtpfehghicaaghaaTrEq
import Derived.Test.YtpfehghicaaghaaFcBrack
namespace Go.Proofs.Ytpfehghicaaghaa.countOnly
open Go.ChangeShapes Go.WideShapes Go.ChangeAt Go.RowKit
open Go.ChangeMaps (open_string shut_string)
open Cg
set_option linter.unusedVariables false

theorem own : ownKnob Try.prog.godebug = none := by kernel_rfl
theorem laidOut : laidOutB Try.prog = true := by kernel_rfl
theorem one_errT : errT 2 1 brs oneT = 0 := by decide +kernel
theorem ol_brs {er : Int} {xo : T} (h : OlQ 2 1 brs [0, 1] er xo) : er = 0 ∧ xo = oneT := by
  have hw : ckW 2 1 brs [0, 1] = 0 := ckW_brs (by decide) (by decide)
  have hc : cnt brs [0, 1] 0 0 ([0, 1] : List Int).length = 1 := by have := cTr_01; unfold cTr at this; rw [if_pos hw] at this; exact this
  rcases h with h | ⟨-, h | h | ⟨-, x, hx, hu, he, ho⟩⟩
  · exact absurd hw h.1
  · rw [hc] at h; exact absurd h.1 (by decide)
  · rw [hc] at h; exact absurd h.1 (by decide)
  · have h1 : Sp brs [0, 1] oneT (2, 0) 0 ([0, 1] : List Int).length := sp_whole.2 ⟨by decide +kernel, by decide +kernel, by decide +kernel⟩
    have h2 := hu _ h1
    subst h2
    rw [one_errT] at he
    subst he
    exact ⟨rfl, by rw [ho, if_pos rfl]⟩
theorem ol_err {t n : Int} {ps : List Pd} {ws : List Int} {x : T} (hz : ckW t n ps ws = 0) (hx : Sp ps ws x (2, 0) 0 ws.length) : errT t n ps x = 0 ∨ errT t n ps x = 2 ∨ errT t n ps x = 7 := by
  obtain ⟨h1, h2, h3⟩ := sp_whole.1 hx
  unfold errT
  rw [if_pos (ckW_zero hz).1]
  have := thr_right (d := 1) (n := 0) (ws := []) h1 (by rw [h2, nums_length]; rfl)
  omega
theorem ol_word {t n : Int} {ps : List Pd} {ws : List Int} {x : T} (hz : ckW t n ps ws = 0) (hx : Sp ps ws x (2, 0) 0 ws.length) (he : errT t n ps x = 0) : wordT ps x = ws := by
  obtain ⟨h1, h2, h3⟩ := sp_whole.1 hx
  unfold errT at he
  rw [if_pos (ckW_zero hz).1] at he
  have h4 := thr_fwd (trip (show (thr ps x (2, 0) 1 0 []).1 = 0 by omega))
  unfold wordT
  rw [h4.2.2.2.2.2.1, List.nil_append, h3]
structure ROn (wr : World) (p1 k1 : Int) (a1 : Option Addr) (m1 c1 : Nat) (go : Nat) (d : Nat → Bool) (x19 x20 x21 x22 x23 x24 x25 x26 : Value) (W : World) : Prop where
  f0 : d 0 = true → x19 = (.int .i64 0)
  f1 : d 1 = true → x20 = (.bool false)
  f2 : d 2 = true → x21 = (.bool false)
  f3 : d 3 = true → x22 = (.agg #[.int .i64 p1, .int .i64 k1, .slice a1 m1 c1])
  f4 : d 4 = true → x23 = (.agg #[.int .i64 1, .int .i64 0, .slice (some ⟨go, 0, none⟩) 4 4])
  f5 : d 5 = true → x24 = (.bool true)
  f6 : d 6 = true → x25 = (.bool false)
  f7 : d 7 = true → x26 = (.bool false)
  o5_4 : d 5 = true → d 4 = true
  bw : Below wr.heap.size wr W
  tx : d 4 = true → Tx W (fun _ => True) (.agg #[.int .i64 1, .int .i64 0, .slice (some ⟨go, 0, none⟩) 4 4]) oneT


/-! ### The walk: the Go text returns true. -/
set_option maxHeartbeats 16000000 in
set_option maxRecDepth 20000 in
theorem walk (a0t : Int) (a0n : Int) (a0s : Value) (a0p : List Pd) (v1 : Value) (a1l : List Int) (w : World) (w0s : Pds w a0s a0p) (w1s : Ints w v1 a1l) :
    Calls Try.prog 5 #[.agg #[.int .i64 a0t, .int .i64 a0n, a0s], v1] w fun e w' => e = .returned (.bool true) ∧ Below w.heap.size w w' := by
  have HP : Hid (Pds w a0s a0p) := w0s
  obtain ⟨ga, gc, rfl, -, -⟩ := w0s
  obtain ⟨gm, HGM⟩ : ∃ gm, Hid (a0p.length = gm) := ⟨_, (rfl : a0p.length = _)⟩
  rw [HGM.out] at HP ⊢
  revert HP HGM
  generalize a0t = t
  generalize a0n = n
  generalize a0p = ps
  intro HP HGM
  have HI : Hid (Ints w v1 a1l) := w1s
  obtain ⟨la, lc, rfl, hlm, -⟩ := w1s
  obtain ⟨ln, HLN⟩ : ∃ ln, Hid (a1l.length = ln) := ⟨_, (rfl : a1l.length = _)⟩
  rw [HLN.out] at HI ⊢
  revert HI HLN
  generalize a1l = ws
  intro HI HLN
  have hH1 : Hid (Below w.heap.size w (w.alloc (Obj.cells #[.int .i64 t, .int .i64 n, .slice ga gm gc] 24)) ∧ (w.alloc (Obj.cells #[.int .i64 t, .int .i64 n, .slice ga gm gc] 24)).heap[w.heap.size]? = some (Obj.cells #[.int .i64 t, .int .i64 n, .slice ga gm gc] 24)) := ⟨below_alloc _ _, heap_alloc_new _ _⟩
  obtain ⟨x, HX⟩ : ∃ x, Hid (cTr t n ps ws = x) := ⟨_, (rfl : cTr t n ps ws = _)⟩
  obtain ⟨cw, HCW⟩ : ∃ cw, Hid (ckW t n ps ws = cw) := ⟨_, (rfl : ckW t n ps ws = _)⟩
  go_enter Try.func5, Try.ntmps5
  go_upto_region 1 with fail
  generalize w.alloc (Obj.cells #[.int .i64 t, .int .i64 n, .slice ga gm gc] 24) = w1 at hH1 ⊢
  have HH1 : Hid (Below w.heap.size w w1 ∧ w1.heap[w.heap.size]? = some (Obj.cells #[.int .i64 t, .int .i64 n, .slice ga gm gc] 24)) := hH1.out
  clear hH1
  go_wp2_with fail
  refine (brackets_any w1).mono ?_
  rintro _ w2 ⟨gb, rfl, hpb, hb⟩
  have HH2 : Hid (Below w.heap.size w w2 ∧ w2.heap[w.heap.size]? = some (Obj.cells #[.int .i64 t, .int .i64 n, .slice ga gm gc] 24)) := ⟨HH1.out.1.trans (hb.mono HH1.out.1.size), tbox_next HH1.out.2 hb⟩
  have HPB : Hid (Pds w2 (.slice (some ⟨gb, 0, none⟩) 2 2) brs) := hpb
  clear hpb hb HH1
  go_wp2_with fail
  have hb := below_alloc w2 (Obj.cells #[.int .i64 0, .int .i64 1] 3)
  have hc := Only_any 2 1 _ _ brs [0, 1] (w2.alloc (Obj.cells #[.int .i64 0, .int .i64 1] 3)) (HPB.out.below hb) (ints_blk (l := [0, 1]) (heap_alloc_new _ _) (by decide))
  refine hc.mono ?_
  rintro _ w3 ⟨p1, k1, a1, m1, c1, er, xo, rfl, hol, ht1, hb3⟩
  obtain ⟨rfl, rfl⟩ := ol_brs hol
  replace hb := hb.trans (hb3.mono hb.size)
  have HH3 : Hid (Below w.heap.size w w3 ∧ w3.heap[w.heap.size]? = some (Obj.cells #[.int .i64 t, .int .i64 n, .slice ga gm gc] 24)) := ⟨HH2.out.1.trans (hb.mono HH2.out.1.size), tbox_next HH2.out.2 hb⟩
  have HT0 : Hid (Tx w3 (fun _ => True) (.agg #[.int .i64 p1, .int .i64 k1, .slice a1 m1 c1]) oneT) := ht1.mono fun _ _ _ => trivial
  clear hc hb hb3 HH2 HPB hol ht1
  have hb := below_alloc w3 (Obj.cells #[.int .i64 p1, .int .i64 k1, .slice a1 m1 c1] 32)
  have HBX0 : Hid ((w3.alloc (Obj.cells #[.int .i64 p1, .int .i64 k1, .slice a1 m1 c1] 32)).heap[w3.heap.size]? = some (Obj.cells #[.int .i64 p1, .int .i64 k1, .slice a1 m1 c1] 32)) := heap_alloc_new _ _
  go_upto_region 2 with fail
  obtain ⟨w4, HW4⟩ : ∃ w4, Hid (w3.alloc (Obj.cells #[.int .i64 p1, .int .i64 k1, .slice a1 m1 c1] 32) = w4) := ⟨_, (rfl : w3.alloc (Obj.cells #[.int .i64 p1, .int .i64 k1, .slice a1 m1 c1] 32) = _)⟩
  obtain ⟨tb, HTB⟩ : ∃ tb, Hid (w3.heap.size = tb) := ⟨_, (rfl : w3.heap.size = _)⟩
  rw [HW4.out] at hb HBX0 ⊢
  rw [HTB.out] at HBX0 ⊢
  have HBX : Hid (w4.heap[tb]? = some (Obj.cells #[.int .i64 p1, .int .i64 k1, .slice a1 m1 c1] 32)) := HBX0.out
  have HT1 : Hid (Tx w4 (fun _ => True) (.agg #[.int .i64 p1, .int .i64 k1, .slice a1 m1 c1]) oneT) := HT0.out.bel hb
  have HH4 : Hid (Below w.heap.size w w4 ∧ w4.heap[w.heap.size]? = some (Obj.cells #[.int .i64 t, .int .i64 n, .slice ga gm gc] 24)) := ⟨HH3.out.1.trans (hb.mono HH3.out.1.size), tbox_next HH3.out.2 hb⟩
  clear hb HW4 HTB HBX0 HT0 HH3
  refine wp_region_free mixed (fun a0 d a W => ∃ (go : Nat) (x19 x20 x21 x22 x23 x24 x25 x26 : Value), a = ((((((((a0.put (some 19) x19).put (some 20) x20).put (some 21) x21).put (some 22) x22).put (some 23) x23).put (some 24) x24).put (some 25) x25).put (some 26) x26) ∧ Hid (ROn w4 p1 k1 a1 m1 c1 go d x19 x20 x21 x22 x23 x24 x25 x26 W)) (by kernel_rfl) ⟨0, undef, undef, undef, undef, undef, undef, undef, undef, by first | (simp only [Act.put, List.setIfInBounds_toArray, List.set_cons_zero, List.set_cons_succ]; done) | (simp only [Act.put, List.setIfInBounds_toArray, List.set_cons_zero, List.set_cons_succ]; rfl), ?_⟩ ?_ ?_
  · exact ⟨fun h => no_way h, fun h => no_way h, fun h => no_way h, fun h => no_way h, fun h => no_way h, fun h => no_way h, fun h => no_way h, fun h => no_way h, fun h => no_way h, (Below.refl _ _).drew, fun h => no_way h⟩
  · simp only [StepAll, and_true]
    refine ⟨?_, ?_, ?_, ?_, ?_, ?_, ?_, ?_⟩
    · intro d a W hI hd hdep
      obtain ⟨go, x19, x20, x21, x22, x23, x24, x25, x26, rfl, hF⟩ := hI
      clear hdep hd
      intro K hK
      simp only [Act.put, List.setIfInBounds_toArray, List.set_cons_zero, List.set_cons_succ]
      go_simp
      refine hK.out _ _ ⟨go, (.int .i64 0), x20, x21, x22, x23, x24, x25, x26, by first | (simp only [Act.put, List.setIfInBounds_toArray, List.set_cons_zero, List.set_cons_succ]; done) | (simp only [Act.put, List.setIfInBounds_toArray, List.set_cons_zero, List.set_cons_succ]; rfl), ?_⟩
      exact ⟨fun _ => rfl, fun h => hF.out.f1 (by simpa using h), fun h => hF.out.f2 (by simpa using h), fun h => hF.out.f3 (by simpa using h), fun h => hF.out.f4 (by simpa using h), fun h => hF.out.f5 (by simpa using h), fun h => hF.out.f6 (by simpa using h), fun h => hF.out.f7 (by simpa using h), fun h => by have := hF.out.o5_4 (by simpa using h); simpa using this, hF.out.bw, fun h => hF.out.tx (by simpa using h)⟩
    · intro d a W hI hd hdep
      obtain ⟨go, x19, x20, x21, x22, x23, x24, x25, x26, rfl, hF⟩ := hI
      have hd0 : d 0 = true := dep_of hdep 0 (by kernel_rfl)
      obtain rfl := hF.out.f0 hd0
      clear hdep hd hd0
      intro K hK
      simp only [Act.put, List.setIfInBounds_toArray, List.set_cons_zero, List.set_cons_succ]
      go_simp
      refine hK.out _ _ ⟨go, (.int .i64 0), (.bool false), x21, x22, x23, x24, x25, x26, by first | (simp only [Act.put, List.setIfInBounds_toArray, List.set_cons_zero, List.set_cons_succ]; done) | (simp only [Act.put, List.setIfInBounds_toArray, List.set_cons_zero, List.set_cons_succ]; rfl), ?_⟩
      exact ⟨fun h => hF.out.f0 (by simpa using h), fun _ => rfl, fun h => hF.out.f2 (by simpa using h), fun h => hF.out.f3 (by simpa using h), fun h => hF.out.f4 (by simpa using h), fun h => hF.out.f5 (by simpa using h), fun h => hF.out.f6 (by simpa using h), fun h => hF.out.f7 (by simpa using h), fun h => by have := hF.out.o5_4 (by simpa using h); simpa using this, hF.out.bw, fun h => hF.out.tx (by simpa using h)⟩
    · intro d a W hI hd hdep
      obtain ⟨go, x19, x20, x21, x22, x23, x24, x25, x26, rfl, hF⟩ := hI
      have hd1 : d 1 = true := dep_of hdep 1 (by kernel_rfl)
      obtain rfl := hF.out.f1 hd1
      clear hdep hd hd1
      intro K hK
      simp only [Act.put, List.setIfInBounds_toArray, List.set_cons_zero, List.set_cons_succ]
      go_simp
      refine hK.out _ _ ⟨go, x19, (.bool false), (.bool false), x22, x23, x24, x25, x26, by first | (simp only [Act.put, List.setIfInBounds_toArray, List.set_cons_zero, List.set_cons_succ]; done) | (simp only [Act.put, List.setIfInBounds_toArray, List.set_cons_zero, List.set_cons_succ]; rfl), ?_⟩
      exact ⟨fun h => hF.out.f0 (by simpa using h), fun h => hF.out.f1 (by simpa using h), fun _ => rfl, fun h => hF.out.f3 (by simpa using h), fun h => hF.out.f4 (by simpa using h), fun h => hF.out.f5 (by simpa using h), fun h => hF.out.f6 (by simpa using h), fun h => hF.out.f7 (by simpa using h), fun h => by have := hF.out.o5_4 (by simpa using h); simpa using this, hF.out.bw, fun h => hF.out.tx (by simpa using h)⟩
    · intro d a W hI hd hdep
      obtain ⟨go, x19, x20, x21, x22, x23, x24, x25, x26, rfl, hF⟩ := hI
      have hd2 : d 2 = true := dep_of hdep 2 (by kernel_rfl)
      obtain rfl := hF.out.f2 hd2
      have hbx := tbox_next HBX.out hF.out.bw
      have q0 := tcell_blk hbx 0
      have q1 := tcell_blk hbx 1
      have q2 := tcell_blk hbx 2
      simp only [List.getElem?_toArray, List.getElem?_cons_zero, List.getElem?_cons_succ] at q0 q1 q2
      clear hdep hd hd2
      intro K hK
      simp only [Act.put, List.setIfInBounds_toArray, List.set_cons_zero, List.set_cons_succ]
      go_simp
      refine hK.out _ _ ⟨go, x19, x20, (.bool false), (.agg #[.int .i64 p1, .int .i64 k1, .slice a1 m1 c1]), x23, x24, x25, x26, by first | (simp only [Act.put, List.setIfInBounds_toArray, List.set_cons_zero, List.set_cons_succ]; done) | (simp only [Act.put, List.setIfInBounds_toArray, List.set_cons_zero, List.set_cons_succ]; rfl), ?_⟩
      exact ⟨fun h => hF.out.f0 (by simpa using h), fun h => hF.out.f1 (by simpa using h), fun h => hF.out.f2 (by simpa using h), fun _ => rfl, fun h => hF.out.f4 (by simpa using h), fun h => hF.out.f5 (by simpa using h), fun h => hF.out.f6 (by simpa using h), fun h => hF.out.f7 (by simpa using h), fun h => by have := hF.out.o5_4 (by simpa using h); simpa using this, hF.out.bw, fun h => hF.out.tx (by simpa using h)⟩
    · intro d a W hI hd hdep
      obtain ⟨go, x19, x20, x21, x22, x23, x24, x25, x26, rfl, hF⟩ := hI
      have hd2 : d 2 = true := dep_of hdep 2 (by kernel_rfl)
      obtain rfl := hF.out.f2 hd2
      have HD5 : Hid (d 5 = false) := no_later hF.out.o5_4 hd
      clear hdep hd hd2
      intro K hK
      simp only [Act.put, List.setIfInBounds_toArray, List.set_cons_zero, List.set_cons_succ]
      go_simp
      refine (one_any W).mono ?_
      rintro _ W2 ⟨go9, rfl, hpo, hB⟩
      have hbw := hF.out.bw
      go_simp
      refine hK.out _ _ ⟨go9, x19, x20, (.bool false), x22, (.agg #[.int .i64 1, .int .i64 0, .slice (some ⟨go9, 0, none⟩) 4 4]), x24, x25, x26, by first | (simp only [Act.put, List.setIfInBounds_toArray, List.set_cons_zero, List.set_cons_succ]; done) | (simp only [Act.put, List.setIfInBounds_toArray, List.set_cons_zero, List.set_cons_succ]; rfl), ?_⟩
      exact ⟨fun h => hF.out.f0 (by simpa using h), fun h => hF.out.f1 (by simpa using h), fun h => hF.out.f2 (by simpa using h), fun h => hF.out.f3 (by simpa using h), fun _ => rfl, fun h => by have := HD5.out; simp [this] at h, fun h => hF.out.f6 (by simpa using h), fun h => hF.out.f7 (by simpa using h), fun _ => by simp, hbw.trans (hB.mono hbw.size), fun _ => hpo⟩
    · intro d a W hI hd hdep
      obtain ⟨go, x19, x20, x21, x22, x23, x24, x25, x26, rfl, hF⟩ := hI
      have hd2 : d 2 = true := dep_of hdep 2 (by kernel_rfl)
      have hd3 : d 3 = true := dep_of hdep 3 (by kernel_rfl)
      have hd4 : d 4 = true := dep_of hdep 4 (by kernel_rfl)
      obtain rfl := hF.out.f2 hd2
      obtain rfl := hF.out.f3 hd3
      obtain rfl := hF.out.f4 hd4
      have e5_4 := hd4
      have hbw := hF.out.bw
      have htx := hF.out.tx hd4
      clear hdep hd hd2 hd3 hd4
      intro K hK
      simp only [Act.put, List.setIfInBounds_toArray, List.set_cons_zero, List.set_cons_succ]
      go_simp
      refine (same_true oneT _ _ _ _ W (HT1.out.bel hbw) htx).mono ?_
      rintro _ W2 ⟨rfl, hB⟩
      go_simp
      refine hK.out _ _ ⟨go, x19, x20, (.bool false), (.agg #[.int .i64 p1, .int .i64 k1, .slice a1 m1 c1]), (.agg #[.int .i64 1, .int .i64 0, .slice (some ⟨go, 0, none⟩) 4 4]), (.bool true), x25, x26, by first | (simp only [Act.put, List.setIfInBounds_toArray, List.set_cons_zero, List.set_cons_succ]; done) | (simp only [Act.put, List.setIfInBounds_toArray, List.set_cons_zero, List.set_cons_succ]; rfl), ?_⟩
      exact ⟨fun h => hF.out.f0 (by simpa using h), fun h => hF.out.f1 (by simpa using h), fun h => hF.out.f2 (by simpa using h), fun h => hF.out.f3 (by simpa using h), fun h => hF.out.f4 (by simpa using h), fun _ => rfl, fun h => hF.out.f6 (by simpa using h), fun h => hF.out.f7 (by simpa using h), fun _ => by simpa using e5_4, hbw.trans (hB.mono hbw.size), fun h => htx.bel hB⟩
    · intro d a W hI hd hdep
      obtain ⟨go, x19, x20, x21, x22, x23, x24, x25, x26, rfl, hF⟩ := hI
      have hd2 : d 2 = true := dep_of hdep 2 (by kernel_rfl)
      have hd5 : d 5 = true := dep_of hdep 5 (by kernel_rfl)
      obtain rfl := hF.out.f2 hd2
      obtain rfl := hF.out.f5 hd5
      clear hdep hd hd2 hd5
      intro K hK
      simp only [Act.put, List.setIfInBounds_toArray, List.set_cons_zero, List.set_cons_succ]
      go_simp
      refine hK.out _ _ ⟨go, x19, x20, (.bool false), x22, x23, (.bool true), (.bool false), x26, by first | (simp only [Act.put, List.setIfInBounds_toArray, List.set_cons_zero, List.set_cons_succ]; done) | (simp only [Act.put, List.setIfInBounds_toArray, List.set_cons_zero, List.set_cons_succ]; rfl), ?_⟩
      exact ⟨fun h => hF.out.f0 (by simpa using h), fun h => hF.out.f1 (by simpa using h), fun h => hF.out.f2 (by simpa using h), fun h => hF.out.f3 (by simpa using h), fun h => hF.out.f4 (by simpa using h), fun h => hF.out.f5 (by simpa using h), fun _ => rfl, fun h => hF.out.f7 (by simpa using h), fun h => by have := hF.out.o5_4 (by simpa using h); simpa using this, hF.out.bw, fun h => hF.out.tx (by simpa using h)⟩
    · intro d a W hI hd hdep
      obtain ⟨go, x19, x20, x21, x22, x23, x24, x25, x26, rfl, hF⟩ := hI
      have hd2 : d 2 = true := dep_of hdep 2 (by kernel_rfl)
      have hd6 : d 6 = true := dep_of hdep 6 (by kernel_rfl)
      obtain rfl := hF.out.f2 hd2
      obtain rfl := hF.out.f6 hd6
      clear hdep hd hd2 hd6
      intro K hK
      simp only [Act.put, List.setIfInBounds_toArray, List.set_cons_zero, List.set_cons_succ]
      go_simp
      refine hK.out _ _ ⟨go, x19, x20, (.bool false), x22, x23, x24, (.bool false), (.bool false), by first | (simp only [Act.put, List.setIfInBounds_toArray, List.set_cons_zero, List.set_cons_succ]; done) | (simp only [Act.put, List.setIfInBounds_toArray, List.set_cons_zero, List.set_cons_succ]; rfl), ?_⟩
      exact ⟨fun h => hF.out.f0 (by simpa using h), fun h => hF.out.f1 (by simpa using h), fun h => hF.out.f2 (by simpa using h), fun h => hF.out.f3 (by simpa using h), fun h => hF.out.f4 (by simpa using h), fun h => hF.out.f5 (by simpa using h), fun h => hF.out.f6 (by simpa using h), fun _ => rfl, fun h => by have := hF.out.o5_4 (by simpa using h); simpa using this, hF.out.bw, fun h => hF.out.tx (by simpa using h)⟩
  · intro d a W hI hall
    obtain ⟨go, x19, x20, x21, x22, x23, x24, x25, x26, rfl, hF⟩ := hI
    simp only [List.length_cons, List.length_nil] at hall
    obtain rfl := hF.out.f0 (hall 0 (by omega))
    obtain rfl := hF.out.f1 (hall 1 (by omega))
    obtain rfl := hF.out.f2 (hall 2 (by omega))
    obtain rfl := hF.out.f3 (hall 3 (by omega))
    obtain rfl := hF.out.f4 (hall 4 (by omega))
    obtain rfl := hF.out.f5 (hall 5 (by omega))
    obtain rfl := hF.out.f6 (hall 6 (by omega))
    obtain rfl := hF.out.f7 (hall 7 (by omega))
    have HB5 : Hid (Below w4.heap.size w4 W) := hF.out.bw
    clear hF hall
    simp only [Act.put, List.setIfInBounds_toArray, List.set_cons_zero, List.set_cons_succ]
    have hb := HB5.out
    obtain ⟨w5, HW5⟩ : ∃ w5, Hid (W = w5) := ⟨_, (rfl : W = _)⟩
    rw [HW5.out] at hb ⊢
    clear HB5
    have HH5 : Hid (Below w.heap.size w w5 ∧ w5.heap[w.heap.size]? = some (Obj.cells #[.int .i64 t, .int .i64 n, .slice ga gm gc] 24)) := ⟨HH4.out.1.trans (hb.mono HH4.out.1.size), tbox_next HH4.out.2 hb⟩
    clear HH4 hb HW5
    have k0 := tcell_blk HH5.out.2 0
    have k1 := tcell_blk HH5.out.2 1
    have k2 := tcell_blk HH5.out.2 2
    simp only [List.getElem?_toArray, List.getElem?_cons_zero, List.getElem?_cons_succ] at k0 k1 k2
    have hc := CTrees_any t n _ _ ps ws w5 (HP.out.below HH5.out.1) (HI.out.below HH5.out.1)
    rw [HX.out, HCW.out] at hc
    go_wp2_with fail
    refine hc.mono ?_
    rintro _ w6 ⟨rfl, hb⟩
    have HH6 : Hid (Below w.heap.size w w6 ∧ w6.heap[w.heap.size]? = some (Obj.cells #[.int .i64 t, .int .i64 n, .slice ga gm gc] 24)) := ⟨HH5.out.1.trans (hb.mono HH5.out.1.size), tbox_next HH5.out.2 hb⟩
    clear hc hb HH5 k0 k1 k2 HT1 HBX
    have j0 := tcell_blk HH6.out.2 0
    have j1 := tcell_blk HH6.out.2 1
    have j2 := tcell_blk HH6.out.2 2
    simp only [List.getElem?_toArray, List.getElem?_cons_zero, List.getElem?_cons_succ] at j0 j1 j2
    have hc := Only_any t n _ _ ps ws w6 (HP.out.below HH6.out.1) (HI.out.below HH6.out.1)
    go_wp2_with fail
    refine hc.mono ?_
    rintro _ w7 ⟨p2, k2, a2, m2, c2, er, xo, rfl, hol, ht2, hb⟩
    have HH7 : Hid (Below w.heap.size w w7 ∧ w7.heap[w.heap.size]? = some (Obj.cells #[.int .i64 t, .int .i64 n, .slice ga gm gc] 24)) := ⟨HH6.out.1.trans (hb.mono HH6.out.1.size), tbox_next HH6.out.2 hb⟩
    have HT7 : Hid (Tx w7 (fun _ => True) (.agg #[.int .i64 p2, .int .i64 k2, .slice a2 m2 c2]) xo) := ht2.mono fun _ _ _ => trivial
    have HOL : Hid (OlQ t n ps ws er xo) := hol
    clear hc hb HH6 hol ht2 j0 j1 j2
    have hb := below_alloc w7 (Obj.cells #[.int .i64 p2, .int .i64 k2, .slice a2 m2 c2] 32)
    have HB8 : Hid ((w7.alloc (Obj.cells #[.int .i64 p2, .int .i64 k2, .slice a2 m2 c2] 32)).heap[w7.heap.size]? = some (Obj.cells #[.int .i64 p2, .int .i64 k2, .slice a2 m2 c2] 32)) := heap_alloc_new _ _
    go_upto_region 6 with fail
    obtain ⟨w8, HW8⟩ : ∃ w8, Hid (w7.alloc (Obj.cells #[.int .i64 p2, .int .i64 k2, .slice a2 m2 c2] 32) = w8) := ⟨_, (rfl : w7.alloc (Obj.cells #[.int .i64 p2, .int .i64 k2, .slice a2 m2 c2] 32) = _)⟩
    obtain ⟨ub, HUB⟩ : ∃ ub, Hid (w7.heap.size = ub) := ⟨_, (rfl : w7.heap.size = _)⟩
    rw [HW8.out] at hb HB8 ⊢
    rw [HUB.out] at HB8 ⊢
    have HH8 : Hid (Below w.heap.size w w8 ∧ w8.heap[w.heap.size]? = some (Obj.cells #[.int .i64 t, .int .i64 n, .slice ga gm gc] 24)) := ⟨HH7.out.1.trans (hb.mono HH7.out.1.size), tbox_next HH7.out.2 hb⟩
    have HT8 : Hid (Tx w8 (fun _ => True) (.agg #[.int .i64 p2, .int .i64 k2, .slice a2 m2 c2]) xo) := HT7.out.bel hb
    clear hb HW8 HUB HT7 HH7
    rcases HOL.out with ⟨h1, h2, h3⟩ | ⟨h1, ⟨h2, h3, h4⟩ | ⟨h2, h3, h4⟩ | ⟨h2, x0, hx, hu, h3, h4⟩⟩
    · obtain rfl : x = 0 := by rw [← HX.out]; unfold cTr; rw [if_neg h1]
      obtain rfl : er = cw := by rw [h2, HCW.out]
      have hz : (er != 0) = true := by rw [← HCW.out]; simp; exact h1
      have hz2 : (er == er) = true := by simp
      clear h1 h2 h3
      go_wp2_with fail
      go_ret
      exact ⟨by simp, HH8.out.1⟩
    · obtain rfl : cw = 0 := by rw [← HCW.out]; exact h1
      obtain rfl : x = 0 := by rw [← HX.out]; unfold cTr; rw [if_pos h1]; exact h2
      subst h3
      clear h1 h2 h4
      go_wp2_with fail
      go_ret
      exact ⟨by simp, HH8.out.1⟩
    · obtain rfl : cw = 0 := by rw [← HCW.out]; exact h1
      obtain rfl : x = 2 := by rw [← HX.out]; unfold cTr; rw [if_pos h1]; exact h2
      subst h3
      clear h1 h2 h4
      simp only [show ((2 : Nat) : Int) = 2 from rfl]
      go_wp2_with fail
      go_ret
      exact ⟨by simp, HH8.out.1⟩
    · obtain rfl : cw = 0 := by rw [← HCW.out]; exact h1
      obtain rfl : x = 1 := by rw [← HX.out]; unfold cTr; rw [if_pos h1]; exact h2
      simp only [Int.natCast_one]
      rcases ol_err h1 hx with he | he | he
      · obtain rfl : er = 0 := by rw [h3, he]
        rw [if_pos rfl] at h4
        subst h4
        have HWD := ol_word h1 hx he
        have HWL : Hid (ws.length ≤ 20) := (ckW_zero h1).2.1
        have HER : Hid (errT t n ps xo = 0) := he
        clear h1 h2 h3 hx hu he
        have k0 := tcell_blk HH8.out.2 0
        have k1 := tcell_blk HH8.out.2 1
        have k2 := tcell_blk HH8.out.2 2
        simp only [List.getElem?_toArray, List.getElem?_cons_zero, List.getElem?_cons_succ] at k0 k1 k2
        have u0 := tcell_blk HB8.out 0
        have u1 := tcell_blk HB8.out 1
        have u2 := tcell_blk HB8.out 2
        simp only [List.getElem?_toArray, List.getElem?_cons_zero, List.getElem?_cons_succ] at u0 u1 u2
        have hc := Yield_any t n _ ps _ xo (fun _ => True) w8 (HP.out.below HH8.out.1) HT8.out
        rw [HER.out] at hc
        go_wp2_with fail
        refine hc.mono ?_
        rintro _ w9 ⟨ya, yn, yc, rfl, hb, hy⟩
        rw [if_pos HER.out, HWD] at hy
        have HH9 : Hid (Below w.heap.size w w9 ∧ w9.heap[w.heap.size]? = some (Obj.cells #[.int .i64 t, .int .i64 n, .slice ga gm gc] 24)) := ⟨HH8.out.1.trans (hb.mono HH8.out.1.size), tbox_next HH8.out.2 hb⟩
        have HY : Hid (Nms w9 (.slice ya yn yc) ws) := nms_of_own hy (by have := HWL.out; omega)
        obtain ⟨_, _, hyl⟩ := own_len hy
        simp only [Value.slice.injEq] at hyl
        obtain ⟨-, rfl, -⟩ := hyl
        clear hc hb hy HH8 k0 k1 k2 u0 u1 u2
        have hc := equalI_same _ (.slice la ln lc) ws w9 HY.out (HI.out.below HH9.out.1)
        go_wp2_with fail
        refine hc.mono ?_
        rintro _ w10 ⟨rfl, hb⟩
        have HB10 : Hid (Below w.heap.size w w10) := HH9.out.1.trans (hb.mono HH9.out.1.size)
        clear hc hb
        go_wp2_with fail
        go_ret
        exact ⟨by simp, HB10.out⟩
      · obtain rfl : er = 2 := by rw [h3, he]
        clear h1 h2 h3 h4 hx hu he
        go_wp2_with fail
        go_ret
        exact ⟨by simp, HH8.out.1⟩
      · obtain rfl : er = 7 := by rw [h3, he]
        clear h1 h2 h3 h4 hx hu he
        go_wp2_with fail
        go_ret
        exact ⟨by simp, HH8.out.1⟩

/-! ### What the walk gives, for every argument -/
set_option maxRecDepth 100000 in
theorem contract (H : Type) (enc : TypeId × Value → H) (W : World) (base : Nat) (args : Array Value) (ds gs : List (DataW H)) (before : List MemPlace)
    (hval : ∀ (j : Nat) t v, Try.f5.params[j]? = some t → args[j]? = some v → Value.okWide Try.prog W .any base t v)
    (hW : DataW.Whole enc Try.prog Try.f5.params.toList Rows.countOnlySpec.vars false W args.toList ds gs before) (hsz : (DataW.weightsEach Try.prog (Try.f5.params.toList ++ Rows.countOnlySpec.plain.varTypes Try.prog) (ds ++ gs)).all (· ≤ reachBytes) = true) :
    Calls Try.prog 5 args W fun e W' => ∃ v, e = .returned v ∧ Rows.countOnlySpec.post enc Try.prog Try.f5 false true false false W args v W' := by
  have hW' := hW
  obtain ⟨p, q, hA0, hV, rfl, hfz, hnd⟩ := hW
  have hA : DataW.TrodAll enc Try.prog W 0 (fun _ => true) true Try.f5.params.toList args.toList ds p := hA0
  rw [Try.params5] at hA hval hsz
  obtain ⟨v0, vs0, d0, ds0, p0, q0, hargs, rfl, rfl, h0, r0⟩ := trodAll_cons hA
  obtain ⟨v1, vs1, d1, ds1, p1, q1, rfl, rfl, rfl, h1, r1⟩ := trodAll_cons r0
  obtain ⟨rfl, rfl, rfl⟩ := trodAll_nil r1
  obtain rfl : args = #[v0, v1] := by cases args; simp_all
  obtain ⟨rfl, rfl⟩ := trodVars_none hV
  have k0 := h0
  have lt0 : ∀ x ∈ p0, x.block < W.heap.size := by obtain ⟨m, hm⟩ := k0; exact DataW.trod_lt m _ _ _ hm
  obtain ⟨a0t, a0n, a0s, a0p, rfl, w0s⟩ := open_gram (hval 0 24 v0 rfl rfl) h0
  have k1 := h1
  have lt1 : ∀ x ∈ p1, x.block < W.heap.size := by obtain ⟨m, hm⟩ := k1; exact DataW.trod_lt m _ _ _ hm
  obtain ⟨a1l, w1s⟩ := open_intsv (hval 1 25 v1 rfl rfl) h1
  clear hA0
  refine (walk a0t a0n a0s a0p _ a1l W w0s w1s).mono fun e W' ⟨he, bel⟩ => ?_
  subst he
  exact ⟨_, rfl, _, _, _, [], _, [], hW', trodAll_mk1 (shut_bool Try.underlying4 _), (trodAll_cons_mk (Below.trod laidOut (by kernel_rfl) (of_decide_eq_true (by kernel_rfl)) k0 bel lt0) (trodAll_cons_mk (Below.trod laidOut (by kernel_rfl) (of_decide_eq_true (by kernel_rfl)) k1 bel lt1) trodAll_mk0)), rfl, bel.frame _, fun h => by cases h⟩

/-! ### The row's step -/
set_option maxRecDepth 100000 in
theorem lifted (os : Os) (started : os.Started) (H : Type) (enc : TypeId × Value → H) :
    ReturnsInHanded {} Try.checked os 5 .any (Rows.countOnlySpec.pre6 enc Try.prog Try.f5 Rows.countOnlyRow.domain false) (Rows.countOnlySpec.post enc Try.prog Try.f5 false true false false) := by
  refine returnsInHanded_of_change_sized (C := Try.checked) own started (by kernel_rfl) Try.func5
    (ChangeSpec.witness6 (enc := enc) (C := Try.checked) false ⟨#[], #[.agg #[.int .i64 0, .int .i64 0, .slice none 0 0], .slice none 0 0], []⟩ 8 (by kernel_rfl) (by kernel_rfl) (by kernel_rfl) (by kernel_rfl)) ?_
  intro W base args ds gs before hval hW hcnd hsz _
  exact contract H enc W base args ds gs before hval hW hsz

theorem over : Rows.countOnlyRow.holds Try.pinned (OpenSpec.ofChange Rows.countOnlySpec) :=
  OpenClaim.holds_of_wide 5 Try.f5 rfl rfl rfl rfl rfl rfl rfl ⟨rfl, rfl, rfl, rfl, rfl⟩ rfl rfl rfl rfl rfl (by kernel_rfl) Try.func5 (by kernel_rfl)
    (of_decide_eq_true (by kernel_rfl)) (by unfold Func.isWrapper; first | (rw [if_pos (by decide +kernel)]; kernel_rfl) | (rw [if_neg (by decide +kernel)]; exact ⟨rfl, rfl⟩))
    (fun os started H enc _ => lifted os started H enc)

end Go.Proofs.Ytpfehghicaaghaa.countOnly
namespace Go.Proofs.Ytpfehghicaaghaa
/-- The given statement. -/
theorem countOnly_holds : Rows.CountOnlySaid := countOnly.over
#print axioms countOnly_holds
end Go.Proofs.Ytpfehghicaaghaa
