/-
  LrOne returns true whatever grammar and word are handed in, and changes nothing that it was handed; no condition.
-/
import Derived.Test.YtpbnnmfjahckmaaRows
import Derived.WalkKit
import Derived.ProofKit
import Derived.OpenShut
import Derived.ShutString
import Derived.SizedLaws
import Derived.ChangeOld
import Derived.Below
import Derived.Carry
import Derived.WalkLawsBesides
import Derived.WalkSpells
import Derived.Test.YtpbnnmfjahckmaaGrA
import Derived.Deep.Cut
import Derived.Test.YtpbnnmfjahckmaaLrLaw
namespace Go.Proofs.Ytpbnnmfjahckmaa.lrOne
open Go.ChangeShapes Go.WideShapes Go.ChangeAt Go.RowKit
open Go.ChangeMaps (open_string shut_string)
open Cg
set_option linter.unusedVariables false

theorem own : ownKnob Try.prog.godebug = none := by kernel_rfl
theorem laidOut : laidOutB Try.prog = true := by kernel_rfl

structure RL2 (wr : World) (tb : Nat) (ao : Option Addr) (an ac : Nat) (go : Option Addr) (gn gc : Nat) (g2 : Nat) (d : Nat → Bool) (x16 x17 x18 x19 x20 x21 x22 x23 x24 x25 x26 x27 x28 x29 : Value) (W : World) : Prop where
  f0 : d 0 = true → x16 = (.bool true)
  f1 : d 1 = true → x17 = (.bool false)
  f2 : d 2 = true → x18 = (.bool false)
  f3 : d 3 = true → x19 = (.pointer (some ⟨tb, 0, none⟩))
  f4 : d 4 = true → x20 = (.slice ao an ac)
  f5 : d 5 = true → x21 = (.int .i64 (an : Int))
  f6 : d 6 = true → x22 = (.bool false)
  f7 : d 7 = true → x23 = (.bool false)
  f8 : d 8 = true → x24 = (.bool false)
  f9 : d 9 = true → x25 = (.agg #[.int .i64 2, .int .i64 1, .slice (some ⟨g2, 0, none⟩) 2 2])
  f10 : d 10 = true → x26 = (.agg #[.slice ao an ac, .slice go gn gc])
  f11 : d 11 = true → x27 = (.int .i64 0)
  f12 : d 12 = true → x28 = (.bool false)
  f13 : d 13 = true → x29 = (.bool false)
  k11 : d 11 = true → d 9 = true
  bl : Below wr.heap.size wr W
  q9 : d 9 = true → Pds W (.slice (some ⟨g2, 0, none⟩) 2 2) brs
  q11 : d 11 = true → True
/-! ### The walk: the Go text returns true. -/
set_option maxHeartbeats 16000000 in
set_option maxRecDepth 20000 in
theorem walk (a0t : Int) (a0n : Int) (a0s : Value) (a0p : List Pd) (v1 : Value) (a1l : List Int) (w : World) (w0s : Pds w a0s a0p) (w1s : Ints w v1 a1l) :
    Calls Try.prog 4 #[.agg #[.int .i64 a0t, .int .i64 a0n, a0s], v1] w fun e w' => e = .returned (.bool true) ∧ Below w.heap.size w w' := by
  have HP : Hid (Pds w a0s a0p) := w0s
  obtain ⟨ga, gc0, rfl, -, -⟩ := w0s
  obtain ⟨gm, HGM⟩ : ∃ gm, Hid (a0p.length = gm) := ⟨_, (rfl : a0p.length = _)⟩
  rw [HGM.out] at HP ⊢
  revert HP HGM
  generalize a0t = t
  generalize a0n = n
  generalize a0p = ps
  intro HP HGM
  have HI : Hid (Ints w v1 a1l) := w1s
  obtain ⟨la, lc, rfl, hlm, -⟩ := w1s
  obtain ⟨ln, HLN⟩ : ∃ ln, Hid (a1l.length = ln) := ⟨_, (rfl : a1l.length = _)⟩
  rw [HLN.out] at HI ⊢
  revert HI HLN
  generalize a1l = ws
  intro HI HLN
  have hH1 : Hid (Below w.heap.size w (w.alloc (Obj.cells #[.int .i64 t, .int .i64 n, .slice ga gm gc0] 24)) ∧ (w.alloc (Obj.cells #[.int .i64 t, .int .i64 n, .slice ga gm gc0] 24)).heap[w.heap.size]? = some (Obj.cells #[.int .i64 t, .int .i64 n, .slice ga gm gc0] 24)) := ⟨below_alloc _ _, heap_alloc_new _ _⟩
  obtain ⟨ce, HCE⟩ : ∃ ce, Hid (chk t n ps = ce) := ⟨_, (rfl : chk t n ps = _)⟩
  obtain ⟨cw, HCW⟩ : ∃ cw, Hid (ckW t n ps ws = cw) := ⟨_, (rfl : ckW t n ps ws = _)⟩
  go_enter Try.func4, Try.ntmps4
  go_upto_region 1 with fail
  generalize w.alloc (Obj.cells #[.int .i64 t, .int .i64 n, .slice ga gm gc0] 24) = w1 at hH1 ⊢
  have HH1 : Hid (Below w.heap.size w w1 ∧ w1.heap[w.heap.size]? = some (Obj.cells #[.int .i64 t, .int .i64 n, .slice ga gm gc0] 24)) := hH1.out
  clear hH1
  go_wp2_with fail
  refine (brackets_any w1).mono ?_
  rintro _ w2 ⟨gb, rfl, hpb, hb⟩
  have HH2 : Hid (Below w.heap.size w w2 ∧ w2.heap[w.heap.size]? = some (Obj.cells #[.int .i64 t, .int .i64 n, .slice ga gm gc0] 24)) := ⟨HH1.out.1.trans (hb.mono HH1.out.1.size), mbox_next HH1.out.2 hb⟩
  have HPB : Hid (Pds w2 (.slice (some ⟨gb, 0, none⟩) 2 2) brs) := hpb
  clear hpb hb HH1
  have hc := calm_ok 2 1 _ brs w2 HPB.out chk_brs
  go_wp2_with fail
  refine hc.mono ?_
  rintro e3 w3 ⟨hb3, E, F, V0, R, M, ks, ss, nx, hfa, hau, hcase⟩
  obtain ⟨hle, hnx, av, gv, rfl, har, hrw⟩ : ks.length ≤ 200 ∧ nx.length = ks.length ∧ ∃ av gv, e3 = .returned (.tuple #[.agg #[av, gv], .bool (decide (ftN 2 brs ss nx ks.length = []))]) ∧ ArsF w2.heap.size w3 av (actsT 2 ks.length brs ss nx) ∧ RwsF w2.heap.size w3 gv (gotoT 2 ks.length nx) := by
    rcases hcase with ⟨h200, -⟩ | h
    · exact absurd (br_few hau.st) (by omega)
    · exact h
  have hAu : Au 2 1 brs E F ks ss nx := ⟨hau, hnx, chk_brs⟩
  rw [show decide (ftN 2 brs ss nx ks.length = []) = true by rw [br_calm hAu]; rfl]
  have HOK : Hid (chkT 2 1 brs (actsT 2 ks.length brs ss nx) (gotoT 2 ks.length nx) = 0) := made_ok hAu hle
  have h2 := br_two hAu
  have hA := har.ars
  have hG := hrw.rws
  have hal : (actsT 2 ks.length brs ss nx).length = ks.length := by simp [actsT]
  generalize actsT 2 ks.length brs ss nx = al at HOK hA hal
  generalize gotoT 2 ks.length nx = gl at HOK hG
  obtain ⟨ao, ac, rfl⟩ : ∃ ao ac, av = .slice ao al.length ac := by obtain ⟨ao, c, e, -⟩ := hA; exact ⟨ao, c, e⟩
  obtain ⟨go, gc, rfl⟩ : ∃ go gc, gv = .slice go gl.length gc := by obtain ⟨ao, c, e, -⟩ := hG; exact ⟨ao, c, e⟩
  have HA3 : Hid (Ars w3 (.slice ao al.length ac) al) := hA
  have HG3 : Hid (Rws w3 (.slice go gl.length gc) gl) := hG
  obtain ⟨an, HANE⟩ : ∃ an, Hid (al.length = an) := ⟨_, (rfl : al.length = _)⟩
  obtain ⟨gn, HGNE⟩ : ∃ gn, Hid (gl.length = gn) := ⟨_, (rfl : gl.length = _)⟩
  have HAN2 : Hid (2 ≤ an) := by have := HANE.out; show _ ≤ _; omega
  have HLC0 : Hid (∀ W g2, Below w3.heap.size w3 W → Pds W (.slice (some ⟨g2, 0, none⟩) 2 2) brs → Calls Try.prog 15 #[.agg #[.int .i64 2, .int .i64 1, .slice (some ⟨g2, 0, none⟩) 2 2], .agg #[.slice ao an ac, .slice go gn gc]] W fun e w' => e = .returned (.int .i64 0) ∧ Below W.heap.size W w') := fun W g2 hW hp => by
    have h := LCheck_any 2 1 (.slice (some ⟨g2, 0, none⟩) 2 2) brs (.slice ao al.length ac) (.slice go gl.length gc) al gl W hp (HA3.out.below hW) (HG3.out.below hW)
    rw [HOK.out, HANE.out, HGNE.out] at h
    exact h
  rw [HANE.out, HGNE.out]
  have HH3 : Hid (Below w.heap.size w w3 ∧ w3.heap[w.heap.size]? = some (Obj.cells #[.int .i64 t, .int .i64 n, .slice ga gm gc0] 24)) := ⟨HH2.out.1.trans (hb3.mono HH2.out.1.size), mbox_next HH2.out.2 hb3⟩
  have hab := below_alloc w3 (Obj.cells #[.slice ao an ac, .slice go gn gc] 28)
  have HH4 : Hid (Below w.heap.size w (w3.alloc (Obj.cells #[.slice ao an ac, .slice go gn gc] 28)) ∧ (w3.alloc (Obj.cells #[.slice ao an ac, .slice go gn gc] 28)).heap[w.heap.size]? = some (Obj.cells #[.int .i64 t, .int .i64 n, .slice ga gm gc0] 24)) := ⟨HH3.out.1.trans (hab.mono HH3.out.1.size), mbox_next HH3.out.2 hab⟩
  have HTB : Hid (_) := heap_alloc_new w3 (Obj.cells #[.slice ao an ac, .slice go gn gc] 28)
  have HLC : Hid (∀ W g2, Below (w3.alloc (Obj.cells #[.slice ao an ac, .slice go gn gc] 28)).heap.size (w3.alloc (Obj.cells #[.slice ao an ac, .slice go gn gc] 28)) W → Pds W (.slice (some ⟨g2, 0, none⟩) 2 2) brs → Calls Try.prog 15 #[.agg #[.int .i64 2, .int .i64 1, .slice (some ⟨g2, 0, none⟩) 2 2], .agg #[.slice ao an ac, .slice go gn gc]] W fun e w' => e = .returned (.int .i64 0) ∧ Below W.heap.size W w') := fun W g2 hW hp => HLC0.out W g2 (hab.trans (hW.mono hab.size)) hp
  clear hc hcase hb3 hfa hau hAu har hrw h2 hA hG hal HH2 HH3 HA3 HG3 HLC0 hab hnx hle HPB HOK
  go_upto_region 2 with fail
  obtain ⟨tb, HTBE⟩ : ∃ z, Hid (w3.heap.size = z) := ⟨_, (rfl : w3.heap.size = _)⟩
  obtain ⟨w4, HW4⟩ : ∃ z, Hid (w3.alloc (Obj.cells #[.slice ao an ac, .slice go gn gc] 28) = z) := ⟨_, (rfl : w3.alloc _ = _)⟩
  rw [HW4.out] at HH4 HTB HLC ⊢
  rw [HTBE.out] at HTB ⊢
  have t0 := mcell_blk HTB.out 0
  have t1 := mcell_blk HTB.out 1
  simp only [List.getElem?_toArray, List.getElem?_cons_zero, List.getElem?_cons_succ] at t0 t1
  have HT0 : Hid (tb < w4.heap.size ∧ w4.cell? ⟨tb, 0, none⟩ = some (.slice ao an ac)) := ⟨mheap_lt HTB.out, t0⟩
  have HT1 : Hid (tb < w4.heap.size ∧ w4.cell? ⟨tb, 1, none⟩ = some (.slice go gn gc)) := ⟨mheap_lt HTB.out, t1⟩
  clear HW4 HTBE t0 t1 HTB
  refine wp_region_free mixed (fun a0 d a W => ∃ (g2 : Nat) (x16 x17 x18 x19 x20 x21 x22 x23 x24 x25 x26 x27 x28 x29 : Value), a = ((((((((((((((a0.put (some 16) x16).put (some 17) x17).put (some 18) x18).put (some 19) x19).put (some 20) x20).put (some 21) x21).put (some 22) x22).put (some 23) x23).put (some 24) x24).put (some 25) x25).put (some 26) x26).put (some 27) x27).put (some 28) x28).put (some 29) x29) ∧ Hid (RL2 w4 tb ao an ac go gn gc g2 d x16 x17 x18 x19 x20 x21 x22 x23 x24 x25 x26 x27 x28 x29 W)) (by kernel_rfl) ⟨0, undef, undef, undef, undef, undef, undef, undef, undef, undef, undef, undef, undef, undef, undef, by first | (simp only [Act.put, List.setIfInBounds_toArray, List.set_cons_zero, List.set_cons_succ]; done) | (simp only [Act.put, List.setIfInBounds_toArray, List.set_cons_zero, List.set_cons_succ]; rfl), ?_⟩ ?_ ?_
  · exact ⟨fun h => no_way h, fun h => no_way h, fun h => no_way h, fun h => no_way h, fun h => no_way h, fun h => no_way h, fun h => no_way h, fun h => no_way h, fun h => no_way h, fun h => no_way h, fun h => no_way h, fun h => no_way h, fun h => no_way h, fun h => no_way h, fun h => no_way h, (Below.refl _ _).drew, fun h => no_way h, fun h => no_way h⟩
  · simp only [StepAll, and_true]
    refine ⟨?_, ?_, ?_, ?_, ?_, ?_, ?_, ?_, ?_, ?_, ?_, ?_, ?_, ?_⟩
    · intro d a W hI hd hdep
      obtain ⟨g2, x16, x17, x18, x19, x20, x21, x22, x23, x24, x25, x26, x27, x28, x29, rfl, hF⟩ := hI
      clear hdep hd
      intro K hK
      simp only [Act.put, List.setIfInBounds_toArray, List.set_cons_zero, List.set_cons_succ]
      go_simp
      refine hK.out _ _ ⟨g2, (.bool true), x17, x18, x19, x20, x21, x22, x23, x24, x25, x26, x27, x28, x29, by first | (simp only [Act.put, List.setIfInBounds_toArray, List.set_cons_zero, List.set_cons_succ]; done) | (simp only [Act.put, List.setIfInBounds_toArray, List.set_cons_zero, List.set_cons_succ]; rfl), ?_⟩
      exact ⟨fun _ => rfl, fun h => hF.out.f1 (by simpa using h), fun h => hF.out.f2 (by simpa using h), fun h => hF.out.f3 (by simpa using h), fun h => hF.out.f4 (by simpa using h), fun h => hF.out.f5 (by simpa using h), fun h => hF.out.f6 (by simpa using h), fun h => hF.out.f7 (by simpa using h), fun h => hF.out.f8 (by simpa using h), fun h => hF.out.f9 (by simpa using h), fun h => hF.out.f10 (by simpa using h), fun h => hF.out.f11 (by simpa using h), fun h => hF.out.f12 (by simpa using h), fun h => hF.out.f13 (by simpa using h), fun h => by have := hF.out.k11 (by simpa using h); simpa using this, hF.out.bl, fun h => hF.out.q9 (by simpa using h), fun h => hF.out.q11 (by simpa using h)⟩
    · intro d a W hI hd hdep
      obtain ⟨g2, x16, x17, x18, x19, x20, x21, x22, x23, x24, x25, x26, x27, x28, x29, rfl, hF⟩ := hI
      have hd0 : d 0 = true := dep_of hdep 0 (by kernel_rfl)
      obtain rfl := hF.out.f0 hd0
      clear hdep hd hd0
      intro K hK
      simp only [Act.put, List.setIfInBounds_toArray, List.set_cons_zero, List.set_cons_succ]
      go_simp
      refine hK.out _ _ ⟨g2, (.bool true), (.bool false), x18, x19, x20, x21, x22, x23, x24, x25, x26, x27, x28, x29, by first | (simp only [Act.put, List.setIfInBounds_toArray, List.set_cons_zero, List.set_cons_succ]; done) | (simp only [Act.put, List.setIfInBounds_toArray, List.set_cons_zero, List.set_cons_succ]; rfl), ?_⟩
      exact ⟨fun h => hF.out.f0 (by simpa using h), fun _ => rfl, fun h => hF.out.f2 (by simpa using h), fun h => hF.out.f3 (by simpa using h), fun h => hF.out.f4 (by simpa using h), fun h => hF.out.f5 (by simpa using h), fun h => hF.out.f6 (by simpa using h), fun h => hF.out.f7 (by simpa using h), fun h => hF.out.f8 (by simpa using h), fun h => hF.out.f9 (by simpa using h), fun h => hF.out.f10 (by simpa using h), fun h => hF.out.f11 (by simpa using h), fun h => hF.out.f12 (by simpa using h), fun h => hF.out.f13 (by simpa using h), fun h => by have := hF.out.k11 (by simpa using h); simpa using this, hF.out.bl, fun h => hF.out.q9 (by simpa using h), fun h => hF.out.q11 (by simpa using h)⟩
    · intro d a W hI hd hdep
      obtain ⟨g2, x16, x17, x18, x19, x20, x21, x22, x23, x24, x25, x26, x27, x28, x29, rfl, hF⟩ := hI
      have hd1 : d 1 = true := dep_of hdep 1 (by kernel_rfl)
      obtain rfl := hF.out.f1 hd1
      clear hdep hd hd1
      intro K hK
      simp only [Act.put, List.setIfInBounds_toArray, List.set_cons_zero, List.set_cons_succ]
      go_simp
      refine hK.out _ _ ⟨g2, x16, (.bool false), (.bool false), x19, x20, x21, x22, x23, x24, x25, x26, x27, x28, x29, by first | (simp only [Act.put, List.setIfInBounds_toArray, List.set_cons_zero, List.set_cons_succ]; done) | (simp only [Act.put, List.setIfInBounds_toArray, List.set_cons_zero, List.set_cons_succ]; rfl), ?_⟩
      exact ⟨fun h => hF.out.f0 (by simpa using h), fun h => hF.out.f1 (by simpa using h), fun _ => rfl, fun h => hF.out.f3 (by simpa using h), fun h => hF.out.f4 (by simpa using h), fun h => hF.out.f5 (by simpa using h), fun h => hF.out.f6 (by simpa using h), fun h => hF.out.f7 (by simpa using h), fun h => hF.out.f8 (by simpa using h), fun h => hF.out.f9 (by simpa using h), fun h => hF.out.f10 (by simpa using h), fun h => hF.out.f11 (by simpa using h), fun h => hF.out.f12 (by simpa using h), fun h => hF.out.f13 (by simpa using h), fun h => by have := hF.out.k11 (by simpa using h); simpa using this, hF.out.bl, fun h => hF.out.q9 (by simpa using h), fun h => hF.out.q11 (by simpa using h)⟩
    · intro d a W hI hd hdep
      obtain ⟨g2, x16, x17, x18, x19, x20, x21, x22, x23, x24, x25, x26, x27, x28, x29, rfl, hF⟩ := hI
      have hd2 : d 2 = true := dep_of hdep 2 (by kernel_rfl)
      obtain rfl := hF.out.f2 hd2
      clear hdep hd hd2
      intro K hK
      simp only [Act.put, List.setIfInBounds_toArray, List.set_cons_zero, List.set_cons_succ]
      go_simp
      refine hK.out _ _ ⟨g2, x16, x17, (.bool false), (.pointer (some ⟨tb, 0, none⟩)), x20, x21, x22, x23, x24, x25, x26, x27, x28, x29, by first | (simp only [Act.put, List.setIfInBounds_toArray, List.set_cons_zero, List.set_cons_succ]; done) | (simp only [Act.put, List.setIfInBounds_toArray, List.set_cons_zero, List.set_cons_succ]; rfl), ?_⟩
      exact ⟨fun h => hF.out.f0 (by simpa using h), fun h => hF.out.f1 (by simpa using h), fun h => hF.out.f2 (by simpa using h), fun _ => rfl, fun h => hF.out.f4 (by simpa using h), fun h => hF.out.f5 (by simpa using h), fun h => hF.out.f6 (by simpa using h), fun h => hF.out.f7 (by simpa using h), fun h => hF.out.f8 (by simpa using h), fun h => hF.out.f9 (by simpa using h), fun h => hF.out.f10 (by simpa using h), fun h => hF.out.f11 (by simpa using h), fun h => hF.out.f12 (by simpa using h), fun h => hF.out.f13 (by simpa using h), fun h => by have := hF.out.k11 (by simpa using h); simpa using this, hF.out.bl, fun h => hF.out.q9 (by simpa using h), fun h => hF.out.q11 (by simpa using h)⟩
    · intro d a W hI hd hdep
      obtain ⟨g2, x16, x17, x18, x19, x20, x21, x22, x23, x24, x25, x26, x27, x28, x29, rfl, hF⟩ := hI
      have hd3 : d 3 = true := dep_of hdep 3 (by kernel_rfl)
      have hd2 : d 2 = true := dep_of hdep 2 (by kernel_rfl)
      obtain rfl := hF.out.f3 hd3
      obtain rfl := hF.out.f2 hd2
      have hB : Below w4.heap.size w4 W := hF.out.bl
      have ya : W.cell? ⟨tb, 0, none⟩ = some (.slice ao an ac) := (hB.cell (p := ⟨tb, 0, none⟩) HT0.out.1).trans HT0.out.2
      clear hdep hd hd3 hd2
      intro K hK
      simp only [Act.put, List.setIfInBounds_toArray, List.set_cons_zero, List.set_cons_succ]
      go_simp
      refine hK.out _ _ ⟨g2, x16, x17, (.bool false), (.pointer (some ⟨tb, 0, none⟩)), (.slice ao an ac), x21, x22, x23, x24, x25, x26, x27, x28, x29, by first | (simp only [Act.put, List.setIfInBounds_toArray, List.set_cons_zero, List.set_cons_succ]; done) | (simp only [Act.put, List.setIfInBounds_toArray, List.set_cons_zero, List.set_cons_succ]; rfl), ?_⟩
      exact ⟨fun h => hF.out.f0 (by simpa using h), fun h => hF.out.f1 (by simpa using h), fun h => hF.out.f2 (by simpa using h), fun h => hF.out.f3 (by simpa using h), fun _ => rfl, fun h => hF.out.f5 (by simpa using h), fun h => hF.out.f6 (by simpa using h), fun h => hF.out.f7 (by simpa using h), fun h => hF.out.f8 (by simpa using h), fun h => hF.out.f9 (by simpa using h), fun h => hF.out.f10 (by simpa using h), fun h => hF.out.f11 (by simpa using h), fun h => hF.out.f12 (by simpa using h), fun h => hF.out.f13 (by simpa using h), fun h => by have := hF.out.k11 (by simpa using h); simpa using this, hF.out.bl, fun h => hF.out.q9 (by simpa using h), fun h => hF.out.q11 (by simpa using h)⟩
    · intro d a W hI hd hdep
      obtain ⟨g2, x16, x17, x18, x19, x20, x21, x22, x23, x24, x25, x26, x27, x28, x29, rfl, hF⟩ := hI
      have hd4 : d 4 = true := dep_of hdep 4 (by kernel_rfl)
      have hd2 : d 2 = true := dep_of hdep 2 (by kernel_rfl)
      obtain rfl := hF.out.f4 hd4
      obtain rfl := hF.out.f2 hd2
      clear hdep hd hd4 hd2
      intro K hK
      simp only [Act.put, List.setIfInBounds_toArray, List.set_cons_zero, List.set_cons_succ]
      go_simp
      refine hK.out _ _ ⟨g2, x16, x17, (.bool false), x19, (.slice ao an ac), (.int .i64 (an : Int)), x22, x23, x24, x25, x26, x27, x28, x29, by first | (simp only [Act.put, List.setIfInBounds_toArray, List.set_cons_zero, List.set_cons_succ]; done) | (simp only [Act.put, List.setIfInBounds_toArray, List.set_cons_zero, List.set_cons_succ]; rfl), ?_⟩
      exact ⟨fun h => hF.out.f0 (by simpa using h), fun h => hF.out.f1 (by simpa using h), fun h => hF.out.f2 (by simpa using h), fun h => hF.out.f3 (by simpa using h), fun h => hF.out.f4 (by simpa using h), fun _ => rfl, fun h => hF.out.f6 (by simpa using h), fun h => hF.out.f7 (by simpa using h), fun h => hF.out.f8 (by simpa using h), fun h => hF.out.f9 (by simpa using h), fun h => hF.out.f10 (by simpa using h), fun h => hF.out.f11 (by simpa using h), fun h => hF.out.f12 (by simpa using h), fun h => hF.out.f13 (by simpa using h), fun h => by have := hF.out.k11 (by simpa using h); simpa using this, hF.out.bl, fun h => hF.out.q9 (by simpa using h), fun h => hF.out.q11 (by simpa using h)⟩
    · intro d a W hI hd hdep
      obtain ⟨g2, x16, x17, x18, x19, x20, x21, x22, x23, x24, x25, x26, x27, x28, x29, rfl, hF⟩ := hI
      have hd5 : d 5 = true := dep_of hdep 5 (by kernel_rfl)
      have hd2 : d 2 = true := dep_of hdep 2 (by kernel_rfl)
      obtain rfl := hF.out.f5 hd5
      obtain rfl := hF.out.f2 hd2
      have hd1 : ¬ ((an : Int) < 2) := by have := HAN2.out; omega
      have hd2 : decide ((an : Int) < 2) = false := by simpa using hd1
      have hd3 : decide (an < 2) = false := by have := HAN2.out; simp; omega
      have hd4 : 2 ≤ an := HAN2.out
      clear hdep hd hd5 hd2
      intro K hK
      simp only [Act.put, List.setIfInBounds_toArray, List.set_cons_zero, List.set_cons_succ]
      go_simp
      refine hK.out _ _ ⟨g2, x16, x17, (.bool false), x19, x20, (.int .i64 (an : Int)), (.bool false), x23, x24, x25, x26, x27, x28, x29, by first | (simp only [Act.put, List.setIfInBounds_toArray, List.set_cons_zero, List.set_cons_succ]; done) | (simp only [Act.put, List.setIfInBounds_toArray, List.set_cons_zero, List.set_cons_succ]; rfl), ?_⟩
      exact ⟨fun h => hF.out.f0 (by simpa using h), fun h => hF.out.f1 (by simpa using h), fun h => hF.out.f2 (by simpa using h), fun h => hF.out.f3 (by simpa using h), fun h => hF.out.f4 (by simpa using h), fun h => hF.out.f5 (by simpa using h), fun _ => rfl, fun h => hF.out.f7 (by simpa using h), fun h => hF.out.f8 (by simpa using h), fun h => hF.out.f9 (by simpa using h), fun h => hF.out.f10 (by simpa using h), fun h => hF.out.f11 (by simpa using h), fun h => hF.out.f12 (by simpa using h), fun h => hF.out.f13 (by simpa using h), fun h => by have := hF.out.k11 (by simpa using h); simpa using this, hF.out.bl, fun h => hF.out.q9 (by simpa using h), fun h => hF.out.q11 (by simpa using h)⟩
    · intro d a W hI hd hdep
      obtain ⟨g2, x16, x17, x18, x19, x20, x21, x22, x23, x24, x25, x26, x27, x28, x29, rfl, hF⟩ := hI
      have hd2 : d 2 = true := dep_of hdep 2 (by kernel_rfl)
      have hd6 : d 6 = true := dep_of hdep 6 (by kernel_rfl)
      obtain rfl := hF.out.f2 hd2
      obtain rfl := hF.out.f6 hd6
      clear hdep hd hd2 hd6
      intro K hK
      simp only [Act.put, List.setIfInBounds_toArray, List.set_cons_zero, List.set_cons_succ]
      go_simp
      refine hK.out _ _ ⟨g2, x16, x17, (.bool false), x19, x20, x21, (.bool false), (.bool false), x24, x25, x26, x27, x28, x29, by first | (simp only [Act.put, List.setIfInBounds_toArray, List.set_cons_zero, List.set_cons_succ]; done) | (simp only [Act.put, List.setIfInBounds_toArray, List.set_cons_zero, List.set_cons_succ]; rfl), ?_⟩
      exact ⟨fun h => hF.out.f0 (by simpa using h), fun h => hF.out.f1 (by simpa using h), fun h => hF.out.f2 (by simpa using h), fun h => hF.out.f3 (by simpa using h), fun h => hF.out.f4 (by simpa using h), fun h => hF.out.f5 (by simpa using h), fun h => hF.out.f6 (by simpa using h), fun _ => rfl, fun h => hF.out.f8 (by simpa using h), fun h => hF.out.f9 (by simpa using h), fun h => hF.out.f10 (by simpa using h), fun h => hF.out.f11 (by simpa using h), fun h => hF.out.f12 (by simpa using h), fun h => hF.out.f13 (by simpa using h), fun h => by have := hF.out.k11 (by simpa using h); simpa using this, hF.out.bl, fun h => hF.out.q9 (by simpa using h), fun h => hF.out.q11 (by simpa using h)⟩
    · intro d a W hI hd hdep
      obtain ⟨g2, x16, x17, x18, x19, x20, x21, x22, x23, x24, x25, x26, x27, x28, x29, rfl, hF⟩ := hI
      have hd7 : d 7 = true := dep_of hdep 7 (by kernel_rfl)
      have hd2 : d 2 = true := dep_of hdep 2 (by kernel_rfl)
      obtain rfl := hF.out.f7 hd7
      obtain rfl := hF.out.f2 hd2
      clear hdep hd hd7 hd2
      intro K hK
      simp only [Act.put, List.setIfInBounds_toArray, List.set_cons_zero, List.set_cons_succ]
      go_simp
      refine hK.out _ _ ⟨g2, x16, x17, (.bool false), x19, x20, x21, x22, (.bool false), (.bool false), x25, x26, x27, x28, x29, by first | (simp only [Act.put, List.setIfInBounds_toArray, List.set_cons_zero, List.set_cons_succ]; done) | (simp only [Act.put, List.setIfInBounds_toArray, List.set_cons_zero, List.set_cons_succ]; rfl), ?_⟩
      exact ⟨fun h => hF.out.f0 (by simpa using h), fun h => hF.out.f1 (by simpa using h), fun h => hF.out.f2 (by simpa using h), fun h => hF.out.f3 (by simpa using h), fun h => hF.out.f4 (by simpa using h), fun h => hF.out.f5 (by simpa using h), fun h => hF.out.f6 (by simpa using h), fun h => hF.out.f7 (by simpa using h), fun _ => rfl, fun h => hF.out.f9 (by simpa using h), fun h => hF.out.f10 (by simpa using h), fun h => hF.out.f11 (by simpa using h), fun h => hF.out.f12 (by simpa using h), fun h => hF.out.f13 (by simpa using h), fun h => by have := hF.out.k11 (by simpa using h); simpa using this, hF.out.bl, fun h => hF.out.q9 (by simpa using h), fun h => hF.out.q11 (by simpa using h)⟩
    · intro d a W hI hd hdep
      obtain ⟨g2, x16, x17, x18, x19, x20, x21, x22, x23, x24, x25, x26, x27, x28, x29, rfl, hF⟩ := hI
      have hd8 : d 8 = true := dep_of hdep 8 (by kernel_rfl)
      obtain rfl := hF.out.f8 hd8
      have hB : Below w4.heap.size w4 W := hF.out.bl
      have hcall := brackets_any W
      have HN11 : Hid (d 11 = false) := no_later hF.out.k11 hd
      clear hdep hd hd8
      intro K hK
      simp only [Act.put, List.setIfInBounds_toArray, List.set_cons_zero, List.set_cons_succ]
      go_simp
      refine hcall.mono ?_
      rintro _ W2 ⟨g9, rfl, hp9, hb9⟩
      clear hcall
      go_simp
      refine hK.out _ _ ⟨g9, x16, x17, x18, x19, x20, x21, x22, x23, (.bool false), (.agg #[.int .i64 2, .int .i64 1, .slice (some ⟨g9, 0, none⟩) 2 2]), x26, x27, x28, x29, by first | (simp only [Act.put, List.setIfInBounds_toArray, List.set_cons_zero, List.set_cons_succ]; done) | (simp only [Act.put, List.setIfInBounds_toArray, List.set_cons_zero, List.set_cons_succ]; rfl), ?_⟩
      exact ⟨fun h => hF.out.f0 (by simpa using h), fun h => hF.out.f1 (by simpa using h), fun h => hF.out.f2 (by simpa using h), fun h => hF.out.f3 (by simpa using h), fun h => hF.out.f4 (by simpa using h), fun h => hF.out.f5 (by simpa using h), fun h => hF.out.f6 (by simpa using h), fun h => hF.out.f7 (by simpa using h), fun h => hF.out.f8 (by simpa using h), fun _ => rfl, fun h => hF.out.f10 (by simpa using h), fun h => hF.out.f11 (by simpa using h), fun h => hF.out.f12 (by simpa using h), fun h => hF.out.f13 (by simpa using h), fun _ => by simp, hB.trans ((hb9).mono hB.size), fun _ => hp9, fun h => trivial⟩
    · intro d a W hI hd hdep
      obtain ⟨g2, x16, x17, x18, x19, x20, x21, x22, x23, x24, x25, x26, x27, x28, x29, rfl, hF⟩ := hI
      have hd8 : d 8 = true := dep_of hdep 8 (by kernel_rfl)
      obtain rfl := hF.out.f8 hd8
      have hB : Below w4.heap.size w4 W := hF.out.bl
      have ya : W.cell? ⟨tb, 0, none⟩ = some (.slice ao an ac) := (hB.cell (p := ⟨tb, 0, none⟩) HT0.out.1).trans HT0.out.2
      have yb : W.cell? ⟨tb, 1, none⟩ = some (.slice go gn gc) := (hB.cell (p := ⟨tb, 1, none⟩) HT1.out.1).trans HT1.out.2
      clear hdep hd hd8
      intro K hK
      simp only [Act.put, List.setIfInBounds_toArray, List.set_cons_zero, List.set_cons_succ]
      go_simp
      refine hK.out _ _ ⟨g2, x16, x17, x18, x19, x20, x21, x22, x23, (.bool false), x25, (.agg #[.slice ao an ac, .slice go gn gc]), x27, x28, x29, by first | (simp only [Act.put, List.setIfInBounds_toArray, List.set_cons_zero, List.set_cons_succ]; done) | (simp only [Act.put, List.setIfInBounds_toArray, List.set_cons_zero, List.set_cons_succ]; rfl), ?_⟩
      exact ⟨fun h => hF.out.f0 (by simpa using h), fun h => hF.out.f1 (by simpa using h), fun h => hF.out.f2 (by simpa using h), fun h => hF.out.f3 (by simpa using h), fun h => hF.out.f4 (by simpa using h), fun h => hF.out.f5 (by simpa using h), fun h => hF.out.f6 (by simpa using h), fun h => hF.out.f7 (by simpa using h), fun h => hF.out.f8 (by simpa using h), fun h => hF.out.f9 (by simpa using h), fun _ => rfl, fun h => hF.out.f11 (by simpa using h), fun h => hF.out.f12 (by simpa using h), fun h => hF.out.f13 (by simpa using h), fun h => by have := hF.out.k11 (by simpa using h); simpa using this, hF.out.bl, fun h => hF.out.q9 (by simpa using h), fun h => hF.out.q11 (by simpa using h)⟩
    · intro d a W hI hd hdep
      obtain ⟨g2, x16, x17, x18, x19, x20, x21, x22, x23, x24, x25, x26, x27, x28, x29, rfl, hF⟩ := hI
      have hd9 : d 9 = true := dep_of hdep 9 (by kernel_rfl)
      have hd10 : d 10 = true := dep_of hdep 10 (by kernel_rfl)
      have hd8 : d 8 = true := dep_of hdep 8 (by kernel_rfl)
      obtain rfl := hF.out.f9 hd9
      obtain rfl := hF.out.f10 hd10
      obtain rfl := hF.out.f8 hd8
      have hB : Below w4.heap.size w4 W := hF.out.bl
      have k11x := hd9
      have hcall := HLC.out W g2 hB (hF.out.q9 hd9)
      clear hdep hd hd9 hd10 hd8
      intro K hK
      simp only [Act.put, List.setIfInBounds_toArray, List.set_cons_zero, List.set_cons_succ]
      go_simp
      refine hcall.mono ?_
      rintro _ W2 ⟨rfl, hb9⟩
      clear hcall
      go_simp
      refine hK.out _ _ ⟨g2, x16, x17, x18, x19, x20, x21, x22, x23, (.bool false), (.agg #[.int .i64 2, .int .i64 1, .slice (some ⟨g2, 0, none⟩) 2 2]), (.agg #[.slice ao an ac, .slice go gn gc]), (.int .i64 0), x28, x29, by first | (simp only [Act.put, List.setIfInBounds_toArray, List.set_cons_zero, List.set_cons_succ]; done) | (simp only [Act.put, List.setIfInBounds_toArray, List.set_cons_zero, List.set_cons_succ]; rfl), ?_⟩
      exact ⟨fun h => hF.out.f0 (by simpa using h), fun h => hF.out.f1 (by simpa using h), fun h => hF.out.f2 (by simpa using h), fun h => hF.out.f3 (by simpa using h), fun h => hF.out.f4 (by simpa using h), fun h => hF.out.f5 (by simpa using h), fun h => hF.out.f6 (by simpa using h), fun h => hF.out.f7 (by simpa using h), fun h => hF.out.f8 (by simpa using h), fun h => hF.out.f9 (by simpa using h), fun h => hF.out.f10 (by simpa using h), fun _ => rfl, fun h => hF.out.f12 (by simpa using h), fun h => hF.out.f13 (by simpa using h), fun _ => by simpa using k11x, hB.trans ((hb9).mono hB.size), fun h => (hF.out.q9 (by simpa using h)).below (hb9), fun _ => trivial⟩
    · intro d a W hI hd hdep
      obtain ⟨g2, x16, x17, x18, x19, x20, x21, x22, x23, x24, x25, x26, x27, x28, x29, rfl, hF⟩ := hI
      have hd11 : d 11 = true := dep_of hdep 11 (by kernel_rfl)
      have hd8 : d 8 = true := dep_of hdep 8 (by kernel_rfl)
      obtain rfl := hF.out.f11 hd11
      obtain rfl := hF.out.f8 hd8
      clear hdep hd hd11 hd8
      intro K hK
      simp only [Act.put, List.setIfInBounds_toArray, List.set_cons_zero, List.set_cons_succ]
      go_simp
      refine hK.out _ _ ⟨g2, x16, x17, x18, x19, x20, x21, x22, x23, (.bool false), x25, x26, (.int .i64 0), (.bool false), x29, by first | (simp only [Act.put, List.setIfInBounds_toArray, List.set_cons_zero, List.set_cons_succ]; done) | (simp only [Act.put, List.setIfInBounds_toArray, List.set_cons_zero, List.set_cons_succ]; rfl), ?_⟩
      exact ⟨fun h => hF.out.f0 (by simpa using h), fun h => hF.out.f1 (by simpa using h), fun h => hF.out.f2 (by simpa using h), fun h => hF.out.f3 (by simpa using h), fun h => hF.out.f4 (by simpa using h), fun h => hF.out.f5 (by simpa using h), fun h => hF.out.f6 (by simpa using h), fun h => hF.out.f7 (by simpa using h), fun h => hF.out.f8 (by simpa using h), fun h => hF.out.f9 (by simpa using h), fun h => hF.out.f10 (by simpa using h), fun h => hF.out.f11 (by simpa using h), fun _ => rfl, fun h => hF.out.f13 (by simpa using h), fun h => by have := hF.out.k11 (by simpa using h); simpa using this, hF.out.bl, fun h => hF.out.q9 (by simpa using h), fun h => hF.out.q11 (by simpa using h)⟩
    · intro d a W hI hd hdep
      obtain ⟨g2, x16, x17, x18, x19, x20, x21, x22, x23, x24, x25, x26, x27, x28, x29, rfl, hF⟩ := hI
      have hd8 : d 8 = true := dep_of hdep 8 (by kernel_rfl)
      have hd12 : d 12 = true := dep_of hdep 12 (by kernel_rfl)
      obtain rfl := hF.out.f8 hd8
      obtain rfl := hF.out.f12 hd12
      clear hdep hd hd8 hd12
      intro K hK
      simp only [Act.put, List.setIfInBounds_toArray, List.set_cons_zero, List.set_cons_succ]
      go_simp
      refine hK.out _ _ ⟨g2, x16, x17, x18, x19, x20, x21, x22, x23, (.bool false), x25, x26, x27, (.bool false), (.bool false), by first | (simp only [Act.put, List.setIfInBounds_toArray, List.set_cons_zero, List.set_cons_succ]; done) | (simp only [Act.put, List.setIfInBounds_toArray, List.set_cons_zero, List.set_cons_succ]; rfl), ?_⟩
      exact ⟨fun h => hF.out.f0 (by simpa using h), fun h => hF.out.f1 (by simpa using h), fun h => hF.out.f2 (by simpa using h), fun h => hF.out.f3 (by simpa using h), fun h => hF.out.f4 (by simpa using h), fun h => hF.out.f5 (by simpa using h), fun h => hF.out.f6 (by simpa using h), fun h => hF.out.f7 (by simpa using h), fun h => hF.out.f8 (by simpa using h), fun h => hF.out.f9 (by simpa using h), fun h => hF.out.f10 (by simpa using h), fun h => hF.out.f11 (by simpa using h), fun h => hF.out.f12 (by simpa using h), fun _ => rfl, fun h => by have := hF.out.k11 (by simpa using h); simpa using this, hF.out.bl, fun h => hF.out.q9 (by simpa using h), fun h => hF.out.q11 (by simpa using h)⟩
  · intro d a W hI hall
    obtain ⟨g2, x16, x17, x18, x19, x20, x21, x22, x23, x24, x25, x26, x27, x28, x29, rfl, hF⟩ := hI
    simp only [List.length_cons, List.length_nil] at hall
    obtain rfl := hF.out.f0 (hall 0 (by omega))
    obtain rfl := hF.out.f1 (hall 1 (by omega))
    obtain rfl := hF.out.f2 (hall 2 (by omega))
    obtain rfl := hF.out.f3 (hall 3 (by omega))
    obtain rfl := hF.out.f4 (hall 4 (by omega))
    obtain rfl := hF.out.f5 (hall 5 (by omega))
    obtain rfl := hF.out.f6 (hall 6 (by omega))
    obtain rfl := hF.out.f7 (hall 7 (by omega))
    obtain rfl := hF.out.f8 (hall 8 (by omega))
    obtain rfl := hF.out.f9 (hall 9 (by omega))
    obtain rfl := hF.out.f10 (hall 10 (by omega))
    obtain rfl := hF.out.f11 (hall 11 (by omega))
    obtain rfl := hF.out.f12 (hall 12 (by omega))
    obtain rfl := hF.out.f13 (hall 13 (by omega))
    have hb5 := hF.out.bl
    have HB5 : Hid (Below w4.heap.size w4 W) := hb5
    clear hF hall hb5
    simp only [Act.put, List.setIfInBounds_toArray, List.set_cons_zero, List.set_cons_succ]
    generalize W = w5 at HB5 ⊢
    have HH5 : Hid (Below w.heap.size w w5 ∧ w5.heap[w.heap.size]? = some (Obj.cells #[.int .i64 t, .int .i64 n, .slice ga gm gc0] 24)) := ⟨HH4.out.1.trans (HB5.out.mono HH4.out.1.size), mbox_next HH4.out.2 HB5.out⟩
    have k0 := mcell_blk HH5.out.2 0
    have k1 := mcell_blk HH5.out.2 1
    have k2 := mcell_blk HH5.out.2 2
    simp only [List.getElem?_toArray, List.getElem?_cons_zero, List.getElem?_cons_succ] at k0 k1 k2
    clear HT0 HT1 HLC HAN2 HB5 HH4
    by_cases hz : ce = 0
    · subst hz
      obtain ⟨nn, rfl⟩ : ∃ nn : Nat, n = (nn : Int) := ⟨n.toNat, by have := okTN_le (chk_zero HCE.out).1; omega⟩
      obtain ⟨tt, rfl⟩ : ∃ tt : Nat, t = (tt : Int) := ⟨t.toNat, by have := okTN_le (chk_zero HCE.out).1; omega⟩
      have hc := calm_ok tt nn _ ps w5 (HP.out.below HH5.out.1) HCE.out
      go_wp2_with fail
      refine hc.mono ?_
      rintro e6 w6 ⟨hb6, E, F, V0, R, M, ks, ss, nx, hfa, hau, hcase⟩
      have HH6 : Hid (Below w.heap.size w w6 ∧ w6.heap[w.heap.size]? = some (Obj.cells #[.int .i64 tt, .int .i64 nn, .slice ga gm gc0] 24)) := ⟨HH5.out.1.trans (hb6.mono HH5.out.1.size), mbox_next HH5.out.2 hb6⟩
      have key : ∃ (x1 : Option Addr) (y1 z1 : Nat) (x2 : Option Addr) (y2 z2 : Nat) (b : Bool), e6 = .returned (.tuple #[.agg #[.slice x1 y1 z1, .slice x2 y2 z2], .bool b]) ∧ (b = true → Nf tt ps E F) := by
        rcases hcase with ⟨-, rfl⟩ | ⟨hle, hnx, av2, gv2, rfl, ⟨x1, z1, rfl, -⟩, ⟨x2, z2, rfl, -⟩⟩
        · exact ⟨_, _, _, _, _, _, false, rfl, fun h => by cases h⟩
        · exact ⟨_, _, _, _, _, _, _, rfl, fun h => nf_of ⟨hau, hnx, HCE.out⟩ (of_decide_eq_true h)⟩
      obtain ⟨x1, y1, z1, x2, y2, z2, b, rfl, hb⟩ := key
      have HB2 : Hid (b = true → cTr tt nn ps ws ≤ 1) := fun h => by
        unfold cTr
        split
        · rename_i hw
          have hrg := rg_of HCE.out
          exact cnt_lr (hb h) (by have := hrg.t2; omega) hfa.m.cl hfa.e.cl hfa.f.cl (fun p hp s hs => by
            obtain ⟨q, hq, rfl⟩ := List.getElem_of_mem hp
            rcases hrg.ok q hq s hs with h1 | h1
            · exact Or.inl h1.1
            · exact Or.inr h1.1) (ckW_zero hw).2.2
        · omega
      clear hc hcase hb6 hfa hau hb HH5 k0 k1 k2
      have HH7 : Hid (Below w.heap.size w (w6.alloc (Obj.cells #[.slice x1 y1 z1, .slice x2 y2 z2] 28)) ∧ (w6.alloc (Obj.cells #[.slice x1 y1 z1, .slice x2 y2 z2] 28)).heap[w.heap.size]? = some (Obj.cells #[.int .i64 tt, .int .i64 nn, .slice ga gm gc0] 24)) := ⟨HH6.out.1.trans ((below_alloc _ _).mono HH6.out.1.size), mbox_next HH6.out.2 (below_alloc _ _)⟩
      go_upto_region 5 with fail
      generalize w6.alloc (Obj.cells #[.slice x1 y1 z1, .slice x2 y2 z2] 28) = w7 at HH7 ⊢
      clear HH6
      cases b with
      | true =>
        have hx := HB2.out rfl
        have k0 := mcell_blk HH7.out.2 0
        have k1 := mcell_blk HH7.out.2 1
        have k2 := mcell_blk HH7.out.2 2
        simp only [List.getElem?_toArray, List.getElem?_cons_zero, List.getElem?_cons_succ] at k0 k1 k2
        have hc := CTrees_any tt nn _ _ ps ws w7 (HP.out.below HH7.out.1) (HI.out.below HH7.out.1)
        rw [HCW.out] at hc
        generalize cTr tt nn ps ws = x at hc hx
        clear HB2
        go_wp2_with fail
        refine hc.mono ?_
        rintro _ w8 ⟨rfl, hb⟩
        have HB8 : Hid (Below w.heap.size w w8) := HH7.out.1.trans (hb.mono HH7.out.1.size)
        clear hc hb HH7 k0 k1 k2
        by_cases hw : cw = 0
        · subst hw
          have hx2 : (x : Int) ≤ 1 := by omega
          go_wp2_with fail
          go_ret
          exact ⟨by simp, HB8.out⟩
        · have hb0 : (cw != 0) = true := by simp; exact hw
          go_wp2_with fail
          go_ret
          exact ⟨by simp, HB8.out⟩
      | false =>
        clear HB2
        go_wp2_with fail
        go_ret
        exact ⟨by simp, HH7.out.1⟩
    · have hc := calm_bad t n _ ps w5 (HP.out.below HH5.out.1) (by rw [HCE.out]; exact hz)
      go_wp2_with fail
      refine hc.mono ?_
      rintro _ w6 ⟨rfl, hb⟩
      have HB6 : Hid (Below w.heap.size w w6) := HH5.out.1.trans (hb.mono HH5.out.1.size)
      clear hc hb HH5 k0 k1 k2
      go_wp2_with fail
      go_ret
      exact ⟨by simp, HB6.out.trans ((below_alloc _ _).mono HB6.out.size)⟩

/-! ### What the walk gives, for every argument -/
set_option maxRecDepth 100000 in
theorem contract (H : Type) (enc : TypeId × Value → H) (W : World) (base : Nat) (args : Array Value) (ds gs : List (DataW H)) (before : List MemPlace)
    (hval : ∀ (j : Nat) t v, Try.f4.params[j]? = some t → args[j]? = some v → Value.okWide Try.prog W .any base t v)
    (hW : DataW.Whole enc Try.prog Try.f4.params.toList Rows.lrOneSpec.vars false W args.toList ds gs before) (hsz : (DataW.weightsEach Try.prog (Try.f4.params.toList ++ Rows.lrOneSpec.plain.varTypes Try.prog) (ds ++ gs)).all (· ≤ reachBytes) = true) :
    Calls Try.prog 4 args W fun e W' => ∃ v, e = .returned v ∧ Rows.lrOneSpec.post enc Try.prog Try.f4 false true false false W args v W' := by
  have hW' := hW
  obtain ⟨p, q, hA0, hV, rfl, hfz, hnd⟩ := hW
  have hA : DataW.TrodAll enc Try.prog W 0 (fun _ => true) true Try.f4.params.toList args.toList ds p := hA0
  rw [Try.params4] at hA hval hsz
  obtain ⟨v0, vs0, d0, ds0, p0, q0, hargs, rfl, rfl, h0, r0⟩ := trodAll_cons hA
  obtain ⟨v1, vs1, d1, ds1, p1, q1, rfl, rfl, rfl, h1, r1⟩ := trodAll_cons r0
  obtain ⟨rfl, rfl, rfl⟩ := trodAll_nil r1
  obtain rfl : args = #[v0, v1] := by cases args; simp_all
  obtain ⟨rfl, rfl⟩ := trodVars_none hV
  have k0 := h0
  have lt0 : ∀ x ∈ p0, x.block < W.heap.size := by obtain ⟨m, hm⟩ := k0; exact DataW.trod_lt m _ _ _ hm
  obtain ⟨a0t, a0n, a0s, a0p, rfl, w0s⟩ := open_gram (hval 0 24 v0 rfl rfl) h0
  have k1 := h1
  have lt1 : ∀ x ∈ p1, x.block < W.heap.size := by obtain ⟨m, hm⟩ := k1; exact DataW.trod_lt m _ _ _ hm
  obtain ⟨a1l, w1s⟩ := open_intsv (hval 1 29 v1 rfl rfl) h1
  clear hA0
  refine (walk a0t a0n a0s a0p _ a1l W w0s w1s).mono fun e W' ⟨he, bel⟩ => ?_
  subst he
  exact ⟨_, rfl, _, _, _, [], _, [], hW', trodAll_mk1 (shut_bool Try.underlying4 _), (trodAll_cons_mk (Below.trod laidOut (by kernel_rfl) (of_decide_eq_true (by kernel_rfl)) k0 bel lt0) (trodAll_cons_mk (Below.trod laidOut (by kernel_rfl) (of_decide_eq_true (by kernel_rfl)) k1 bel lt1) trodAll_mk0)), rfl, bel.frame _, fun h => by cases h⟩

/-! ### The row's step -/
set_option maxRecDepth 100000 in
theorem lifted (os : Os) (started : os.Started) (H : Type) (enc : TypeId × Value → H) :
    ReturnsInHanded {} Try.checked os 4 .any (Rows.lrOneSpec.pre6 enc Try.prog Try.f4 Rows.lrOneRow.domain false) (Rows.lrOneSpec.post enc Try.prog Try.f4 false true false false) := by
  refine returnsInHanded_of_change_sized (C := Try.checked) own started (by kernel_rfl) Try.func4
    (ChangeSpec.witness6 (enc := enc) (C := Try.checked) false ⟨#[], #[.agg #[.int .i64 0, .int .i64 0, .slice none 0 0], .slice none 0 0], []⟩ 8 (by kernel_rfl) (by kernel_rfl) (by kernel_rfl) (by kernel_rfl)) ?_
  intro W base args ds gs before hval hW hcnd hsz _
  exact contract H enc W base args ds gs before hval hW hsz

theorem over : Rows.lrOneRow.holds Try.pinned (OpenSpec.ofChange Rows.lrOneSpec) :=
  OpenClaim.holds_of_wide 4 Try.f4 rfl rfl rfl rfl rfl rfl rfl ⟨rfl, rfl, rfl, rfl, rfl⟩ rfl rfl rfl rfl rfl (by kernel_rfl) Try.func4 (by kernel_rfl)
    (of_decide_eq_true (by kernel_rfl)) (by unfold Func.isWrapper; first | (rw [if_pos (by decide +kernel)]; kernel_rfl) | (rw [if_neg (by decide +kernel)]; exact ⟨rfl, rfl⟩))
    (fun os started H enc _ => lifted os started H enc)

end Go.Proofs.Ytpbnnmfjahckmaa.lrOne
namespace Go.Proofs.Ytpbnnmfjahckmaa
/-- The given statement. -/
theorem lrOne_holds : Rows.LrOneSaid := lrOne.over
#print axioms lrOne_holds
end Go.Proofs.Ytpbnnmfjahckmaa
