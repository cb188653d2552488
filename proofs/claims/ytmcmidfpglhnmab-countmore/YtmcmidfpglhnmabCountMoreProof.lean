/-
  CountMore returns true whatever grammar, word and production are handed in, and changes nothing that it was handed; no condition.
-/
import Derived.Test.YtmcmidfpglhnmabRows
import Derived.WalkKit
import Derived.ProofKit
import Derived.OpenShut
import Derived.ShutString
import Derived.SizedLaws
import Derived.ChangeOld
import Derived.Below
import Derived.Carry
import Derived.WalkLawsBesides
import Derived.WalkSpells
import Derived.Test.YtmcmidfpglhnmabOpens
import Derived.Deep.Cut
import Derived.Test.YtmcmidfpglhnmabBrCnt
import Derived.Test.YtmcmidfpglhnmabCtLaws
import Derived.Test.YtmcmidfpglhnmabMoOpen
namespace Go.Proofs.Ytmcmidfpglhnmab.countMore
open Go.ChangeShapes Go.WideShapes Go.ChangeAt Go.RowKit
open Go.ChangeMaps (open_string shut_string)
open Cg
set_option linter.unusedVariables false

theorem own : ownKnob Try.prog.godebug = none := by kernel_rfl
theorem laidOut : laidOutB Try.prog = true := by kernel_rfl
theorem blk_st {w : World} {g : Nat} {cs : Array Value} {t : TypeId} {fr : Nat × Nat} (h : w.heap[g]? = some (.cells cs t fr)) (i : Nat) (v : Value) : (w.setCell ⟨g, i, none⟩ v).heap[g]? = some (.cells (cs.setIfInBounds i v) t fr) := by
  simp [World.setCell, Array.getElem?_modify, h]
theorem clone_same {w wb : World} {ao : Option Addr} {m c : Nat} {ps : List Pd} (h : Pds w (.slice ao m c) ps) (hl : m ≤ 4398046510976) (hb0 : Below w.heap.size w wb) : ∃ qs, Pv w ps qs ∧ ∀ W, Below wb.heap.size wb W → Calls Try.prog 9 #[.slice ao m c] W fun e w' => ∃ a2 c2, e = .returned (.slice a2 m c2) ∧ w'.ownsRow W.heap.size 36 2 (.slice a2 m c2) m (vps qs) ∧ Below W.heap.size W w' := by
  obtain ⟨qs, hv, hm, -, hc, h1⟩ := pds_vals2 h
  refine ⟨qs, hv, fun W hW => ?_⟩
  have hwW : Below w.heap.size w W := hb0.trans (hW.mono hb0.size)
  cases ao with
  | none =>
    have e : ps = [] := by
      rcases hc with h | ⟨b, o, h, -⟩
      · exact h
      · cases h
    have e2 : qs = [] := List.length_eq_zero_iff.1 (by rw [hv.len, e]; rfl)
    have e3 : m = 0 := by rw [hm, e]; rfl
    subst e2 e3
    refine (clonep_none _ _ _).mono ?_
    rintro _ w' ⟨rfl, rfl⟩
    exact ⟨none, 0, rfl, World.ownsRow_nil _ _ _ _, Below.refl _ _⟩
  | some p =>
    refine clonep_at p c m (vps qs) W (by rw [vps_length, hv.len, hm]) h1 (fun j u hu => ?_) hl
    rcases hc with h | ⟨b, o, h, hlt, h3⟩
    · have e2 : qs = [] := List.length_eq_zero_iff.1 (by rw [hv.len, h]; rfl)
      subst e2; simp [vps] at hu
    · injection h with h
      subst h
      rw [Addr.add_lit]; exact (hwW.cell (p := ⟨b, o + j, none⟩) hlt).trans (h3 j u hu)
structure RMo (wb : World) (g0 g1 : Nat) (t n : Int) (ga : Option Addr) (gm gc : Nat) (h : Int) (uo : Option Addr) (ul uc : Nat) (qs : List (Int × Value)) (ca : Option Addr) (cc : Nat) (gb : Nat) (aa : Option Addr) (ac : Nat) (gh : Nat) (d : Nat → Bool) (x9 x25 x26 x27 x28 x29 x30 x31 x32 x33 x34 x35 : Value) (W : World) : Prop where
  f0 : d 0 = true → x25 = (.pointer (some ⟨g0, 0, none⟩))
  f1 : d 1 = true → x26 = (.int .i64 t)
  f2 : d 2 = true → x27 = (.pointer (some ⟨g0, 1, none⟩))
  f3 : d 3 = true → x28 = (.int .i64 n)
  f4 : d 4 = true → x29 = (.pointer (some ⟨g0, 2, none⟩))
  f5 : d 5 = true → x30 = (.slice ga gm gc)
  f6 : d 6 = true → x31 = (.slice ca gm cc)
  f7 : d 7 = true → x32 = (.agg #[.int .i64 h, (.slice uo ul uc)])
  f8 : d 8 = true → x33 = (.slice (some ⟨gb, 0, none⟩) 1 1)
  f9 : d 9 = true → x34 = (.slice aa (gm + 1) ac)
  f10 : d 10 = true → x35 = (.agg #[.int .i64 t, .int .i64 n, .slice aa (gm + 1) ac])
  f11 : d 11 = true → x9 = (.pointer (some ⟨gh, 0, none⟩))
  f12 : d 12 = true → True
  o9_6 : d 9 = true → d 6 = true
  o9_8 : d 9 = true → d 8 = true
  o10_9 : d 10 = true → d 9 = true
  o12_6 : d 12 = true → d 6 = true
  o12_8 : d 12 = true → d 8 = true
  o12_9 : d 12 = true → d 9 = true
  o12_11 : d 12 = true → d 11 = true
  bl : Below wb.heap.size wb W
  cl : d 6 = true → d 9 = false → W.ownsRow wb.heap.size 36 2 (.slice ca gm cc) gm (vps qs)
  nc : d 6 = true → d 9 = false → d 11 = true → Value.ownBlock (.slice ca gm cc) ≠ some gh
  bs : d 8 = true → d 9 = false → W.heap[gb]? = some (Obj.cells #[.int .i64 h, (.slice uo ul uc)] 36)
  ap : d 9 = true → W.ownsRow wb.heap.size 36 2 (.slice aa (gm + 1) ac) (gm + 1) (vps qs ++ [.int .i64 h, (.slice uo ul uc)])
  na : d 9 = true → d 11 = true → Value.ownBlock (.slice aa (gm + 1) ac) ≠ some gh
  al : d 11 = true → d 12 = false → wb.heap.size ≤ gh ∧ W.heap[gh]? = some (Obj.cells #[.int .i64 0, .int .i64 0, .slice none 0 0] 24)
  fin : d 12 = true → wb.heap.size ≤ gh ∧ W.heap[gh]? = some (Obj.cells #[.int .i64 t, .int .i64 n, .slice aa (gm + 1) ac] 24)

/-! ### The walk: the Go text returns true. -/
set_option maxHeartbeats 16000000 in
set_option maxRecDepth 20000 in
theorem walk (a0t : Int) (a0n : Int) (a0s : Value) (a0p : List Pd) (v1 : Value) (a1l : List Int) (a2h : Int) (a2u : Value) (a2b : List Sy) (w : World) (w0s : Pds w a0s a0p) (w0z : a0p.length ≤ 4398046510976) (w1s : Ints w v1 a1l) (w2s : Syms w a2u a2b) :
    Calls Try.prog 4 #[.agg #[.int .i64 a0t, .int .i64 a0n, a0s], v1, .agg #[.int .i64 a2h, a2u]] w fun e w' => e = .returned (.bool true) ∧ Below w.heap.size w w' := by
  have HP : Hid (Pds w a0s a0p) := w0s
  obtain ⟨ga, gc, rfl, -, -⟩ := w0s
  obtain ⟨gm, HGM⟩ : ∃ gm, Hid (a0p.length = gm) := ⟨_, (rfl : a0p.length = _)⟩
  rw [HGM.out] at HP ⊢
  have HSZ0 : Hid (a0p.length ≤ 4398046510976) := w0z
  clear w0z
  revert HSZ0 HP HGM
  generalize a0t = t
  generalize a0n = n
  generalize a0p = ps
  intro HP HGM HSZ0
  have HI : Hid (Ints w v1 a1l) := w1s
  obtain ⟨la, lc, rfl, hlm, -⟩ := w1s
  obtain ⟨ln, HLN⟩ : ∃ ln, Hid (a1l.length = ln) := ⟨_, (rfl : a1l.length = _)⟩
  rw [HLN.out] at HI ⊢
  revert HI HLN
  generalize a1l = ws
  intro HI HLN
  have HSZ : Hid (gm ≤ 4398046510976) := by show _ ≤ _; rw [← HGM.out]; exact HSZ0.out
  have HSY : Hid (Syms w a2u a2b) := w2s
  obtain ⟨uo, uc, rfl, hum⟩ := w2s
  obtain ⟨ul, HUL⟩ : ∃ ul, Hid (a2b.length = ul) := ⟨_, (rfl : a2b.length = _)⟩
  rw [HUL.out] at HSY ⊢
  revert HSY HUL
  generalize a2b = bd
  generalize a2h = h
  intro HSY HUL
  clear hum
  have hH1 : Hid (Below w.heap.size w ((w.alloc (Obj.cells #[.int .i64 t, .int .i64 n, .slice ga gm gc] 24)).alloc (Obj.cells #[.int .i64 h, .slice uo ul uc] 36)) ∧ ((w.alloc (Obj.cells #[.int .i64 t, .int .i64 n, .slice ga gm gc] 24)).alloc (Obj.cells #[.int .i64 h, .slice uo ul uc] 36)).heap[w.heap.size]? = some (Obj.cells #[.int .i64 t, .int .i64 n, .slice ga gm gc] 24) ∧ ((w.alloc (Obj.cells #[.int .i64 t, .int .i64 n, .slice ga gm gc] 24)).alloc (Obj.cells #[.int .i64 h, .slice uo ul uc] 36)).heap[w.heap.size + 1]? = some (Obj.cells #[.int .i64 h, .slice uo ul uc] 36)) := by
    refine ⟨below_alloc2 _ _ _, tbox_next (heap_alloc_new _ _) (below_alloc _ _), ?_⟩
    have := heap_alloc_new (w.alloc (Obj.cells #[.int .i64 t, .int .i64 n, .slice ga gm gc] 24)) (Obj.cells #[.int .i64 h, .slice uo ul uc] 36)
    rw [show (w.alloc (Obj.cells #[.int .i64 t, .int .i64 n, .slice ga gm gc] 24)).heap.size = w.heap.size + 1 by simp] at this
    exact this
  go_enter Try.func4, Try.ntmps4
  go_upto_region 1 with fail
  generalize ((w.alloc (Obj.cells #[.int .i64 t, .int .i64 n, .slice ga gm gc] 24)).alloc (Obj.cells #[.int .i64 h, .slice uo ul uc] 36)) = w1 at hH1 ⊢
  have HH1 : Hid (Below w.heap.size w w1 ∧ w1.heap[w.heap.size]? = some (Obj.cells #[.int .i64 t, .int .i64 n, .slice ga gm gc] 24) ∧ w1.heap[w.heap.size + 1]? = some (Obj.cells #[.int .i64 h, .slice uo ul uc] 36)) := hH1.out
  clear hH1
  go_wp2_with fail
  refine (brackets_any w1).mono ?_
  rintro _ w2 ⟨gb, rfl, hpb, hb⟩
  have HH2 : Hid (Below w.heap.size w w2 ∧ w2.heap[w.heap.size]? = some (Obj.cells #[.int .i64 t, .int .i64 n, .slice ga gm gc] 24) ∧ w2.heap[w.heap.size + 1]? = some (Obj.cells #[.int .i64 h, .slice uo ul uc] 36)) := ⟨HH1.out.1.trans (hb.mono HH1.out.1.size), tbox_next HH1.out.2.1 hb, tbox_next HH1.out.2.2 hb⟩
  have HPB : Hid (Pds w2 (.slice (some ⟨gb, 0, none⟩) 2 2) brs) := hpb
  clear hpb hb HH1
  have hc := CTrees_any 2 1 _ _ brs [] w2 HPB.out (ints_nil _)
  rw [cTr_nil, ckW_brs (by decide) (by decide)] at hc
  go_wp2_with fail
  refine hc.mono ?_
  rintro _ wb ⟨rfl, hb⟩
  have HHb : Hid (Below w.heap.size w wb ∧ wb.heap[w.heap.size]? = some (Obj.cells #[.int .i64 t, .int .i64 n, .slice ga gm gc] 24) ∧ wb.heap[w.heap.size + 1]? = some (Obj.cells #[.int .i64 h, .slice uo ul uc] 36)) := ⟨HH2.out.1.trans (hb.mono HH2.out.1.size), tbox_next HH2.out.2.1 hb, tbox_next HH2.out.2.2 hb⟩
  clear hc hb HH2 HPB
  have c0 := tcell_blk HHb.out.2.1 0
  have c1 := tcell_blk HHb.out.2.1 1
  have c2 := tcell_blk HHb.out.2.1 2
  have e0 := tcell_blk HHb.out.2.2 0
  have e1 := tcell_blk HHb.out.2.2 1
  simp only [List.getElem?_toArray, List.getElem?_cons_zero, List.getElem?_cons_succ] at c0 c1 c2 e0 e1
  have hl0 : w.heap.size < wb.heap.size := heap_lt3 HHb.out.2.1
  have hl1 : w.heap.size + 1 < wb.heap.size := heap_lt3 HHb.out.2.2
  have HCLq : ∃ qs, Pv w ps qs ∧ ∀ W, Below wb.heap.size wb W → Calls Try.prog 9 #[.slice ga gm gc] W fun e w' => ∃ a2 c2, e = .returned (.slice a2 gm c2) ∧ w'.ownsRow W.heap.size 36 2 (.slice a2 gm c2) gm (vps qs) ∧ Below W.heap.size W w' := clone_same HP.out HSZ.out HHb.out.1
  obtain ⟨qs, hqs, hcl⟩ := HCLq
  have HQS : Hid (Pv w ps qs) := hqs
  have HCL : Hid (∀ W, Below wb.heap.size wb W → Calls Try.prog 9 #[.slice ga gm gc] W fun e w' => ∃ a2 c2, e = .returned (.slice a2 gm c2) ∧ w'.ownsRow W.heap.size 36 2 (.slice a2 gm c2) gm (vps qs) ∧ Below W.heap.size W w') := hcl
  clear hqs hcl
  go_upto_region 4 with fail
  refine wp_region_free mixed (fun a0 d a W => ∃ (ca : Option Addr) (cc : Nat) (gb : Nat) (aa : Option Addr) (ac : Nat) (gh : Nat) (x9 x25 x26 x27 x28 x29 x30 x31 x32 x33 x34 x35 : Value), a = ((((((((((((a0.put (some 9) x9).put (some 25) x25).put (some 26) x26).put (some 27) x27).put (some 28) x28).put (some 29) x29).put (some 30) x30).put (some 31) x31).put (some 32) x32).put (some 33) x33).put (some 34) x34).put (some 35) x35) ∧ Hid (RMo wb w.heap.size (w.heap.size + 1) t n ga gm gc h uo ul uc qs ca cc gb aa ac gh d x9 x25 x26 x27 x28 x29 x30 x31 x32 x33 x34 x35 W)) (by kernel_rfl) ⟨none, 0, 0, none, 0, 0, undef, undef, undef, undef, undef, undef, undef, undef, undef, undef, undef, undef, by simp only [Act.put, List.setIfInBounds_toArray, List.set_cons_zero, List.set_cons_succ], ?_⟩ ?_ ?_
  · exact ⟨fun h => no_way h, fun h => no_way h, fun h => no_way h, fun h => no_way h, fun h => no_way h, fun h => no_way h, fun h => no_way h, fun h => no_way h, fun h => no_way h, fun h => no_way h, fun h => no_way h, fun h => no_way h, fun _ => trivial, fun h => no_way h, fun h => no_way h, fun h => no_way h, fun h => no_way h, fun h => no_way h, fun h => no_way h, fun h => no_way h, ⟨rfl, rfl, rfl, Nat.le_refl _, fun _ _ => rfl⟩, fun h => no_way h, fun h => no_way h, fun h => no_way h, fun h => no_way h, fun h => no_way h, fun h => no_way h, fun h => no_way h⟩
  · simp only [StepAll, and_true]
    refine ⟨?_, ?_, ?_, ?_, ?_, ?_, ?_, ?_, ?_, ?_, ?_, ?_, ?_⟩
    · intro d a W hI hd hdep
      obtain ⟨ca, cc, gb, aa, ac, gh, x9, x25, x26, x27, x28, x29, x30, x31, x32, x33, x34, x35, rfl, hF⟩ := hI
      clear hdep hd
      intro K hK
      simp only [Act.put, List.setIfInBounds_toArray, List.set_cons_zero, List.set_cons_succ]
      go_simp
      refine hK.out _ _ ⟨ca, cc, gb, aa, ac, gh, x9, (.pointer (some ⟨w.heap.size, 0, none⟩)), x26, x27, x28, x29, x30, x31, x32, x33, x34, x35, by simp only [Act.put, List.setIfInBounds_toArray, List.set_cons_zero, List.set_cons_succ], ?_⟩
      exact ⟨fun _ => rfl, fun h => hF.out.f1 (by simpa using h), fun h => hF.out.f2 (by simpa using h), fun h => hF.out.f3 (by simpa using h), fun h => hF.out.f4 (by simpa using h), fun h => hF.out.f5 (by simpa using h), fun h => hF.out.f6 (by simpa using h), fun h => hF.out.f7 (by simpa using h), fun h => hF.out.f8 (by simpa using h), fun h => hF.out.f9 (by simpa using h), fun h => hF.out.f10 (by simpa using h), fun h => hF.out.f11 (by simpa using h), fun h => hF.out.f12 (by simpa using h), fun h => by have := hF.out.o9_6 (by simpa using h); simpa using this, fun h => by have := hF.out.o9_8 (by simpa using h); simpa using this, fun h => by have := hF.out.o10_9 (by simpa using h); simpa using this, fun h => by have := hF.out.o12_6 (by simpa using h); simpa using this, fun h => by have := hF.out.o12_8 (by simpa using h); simpa using this, fun h => by have := hF.out.o12_9 (by simpa using h); simpa using this, fun h => by have := hF.out.o12_11 (by simpa using h); simpa using this, hF.out.bl, fun h k => hF.out.cl (by simpa using h) (by simpa using k), fun h k l => hF.out.nc (by simpa using h) (by simpa using k) (by simpa using l), fun h k => hF.out.bs (by simpa using h) (by simpa using k), fun h => hF.out.ap (by simpa using h), fun h k => hF.out.na (by simpa using h) (by simpa using k), fun h k => hF.out.al (by simpa using h) (by simpa using k), fun h => hF.out.fin (by simpa using h)⟩
    · intro d a W hI hd hdep
      obtain ⟨ca, cc, gb, aa, ac, gh, x9, x25, x26, x27, x28, x29, x30, x31, x32, x33, x34, x35, rfl, hF⟩ := hI
      have hd0 : d 0 = true := dep_of hdep 0 (by kernel_rfl)
      obtain rfl := hF.out.f0 hd0
      have hbl := hF.out.bl
      have y0 := (hbl.cell (p := ⟨w.heap.size, 0, none⟩) hl0).trans c0
      clear hdep hd hd0
      intro K hK
      simp only [Act.put, List.setIfInBounds_toArray, List.set_cons_zero, List.set_cons_succ]
      go_simp
      refine hK.out _ _ ⟨ca, cc, gb, aa, ac, gh, x9, (.pointer (some ⟨w.heap.size, 0, none⟩)), (.int .i64 t), x27, x28, x29, x30, x31, x32, x33, x34, x35, by simp only [Act.put, List.setIfInBounds_toArray, List.set_cons_zero, List.set_cons_succ], ?_⟩
      exact ⟨fun h => hF.out.f0 (by simpa using h), fun _ => rfl, fun h => hF.out.f2 (by simpa using h), fun h => hF.out.f3 (by simpa using h), fun h => hF.out.f4 (by simpa using h), fun h => hF.out.f5 (by simpa using h), fun h => hF.out.f6 (by simpa using h), fun h => hF.out.f7 (by simpa using h), fun h => hF.out.f8 (by simpa using h), fun h => hF.out.f9 (by simpa using h), fun h => hF.out.f10 (by simpa using h), fun h => hF.out.f11 (by simpa using h), fun h => hF.out.f12 (by simpa using h), fun h => by have := hF.out.o9_6 (by simpa using h); simpa using this, fun h => by have := hF.out.o9_8 (by simpa using h); simpa using this, fun h => by have := hF.out.o10_9 (by simpa using h); simpa using this, fun h => by have := hF.out.o12_6 (by simpa using h); simpa using this, fun h => by have := hF.out.o12_8 (by simpa using h); simpa using this, fun h => by have := hF.out.o12_9 (by simpa using h); simpa using this, fun h => by have := hF.out.o12_11 (by simpa using h); simpa using this, hF.out.bl, fun h k => hF.out.cl (by simpa using h) (by simpa using k), fun h k l => hF.out.nc (by simpa using h) (by simpa using k) (by simpa using l), fun h k => hF.out.bs (by simpa using h) (by simpa using k), fun h => hF.out.ap (by simpa using h), fun h k => hF.out.na (by simpa using h) (by simpa using k), fun h k => hF.out.al (by simpa using h) (by simpa using k), fun h => hF.out.fin (by simpa using h)⟩
    · intro d a W hI hd hdep
      obtain ⟨ca, cc, gb, aa, ac, gh, x9, x25, x26, x27, x28, x29, x30, x31, x32, x33, x34, x35, rfl, hF⟩ := hI
      clear hdep hd
      intro K hK
      simp only [Act.put, List.setIfInBounds_toArray, List.set_cons_zero, List.set_cons_succ]
      go_simp
      refine hK.out _ _ ⟨ca, cc, gb, aa, ac, gh, x9, x25, x26, (.pointer (some ⟨w.heap.size, 1, none⟩)), x28, x29, x30, x31, x32, x33, x34, x35, by simp only [Act.put, List.setIfInBounds_toArray, List.set_cons_zero, List.set_cons_succ], ?_⟩
      exact ⟨fun h => hF.out.f0 (by simpa using h), fun h => hF.out.f1 (by simpa using h), fun _ => rfl, fun h => hF.out.f3 (by simpa using h), fun h => hF.out.f4 (by simpa using h), fun h => hF.out.f5 (by simpa using h), fun h => hF.out.f6 (by simpa using h), fun h => hF.out.f7 (by simpa using h), fun h => hF.out.f8 (by simpa using h), fun h => hF.out.f9 (by simpa using h), fun h => hF.out.f10 (by simpa using h), fun h => hF.out.f11 (by simpa using h), fun h => hF.out.f12 (by simpa using h), fun h => by have := hF.out.o9_6 (by simpa using h); simpa using this, fun h => by have := hF.out.o9_8 (by simpa using h); simpa using this, fun h => by have := hF.out.o10_9 (by simpa using h); simpa using this, fun h => by have := hF.out.o12_6 (by simpa using h); simpa using this, fun h => by have := hF.out.o12_8 (by simpa using h); simpa using this, fun h => by have := hF.out.o12_9 (by simpa using h); simpa using this, fun h => by have := hF.out.o12_11 (by simpa using h); simpa using this, hF.out.bl, fun h k => hF.out.cl (by simpa using h) (by simpa using k), fun h k l => hF.out.nc (by simpa using h) (by simpa using k) (by simpa using l), fun h k => hF.out.bs (by simpa using h) (by simpa using k), fun h => hF.out.ap (by simpa using h), fun h k => hF.out.na (by simpa using h) (by simpa using k), fun h k => hF.out.al (by simpa using h) (by simpa using k), fun h => hF.out.fin (by simpa using h)⟩
    · intro d a W hI hd hdep
      obtain ⟨ca, cc, gb, aa, ac, gh, x9, x25, x26, x27, x28, x29, x30, x31, x32, x33, x34, x35, rfl, hF⟩ := hI
      have hd2 : d 2 = true := dep_of hdep 2 (by kernel_rfl)
      obtain rfl := hF.out.f2 hd2
      have hbl := hF.out.bl
      have y1 := (hbl.cell (p := ⟨w.heap.size, 1, none⟩) hl0).trans c1
      clear hdep hd hd2
      intro K hK
      simp only [Act.put, List.setIfInBounds_toArray, List.set_cons_zero, List.set_cons_succ]
      go_simp
      refine hK.out _ _ ⟨ca, cc, gb, aa, ac, gh, x9, x25, x26, (.pointer (some ⟨w.heap.size, 1, none⟩)), (.int .i64 n), x29, x30, x31, x32, x33, x34, x35, by simp only [Act.put, List.setIfInBounds_toArray, List.set_cons_zero, List.set_cons_succ], ?_⟩
      exact ⟨fun h => hF.out.f0 (by simpa using h), fun h => hF.out.f1 (by simpa using h), fun h => hF.out.f2 (by simpa using h), fun _ => rfl, fun h => hF.out.f4 (by simpa using h), fun h => hF.out.f5 (by simpa using h), fun h => hF.out.f6 (by simpa using h), fun h => hF.out.f7 (by simpa using h), fun h => hF.out.f8 (by simpa using h), fun h => hF.out.f9 (by simpa using h), fun h => hF.out.f10 (by simpa using h), fun h => hF.out.f11 (by simpa using h), fun h => hF.out.f12 (by simpa using h), fun h => by have := hF.out.o9_6 (by simpa using h); simpa using this, fun h => by have := hF.out.o9_8 (by simpa using h); simpa using this, fun h => by have := hF.out.o10_9 (by simpa using h); simpa using this, fun h => by have := hF.out.o12_6 (by simpa using h); simpa using this, fun h => by have := hF.out.o12_8 (by simpa using h); simpa using this, fun h => by have := hF.out.o12_9 (by simpa using h); simpa using this, fun h => by have := hF.out.o12_11 (by simpa using h); simpa using this, hF.out.bl, fun h k => hF.out.cl (by simpa using h) (by simpa using k), fun h k l => hF.out.nc (by simpa using h) (by simpa using k) (by simpa using l), fun h k => hF.out.bs (by simpa using h) (by simpa using k), fun h => hF.out.ap (by simpa using h), fun h k => hF.out.na (by simpa using h) (by simpa using k), fun h k => hF.out.al (by simpa using h) (by simpa using k), fun h => hF.out.fin (by simpa using h)⟩
    · intro d a W hI hd hdep
      obtain ⟨ca, cc, gb, aa, ac, gh, x9, x25, x26, x27, x28, x29, x30, x31, x32, x33, x34, x35, rfl, hF⟩ := hI
      clear hdep hd
      intro K hK
      simp only [Act.put, List.setIfInBounds_toArray, List.set_cons_zero, List.set_cons_succ]
      go_simp
      refine hK.out _ _ ⟨ca, cc, gb, aa, ac, gh, x9, x25, x26, x27, x28, (.pointer (some ⟨w.heap.size, 2, none⟩)), x30, x31, x32, x33, x34, x35, by simp only [Act.put, List.setIfInBounds_toArray, List.set_cons_zero, List.set_cons_succ], ?_⟩
      exact ⟨fun h => hF.out.f0 (by simpa using h), fun h => hF.out.f1 (by simpa using h), fun h => hF.out.f2 (by simpa using h), fun h => hF.out.f3 (by simpa using h), fun _ => rfl, fun h => hF.out.f5 (by simpa using h), fun h => hF.out.f6 (by simpa using h), fun h => hF.out.f7 (by simpa using h), fun h => hF.out.f8 (by simpa using h), fun h => hF.out.f9 (by simpa using h), fun h => hF.out.f10 (by simpa using h), fun h => hF.out.f11 (by simpa using h), fun h => hF.out.f12 (by simpa using h), fun h => by have := hF.out.o9_6 (by simpa using h); simpa using this, fun h => by have := hF.out.o9_8 (by simpa using h); simpa using this, fun h => by have := hF.out.o10_9 (by simpa using h); simpa using this, fun h => by have := hF.out.o12_6 (by simpa using h); simpa using this, fun h => by have := hF.out.o12_8 (by simpa using h); simpa using this, fun h => by have := hF.out.o12_9 (by simpa using h); simpa using this, fun h => by have := hF.out.o12_11 (by simpa using h); simpa using this, hF.out.bl, fun h k => hF.out.cl (by simpa using h) (by simpa using k), fun h k l => hF.out.nc (by simpa using h) (by simpa using k) (by simpa using l), fun h k => hF.out.bs (by simpa using h) (by simpa using k), fun h => hF.out.ap (by simpa using h), fun h k => hF.out.na (by simpa using h) (by simpa using k), fun h k => hF.out.al (by simpa using h) (by simpa using k), fun h => hF.out.fin (by simpa using h)⟩
    · intro d a W hI hd hdep
      obtain ⟨ca, cc, gb, aa, ac, gh, x9, x25, x26, x27, x28, x29, x30, x31, x32, x33, x34, x35, rfl, hF⟩ := hI
      have hd4 : d 4 = true := dep_of hdep 4 (by kernel_rfl)
      obtain rfl := hF.out.f4 hd4
      have hbl := hF.out.bl
      have y2 := (hbl.cell (p := ⟨w.heap.size, 2, none⟩) hl0).trans c2
      clear hdep hd hd4
      intro K hK
      simp only [Act.put, List.setIfInBounds_toArray, List.set_cons_zero, List.set_cons_succ]
      go_simp
      refine hK.out _ _ ⟨ca, cc, gb, aa, ac, gh, x9, x25, x26, x27, x28, (.pointer (some ⟨w.heap.size, 2, none⟩)), (.slice ga gm gc), x31, x32, x33, x34, x35, by simp only [Act.put, List.setIfInBounds_toArray, List.set_cons_zero, List.set_cons_succ], ?_⟩
      exact ⟨fun h => hF.out.f0 (by simpa using h), fun h => hF.out.f1 (by simpa using h), fun h => hF.out.f2 (by simpa using h), fun h => hF.out.f3 (by simpa using h), fun h => hF.out.f4 (by simpa using h), fun _ => rfl, fun h => hF.out.f6 (by simpa using h), fun h => hF.out.f7 (by simpa using h), fun h => hF.out.f8 (by simpa using h), fun h => hF.out.f9 (by simpa using h), fun h => hF.out.f10 (by simpa using h), fun h => hF.out.f11 (by simpa using h), fun h => hF.out.f12 (by simpa using h), fun h => by have := hF.out.o9_6 (by simpa using h); simpa using this, fun h => by have := hF.out.o9_8 (by simpa using h); simpa using this, fun h => by have := hF.out.o10_9 (by simpa using h); simpa using this, fun h => by have := hF.out.o12_6 (by simpa using h); simpa using this, fun h => by have := hF.out.o12_8 (by simpa using h); simpa using this, fun h => by have := hF.out.o12_9 (by simpa using h); simpa using this, fun h => by have := hF.out.o12_11 (by simpa using h); simpa using this, hF.out.bl, fun h k => hF.out.cl (by simpa using h) (by simpa using k), fun h k l => hF.out.nc (by simpa using h) (by simpa using k) (by simpa using l), fun h k => hF.out.bs (by simpa using h) (by simpa using k), fun h => hF.out.ap (by simpa using h), fun h k => hF.out.na (by simpa using h) (by simpa using k), fun h k => hF.out.al (by simpa using h) (by simpa using k), fun h => hF.out.fin (by simpa using h)⟩
    · intro d a W hI hd hdep
      obtain ⟨ca, cc, gb, aa, ac, gh, x9, x25, x26, x27, x28, x29, x30, x31, x32, x33, x34, x35, rfl, hF⟩ := hI
      have hd5 : d 5 = true := dep_of hdep 5 (by kernel_rfl)
      obtain rfl := hF.out.f5 hd5
      have HD9 : Hid (d 9 = false) := no_later hF.out.o9_6 hd
      have HDC : Hid (d 12 = false) := no_later hF.out.o12_6 hd
      have hbl := hF.out.bl
      have hcl := HCL.out W hbl
      clear hdep hd hd5
      intro K hK
      simp only [Act.put, List.setIfInBounds_toArray, List.set_cons_zero, List.set_cons_succ]
      go_simp
      refine hcl.mono ?_
      rintro _ W1 ⟨ca1, cc1, rfl, hown, hB⟩
      go_simp
      refine hK.out _ _ ⟨ca1, cc1, gb, aa, ac, gh, x9, x25, x26, x27, x28, x29, (.slice ga gm gc), (.slice ca1 gm cc1), x32, x33, x34, x35, by simp only [Act.put, List.setIfInBounds_toArray, List.set_cons_zero, List.set_cons_succ], ?_⟩
      exact ⟨fun h => hF.out.f0 (by simpa using h), fun h => hF.out.f1 (by simpa using h), fun h => hF.out.f2 (by simpa using h), fun h => hF.out.f3 (by simpa using h), fun h => hF.out.f4 (by simpa using h), fun h => hF.out.f5 (by simpa using h), fun _ => rfl, fun h => hF.out.f7 (by simpa using h), fun h => hF.out.f8 (by simpa using h), fun h => by have := HD9.out; simp [this] at h, fun h => hF.out.f10 (by simpa using h), fun h => hF.out.f11 (by simpa using h), fun h => by have := HDC.out; simp [this] at h, fun _ => by simp, fun h => by have := hF.out.o9_8 (by simpa using h); simpa using this, fun h => by have := hF.out.o10_9 (by simpa using h); simpa using this, fun _ => by simp, fun h => by have := hF.out.o12_8 (by simpa using h); simpa using this, fun h => by have := hF.out.o12_9 (by simpa using h); simpa using this, fun h => by have := hF.out.o12_11 (by simpa using h); simpa using this, hF.out.bl.trans (hB.mono hF.out.bl.size), fun _ _ => own_less hown hbl.size, fun _ _ l e => by
          have h1 := own_ge hown _ e
          have h2 := heap_lt3 (hF.out.al (by simpa using l) (by simpa using HDC.out)).2
          omega, fun h k => tbox_next (hF.out.bs (by simpa using h) (by simpa using k)) hB, fun h => by have := HD9.out; simp [this] at h, fun h => by have := HD9.out; simp [this] at h, fun h k => have q := hF.out.al (by simpa using h) (by simpa using k); ⟨q.1, tbox_next q.2 hB⟩, fun h => by have := HDC.out; simp [this] at h⟩
    · intro d a W hI hd hdep
      obtain ⟨ca, cc, gb, aa, ac, gh, x9, x25, x26, x27, x28, x29, x30, x31, x32, x33, x34, x35, rfl, hF⟩ := hI
      have hbl := hF.out.bl
      have y0 := (hbl.cell (p := ⟨(w.heap.size + 1), 0, none⟩) hl1).trans e0
      have y1 := (hbl.cell (p := ⟨(w.heap.size + 1), 1, none⟩) hl1).trans e1
      clear hdep hd
      intro K hK
      simp only [Act.put, List.setIfInBounds_toArray, List.set_cons_zero, List.set_cons_succ]
      go_simp
      refine hK.out _ _ ⟨ca, cc, gb, aa, ac, gh, x9, x25, x26, x27, x28, x29, x30, x31, (.agg #[.int .i64 h, (.slice uo ul uc)]), x33, x34, x35, by simp only [Act.put, List.setIfInBounds_toArray, List.set_cons_zero, List.set_cons_succ], ?_⟩
      exact ⟨fun h => hF.out.f0 (by simpa using h), fun h => hF.out.f1 (by simpa using h), fun h => hF.out.f2 (by simpa using h), fun h => hF.out.f3 (by simpa using h), fun h => hF.out.f4 (by simpa using h), fun h => hF.out.f5 (by simpa using h), fun h => hF.out.f6 (by simpa using h), fun _ => rfl, fun h => hF.out.f8 (by simpa using h), fun h => hF.out.f9 (by simpa using h), fun h => hF.out.f10 (by simpa using h), fun h => hF.out.f11 (by simpa using h), fun h => hF.out.f12 (by simpa using h), fun h => by have := hF.out.o9_6 (by simpa using h); simpa using this, fun h => by have := hF.out.o9_8 (by simpa using h); simpa using this, fun h => by have := hF.out.o10_9 (by simpa using h); simpa using this, fun h => by have := hF.out.o12_6 (by simpa using h); simpa using this, fun h => by have := hF.out.o12_8 (by simpa using h); simpa using this, fun h => by have := hF.out.o12_9 (by simpa using h); simpa using this, fun h => by have := hF.out.o12_11 (by simpa using h); simpa using this, hF.out.bl, fun h k => hF.out.cl (by simpa using h) (by simpa using k), fun h k l => hF.out.nc (by simpa using h) (by simpa using k) (by simpa using l), fun h k => hF.out.bs (by simpa using h) (by simpa using k), fun h => hF.out.ap (by simpa using h), fun h k => hF.out.na (by simpa using h) (by simpa using k), fun h k => hF.out.al (by simpa using h) (by simpa using k), fun h => hF.out.fin (by simpa using h)⟩
    · intro d a W hI hd hdep
      obtain ⟨ca, cc, gb, aa, ac, gh, x9, x25, x26, x27, x28, x29, x30, x31, x32, x33, x34, x35, rfl, hF⟩ := hI
      have hd7 : d 7 = true := dep_of hdep 7 (by kernel_rfl)
      obtain rfl := hF.out.f7 hd7
      have HD9 : Hid (d 9 = false) := no_later hF.out.o9_8 hd
      have HDC : Hid (d 12 = false) := no_later hF.out.o12_8 hd
      have hbl := hF.out.bl
      have B1 := (Below.refl W.heap.size W).alloc (Nat.le_refl _) (Obj.cells #[.int .i64 h, (.slice uo ul uc)] 36)
      clear hdep hd hd7
      intro K hK
      simp only [Act.put, List.setIfInBounds_toArray, List.set_cons_zero, List.set_cons_succ]
      go_simp
      refine hK.out _ _ ⟨ca, cc, W.heap.size, aa, ac, gh, x9, x25, x26, x27, x28, x29, x30, x31, (.agg #[.int .i64 h, (.slice uo ul uc)]), (.slice (some ⟨W.heap.size, 0, none⟩) 1 1), x34, x35, by simp only [Act.put, List.setIfInBounds_toArray, List.set_cons_zero, List.set_cons_succ], ?_⟩
      exact ⟨fun h => hF.out.f0 (by simpa using h), fun h => hF.out.f1 (by simpa using h), fun h => hF.out.f2 (by simpa using h), fun h => hF.out.f3 (by simpa using h), fun h => hF.out.f4 (by simpa using h), fun h => hF.out.f5 (by simpa using h), fun h => hF.out.f6 (by simpa using h), fun h => hF.out.f7 (by simpa using h), fun _ => rfl, fun h => by have := HD9.out; simp [this] at h, fun h => hF.out.f10 (by simpa using h), fun h => hF.out.f11 (by simpa using h), fun h => by have := HDC.out; simp [this] at h, fun h => by have := hF.out.o9_6 (by simpa using h); simpa using this, fun _ => by simp, fun h => by have := hF.out.o10_9 (by simpa using h); simpa using this, fun h => by have := hF.out.o12_6 (by simpa using h); simpa using this, fun _ => by simp, fun h => by have := hF.out.o12_9 (by simpa using h); simpa using this, fun h => by have := hF.out.o12_11 (by simpa using h); simpa using this, hF.out.bl.trans (B1.mono hF.out.bl.size), fun h k => own_below (hF.out.cl (by simpa using h) (by simpa using k)) B1, fun h k l => hF.out.nc (by simpa using h) (by simpa using k) (by simpa using l), fun _ _ => heap_alloc_new _ _, fun h => by have := HD9.out; simp [this] at h, fun h => by have := HD9.out; simp [this] at h, fun h k => have q := hF.out.al (by simpa using h) (by simpa using k); ⟨q.1, tbox_next q.2 B1⟩, fun h => by have := HDC.out; simp [this] at h⟩
    · intro d a W hI hd hdep
      obtain ⟨ca, cc, gb, aa, ac, gh, x9, x25, x26, x27, x28, x29, x30, x31, x32, x33, x34, x35, rfl, hF⟩ := hI
      have hd6 : d 6 = true := dep_of hdep 6 (by kernel_rfl)
      have hd8 : d 8 = true := dep_of hdep 8 (by kernel_rfl)
      obtain rfl := hF.out.f6 hd6
      obtain rfl := hF.out.f8 hd8
      have e6 := hd6
      have e8 := hd8
      have HD10 : Hid (d 10 = false) := no_later hF.out.o10_9 hd
      have HDC : Hid (d 12 = false) := no_later hF.out.o12_9 hd
      have hcl := hF.out.cl hd6 hd
      have hnc := hF.out.nc hd6 hd
      obtain ⟨aa1, ac1, W1, hr, hown, hB, hgr, hnew⟩ := app_prods hcl hF.out.bl (hF.out.bs hd8 hd) HSZ.out
      clear hdep hd hd6 hd8
      intro K hK
      refine tstep_call_append (sv := .slice ca gm cc) (xv := .slice (some ⟨gb, 0, none⟩) 1 1) (v := .slice aa1 (gm + 1) ac1) (W1 := W1) (by rfl) _ _ 22 (by rfl) (by simp only [Act.put, List.setIfInBounds_toArray, List.set_cons_zero, List.set_cons_succ]; rfl) (by simp only [Act.put, List.setIfInBounds_toArray, List.set_cons_zero, List.set_cons_succ]; rfl) (by exact hr) ?_
      simp only [Act.put, List.setIfInBounds_toArray, List.set_cons_zero, List.set_cons_succ]
      refine hK.out _ _ ⟨ca, cc, gb, aa1, ac1, gh, x9, x25, x26, x27, x28, x29, x30, (.slice ca gm cc), x32, (.slice (some ⟨gb, 0, none⟩) 1 1), (.slice aa1 (gm + 1) ac1), x35, by simp only [Act.put, List.setIfInBounds_toArray, List.set_cons_zero, List.set_cons_succ], ?_⟩
      exact ⟨fun h => hF.out.f0 (by simpa using h), fun h => hF.out.f1 (by simpa using h), fun h => hF.out.f2 (by simpa using h), fun h => hF.out.f3 (by simpa using h), fun h => hF.out.f4 (by simpa using h), fun h => hF.out.f5 (by simpa using h), fun h => hF.out.f6 (by simpa using h), fun h => hF.out.f7 (by simpa using h), fun h => hF.out.f8 (by simpa using h), fun _ => rfl, fun h => by have := HD10.out; simp [this] at h, fun h => hF.out.f11 (by simpa using h), fun h => by have := HDC.out; simp [this] at h, fun _ => by simpa using e6, fun _ => by simpa using e8, fun _ => by simp, fun h => by have := hF.out.o12_6 (by simpa using h); simpa using this, fun h => by have := hF.out.o12_8 (by simpa using h); simpa using this, fun _ => by simp, fun h => by have := hF.out.o12_11 (by simpa using h); simpa using this, hB, fun _ h => by simp at h, fun _ h => by simp at h, fun _ h => by simp at h, fun _ => hown, fun _ l e => by
          have l2 : d 11 = true := by simpa using l
          rcases hnew with h1 | h1
          · exact hnc l2 (h1 ▸ e)
          · rw [h1] at e
            have h2 := heap_lt3 (hF.out.al l2 HDC.out).2
            simp at e; omega, fun h k => have q := hF.out.al (by simpa using h) (by simpa using k); ⟨q.1, (hgr.block _ (heap_lt3 q.2) fun e => hnc (by simpa using h) e.symm).trans q.2⟩, fun h => by have := HDC.out; simp [this] at h⟩
    · intro d a W hI hd hdep
      obtain ⟨ca, cc, gb, aa, ac, gh, x9, x25, x26, x27, x28, x29, x30, x31, x32, x33, x34, x35, rfl, hF⟩ := hI
      have hd1 : d 1 = true := dep_of hdep 1 (by kernel_rfl)
      have hd3 : d 3 = true := dep_of hdep 3 (by kernel_rfl)
      have hd9 : d 9 = true := dep_of hdep 9 (by kernel_rfl)
      obtain rfl := hF.out.f1 hd1
      obtain rfl := hF.out.f3 hd3
      obtain rfl := hF.out.f9 hd9
      have e9 := hd9
      clear hdep hd hd1 hd3 hd9
      intro K hK
      simp only [Act.put, List.setIfInBounds_toArray, List.set_cons_zero, List.set_cons_succ]
      go_simp
      refine hK.out _ _ ⟨ca, cc, gb, aa, ac, gh, x9, x25, (.int .i64 t), x27, (.int .i64 n), x29, x30, x31, x32, x33, (.slice aa (gm + 1) ac), (.agg #[.int .i64 t, .int .i64 n, .slice aa (gm + 1) ac]), by simp only [Act.put, List.setIfInBounds_toArray, List.set_cons_zero, List.set_cons_succ], ?_⟩
      exact ⟨fun h => hF.out.f0 (by simpa using h), fun h => hF.out.f1 (by simpa using h), fun h => hF.out.f2 (by simpa using h), fun h => hF.out.f3 (by simpa using h), fun h => hF.out.f4 (by simpa using h), fun h => hF.out.f5 (by simpa using h), fun h => hF.out.f6 (by simpa using h), fun h => hF.out.f7 (by simpa using h), fun h => hF.out.f8 (by simpa using h), fun h => hF.out.f9 (by simpa using h), fun _ => rfl, fun h => hF.out.f11 (by simpa using h), fun h => hF.out.f12 (by simpa using h), fun h => by have := hF.out.o9_6 (by simpa using h); simpa using this, fun h => by have := hF.out.o9_8 (by simpa using h); simpa using this, fun _ => by simpa using e9, fun h => by have := hF.out.o12_6 (by simpa using h); simpa using this, fun h => by have := hF.out.o12_8 (by simpa using h); simpa using this, fun h => by have := hF.out.o12_9 (by simpa using h); simpa using this, fun h => by have := hF.out.o12_11 (by simpa using h); simpa using this, hF.out.bl, fun h k => hF.out.cl (by simpa using h) (by simpa using k), fun h k l => hF.out.nc (by simpa using h) (by simpa using k) (by simpa using l), fun h k => hF.out.bs (by simpa using h) (by simpa using k), fun h => hF.out.ap (by simpa using h), fun h k => hF.out.na (by simpa using h) (by simpa using k), fun h k => hF.out.al (by simpa using h) (by simpa using k), fun h => hF.out.fin (by simpa using h)⟩
    · intro d a W hI hd hdep
      obtain ⟨ca, cc, gb, aa, ac, gh, x9, x25, x26, x27, x28, x29, x30, x31, x32, x33, x34, x35, rfl, hF⟩ := hI
      have HDC : Hid (d 12 = false) := no_later hF.out.o12_11 hd
      have hbl := hF.out.bl
      have B1 := (Below.refl W.heap.size W).alloc (Nat.le_refl _) (Obj.cells #[Value.int .i64 0, Value.int .i64 0, Value.slice none 0 0] 24)
      clear hdep hd
      intro K hK
      simp only [Act.put, List.setIfInBounds_toArray, List.set_cons_zero, List.set_cons_succ]
      go_simp
      refine hK.out _ _ ⟨ca, cc, gb, aa, ac, W.heap.size, (.pointer (some ⟨W.heap.size, 0, none⟩)), x25, x26, x27, x28, x29, x30, x31, x32, x33, x34, x35, by simp only [Act.put, List.setIfInBounds_toArray, List.set_cons_zero, List.set_cons_succ], ?_⟩
      exact ⟨fun h => hF.out.f0 (by simpa using h), fun h => hF.out.f1 (by simpa using h), fun h => hF.out.f2 (by simpa using h), fun h => hF.out.f3 (by simpa using h), fun h => hF.out.f4 (by simpa using h), fun h => hF.out.f5 (by simpa using h), fun h => hF.out.f6 (by simpa using h), fun h => hF.out.f7 (by simpa using h), fun h => hF.out.f8 (by simpa using h), fun h => hF.out.f9 (by simpa using h), fun h => hF.out.f10 (by simpa using h), fun _ => rfl, fun h => by have := HDC.out; simp [this] at h, fun h => by have := hF.out.o9_6 (by simpa using h); simpa using this, fun h => by have := hF.out.o9_8 (by simpa using h); simpa using this, fun h => by have := hF.out.o10_9 (by simpa using h); simpa using this, fun h => by have := hF.out.o12_6 (by simpa using h); simpa using this, fun h => by have := hF.out.o12_8 (by simpa using h); simpa using this, fun h => by have := hF.out.o12_9 (by simpa using h); simpa using this, fun _ => by simp, hF.out.bl.trans (B1.mono hF.out.bl.size), fun h k => own_below (hF.out.cl (by simpa using h) (by simpa using k)) B1, fun h k _ e => by
          have h1 := own_lt (hF.out.cl (by simpa using h) (by simpa using k)) e
          omega, fun h k => tbox_next (hF.out.bs (by simpa using h) (by simpa using k)) B1, fun h => own_below (hF.out.ap (by simpa using h)) B1, fun h _ e => by
          have h1 := own_lt (hF.out.ap (by simpa using h)) e
          omega, fun _ _ => ⟨hbl.size, heap_alloc_new _ _⟩, fun h => by have := HDC.out; simp [this] at h⟩
    · intro d a W hI hd hdep
      obtain ⟨ca, cc, gb, aa, ac, gh, x9, x25, x26, x27, x28, x29, x30, x31, x32, x33, x34, x35, rfl, hF⟩ := hI
      have hd10 : d 10 = true := dep_of hdep 10 (by kernel_rfl)
      have hd11 : d 11 = true := dep_of hdep 11 (by kernel_rfl)
      obtain rfl := hF.out.f10 hd10
      obtain rfl := hF.out.f11 hd11
      have e9 := hF.out.o10_9 hd10
      have e11 := hd11
      have e10 := hd10
      obtain ⟨hg1, hg2⟩ := hF.out.al hd11 hd
      have hna := hF.out.na e9 e11
      have hap := hF.out.ap e9
      have y0 := tcell_blk hg2 0
      have y1 := tcell_blk hg2 1
      have y2 := tcell_blk hg2 2
      simp only [List.getElem?_toArray, List.getElem?_cons_zero, List.getElem?_cons_succ] at y0 y1 y2
      have z0 := tfrozen_blk hg2 0
      have z1 := tfrozen_blk hg2 1
      have z2 := tfrozen_blk hg2 2
      have hbl := hF.out.bl
      have hlt := heap_lt3 hg2
      clear hdep hd hd10 hd11
      intro K hK
      simp only [Act.put, List.setIfInBounds_toArray, List.set_cons_zero, List.set_cons_succ]
      go_simp
      refine hK.out _ _ ⟨ca, cc, gb, aa, ac, gh, (.pointer (some ⟨gh, 0, none⟩)), x25, x26, x27, x28, x29, x30, x31, x32, x33, x34, (.agg #[.int .i64 t, .int .i64 n, .slice aa (gm + 1) ac]), by simp only [Act.put, List.setIfInBounds_toArray, List.set_cons_zero, List.set_cons_succ], ?_⟩
      have hoth : ∀ b, b ≠ gh → (((W.setCell ⟨gh, 0, none⟩ (.int .i64 t)).setCell ⟨gh, 1, none⟩ (.int .i64 n)).setCell ⟨gh, 2, none⟩ (.slice aa (gm + 1) ac)).heap[b]? = W.heap[b]? := fun b hb => by
        rw [Go.Deep.blk_setCell_other _ _ _ _ hb, Go.Deep.blk_setCell_other _ _ _ _ hb, Go.Deep.blk_setCell_other _ _ _ _ hb]
      have hst : (((W.setCell ⟨gh, 0, none⟩ (.int .i64 t)).setCell ⟨gh, 1, none⟩ (.int .i64 n)).setCell ⟨gh, 2, none⟩ (.slice aa (gm + 1) ac)).heap[gh]? = some (Obj.cells #[.int .i64 t, .int .i64 n, .slice aa (gm + 1) ac] 24) := by
        have h1 := blk_st hg2 0 (.int .i64 t)
        have h2 := blk_st h1 1 (.int .i64 n)
        have h3 := blk_st h2 2 (.slice aa (gm + 1) ac)
        exact h3
      have hbs : Below wb.heap.size wb (((W.setCell ⟨gh, 0, none⟩ (.int .i64 t)).setCell ⟨gh, 1, none⟩ (.int .i64 n)).setCell ⟨gh, 2, none⟩ (.slice aa (gm + 1) ac)) := hbl.trans ⟨rfl, rfl, rfl, by simp, fun k hk => hoth k (by omega)⟩
      exact ⟨fun h => hF.out.f0 (by simpa using h), fun h => hF.out.f1 (by simpa using h), fun h => hF.out.f2 (by simpa using h), fun h => hF.out.f3 (by simpa using h), fun h => hF.out.f4 (by simpa using h), fun h => hF.out.f5 (by simpa using h), fun h => hF.out.f6 (by simpa using h), fun h => hF.out.f7 (by simpa using h), fun h => hF.out.f8 (by simpa using h), fun h => hF.out.f9 (by simpa using h), fun h => hF.out.f10 (by simpa using h), fun h => hF.out.f11 (by simpa using h), fun _ => trivial, fun h => by have := hF.out.o9_6 (by simpa using h); simpa using this, fun h => by have := hF.out.o9_8 (by simpa using h); simpa using this, fun h => by have := hF.out.o10_9 (by simpa using h); simpa using this, fun _ => by simpa using hF.out.o9_6 e9, fun _ => by simpa using hF.out.o9_8 e9, fun _ => by simpa using e9, fun _ => by simpa using e11, hbs, fun _ k => absurd (e9.symm.trans (by simpa using k : d 9 = false)) (by decide), fun _ k => absurd (e9.symm.trans (by simpa using k : d 9 = false)) (by decide), fun _ k => absurd (e9.symm.trans (by simpa using k : d 9 = false)) (by decide), fun _ => tk_keep hap fun b hb => hoth b fun e => hna (by rw [hb, e]), fun h k => hF.out.na (by simpa using h) (by simpa using k), fun _ h => by simp at h, fun _ => ⟨hg1, hst⟩⟩
  · intro d a W hI hall
    obtain ⟨ca, cc, gb, aa, ac, gh, x9, x25, x26, x27, x28, x29, x30, x31, x32, x33, x34, x35, rfl, hF⟩ := hI
    simp only [List.length_cons, List.length_nil] at hall
    obtain rfl := hF.out.f0 (hall 0 (by omega))
    obtain rfl := hF.out.f1 (hall 1 (by omega))
    obtain rfl := hF.out.f2 (hall 2 (by omega))
    obtain rfl := hF.out.f3 (hall 3 (by omega))
    obtain rfl := hF.out.f4 (hall 4 (by omega))
    obtain rfl := hF.out.f5 (hall 5 (by omega))
    obtain rfl := hF.out.f6 (hall 6 (by omega))
    obtain rfl := hF.out.f7 (hall 7 (by omega))
    obtain rfl := hF.out.f8 (hall 8 (by omega))
    obtain rfl := hF.out.f9 (hall 9 (by omega))
    obtain rfl := hF.out.f10 (hall 10 (by omega))
    obtain rfl := hF.out.f11 (hall 11 (by omega))
    have HBL : Hid (Below wb.heap.size wb W) := hF.out.bl
    have HFN : Hid (wb.heap.size ≤ gh ∧ W.heap[gh]? = some (Obj.cells #[.int .i64 t, .int .i64 n, .slice aa (gm + 1) ac] 24)) := hF.out.fin (hall 12 (by omega))
    have HAP : Hid (W.ownsRow wb.heap.size 36 2 (.slice aa (gm + 1) ac) (gm + 1) (vps qs ++ [.int .i64 h, .slice uo ul uc])) := hF.out.ap (hall 9 (by omega))
    clear hF hall c0 c1 c2 e0 e1 hl0 hl1
    simp only [Act.put, List.setIfInBounds_toArray, List.set_cons_zero, List.set_cons_succ]
    have HH4 : Hid (Below w.heap.size w W ∧ W.heap[w.heap.size]? = some (Obj.cells #[.int .i64 t, .int .i64 n, .slice ga gm gc] 24)) := ⟨HHb.out.1.trans (HBL.out.mono HHb.out.1.size), tbox_next HHb.out.2.1 HBL.out⟩
    have HP4 : Hid (Pds W (.slice aa (gm + 1) ac) (ps ++ [(h, bd)])) := by
      have h1 := HAP.out
      rw [← vps_app qs (h, .slice uo ul uc)] at h1
      exact pds_of_vals h1 ((HQS.out.next (HH4.out.1)).push (HSY.out.below HH4.out.1)) (by have := HSZ.out; have := HGM.out; simp; omega)
    have HF4 : Hid (W.heap[gh]? = some (Obj.cells #[.int .i64 t, .int .i64 n, .slice aa (gm + 1) ac] 24)) := HFN.out.2
    clear HAP HFN HBL
    have k0 := tcell_blk HH4.out.2 0
    have k1 := tcell_blk HH4.out.2 1
    have k2 := tcell_blk HH4.out.2 2
    simp only [List.getElem?_toArray, List.getElem?_cons_zero, List.getElem?_cons_succ] at k0 k1 k2
    have hc := CTrees_any t n _ _ ps ws W (HP.out.below HH4.out.1) (HI.out.below HH4.out.1)
    obtain ⟨x, HX⟩ : ∃ x, Hid (cTr t n ps ws = x) := ⟨_, (rfl : cTr t n ps ws = _)⟩
    obtain ⟨cw, HCW⟩ : ∃ cw, Hid (ckW t n ps ws = cw) := ⟨_, (rfl : ckW t n ps ws = _)⟩
    obtain ⟨x2, HX2⟩ : ∃ x2, Hid (cTr t n (ps ++ [(h, bd)]) ws = x2) := ⟨_, (rfl : cTr t n (ps ++ [(h, bd)]) ws = _)⟩
    obtain ⟨cw2, HCW2⟩ : ∃ cw2, Hid (ckW t n (ps ++ [(h, bd)]) ws = cw2) := ⟨_, (rfl : ckW t n (ps ++ [(h, bd)]) ws = _)⟩
    rw [HX.out, HCW.out] at hc
    go_wp2_with fail
    refine hc.mono ?_
    rintro _ w5 ⟨rfl, hb⟩
    have HH5 : Hid (Below w.heap.size w w5 ∧ w5.heap[w.heap.size]? = some (Obj.cells #[.int .i64 t, .int .i64 n, .slice ga gm gc] 24)) := ⟨HH4.out.1.trans (hb.mono HH4.out.1.size), tbox_next HH4.out.2 hb⟩
    have HP5 : Hid (Pds w5 (.slice aa (gm + 1) ac) (ps ++ [(h, bd)])) := HP4.out.below hb
    have HF5 : Hid (w5.heap[gh]? = some (Obj.cells #[.int .i64 t, .int .i64 n, .slice aa (gm + 1) ac] 24)) := tbox_next HF4.out hb
    clear hc hb HH4 k0 k1 k2 HP4 HF4
    have k0 := tcell_blk HF5.out 0
    have k1 := tcell_blk HF5.out 1
    have k2 := tcell_blk HF5.out 2
    simp only [List.getElem?_toArray, List.getElem?_cons_zero, List.getElem?_cons_succ] at k0 k1 k2
    have hc := CTrees_any t n _ _ (ps ++ [(h, bd)]) ws w5 HP5.out (HI.out.below HH5.out.1)
    rw [HX2.out, HCW2.out] at hc
    go_wp2_with fail
    refine hc.mono ?_
    rintro _ w6 ⟨rfl, hb⟩
    have HB6 : Hid (Below w.heap.size w w6) := HH5.out.1.trans (hb.mono HH5.out.1.size)
    clear hc hb k0 k1 k2
    by_cases hz : cw = 0
    · subst hz
      by_cases hz2 : cw2 = 0
      · subst hz2
        have HLE : Hid (x ≤ x2) := by
          show _ ≤ _
          rw [← HX.out, ← HX2.out]
          unfold cTr
          rw [if_pos HCW.out, if_pos HCW2.out]
          exact cnt_more _ _ _ _
        have hle : (x : Int) ≤ (x2 : Int) := by have := HLE.out; omega
        go_wp2_with fail
        go_ret
        exact ⟨by simp, HB6.out⟩
      · have hb0 : (cw2 != 0) = true := by simp; exact hz2
        go_wp2_with fail
        go_ret
        exact ⟨by simp, HB6.out⟩
    · have hb0 : (cw != 0) = true := by simp; exact hz
      go_wp2_with fail
      go_ret
      exact ⟨by simp, HB6.out⟩

/-! ### What the walk gives, for every argument -/
set_option maxRecDepth 100000 in
theorem contract (H : Type) (enc : TypeId × Value → H) (W : World) (base : Nat) (args : Array Value) (ds gs : List (DataW H)) (before : List MemPlace)
    (hval : ∀ (j : Nat) t v, Try.f4.params[j]? = some t → args[j]? = some v → Value.okWide Try.prog W .any base t v)
    (hW : DataW.Whole enc Try.prog Try.f4.params.toList Rows.countMoreSpec.vars false W args.toList ds gs before) (hsz : (DataW.weightsEach Try.prog (Try.f4.params.toList ++ Rows.countMoreSpec.plain.varTypes Try.prog) (ds ++ gs)).all (· ≤ reachBytes) = true) :
    Calls Try.prog 4 args W fun e W' => ∃ v, e = .returned v ∧ Rows.countMoreSpec.post enc Try.prog Try.f4 false true false false W args v W' := by
  have hW' := hW
  obtain ⟨p, q, hA0, hV, rfl, hfz, hnd⟩ := hW
  have hA : DataW.TrodAll enc Try.prog W 0 (fun _ => true) true Try.f4.params.toList args.toList ds p := hA0
  rw [Try.params4] at hA hval hsz
  obtain ⟨v0, vs0, d0, ds0, p0, q0, hargs, rfl, rfl, h0, r0⟩ := trodAll_cons hA
  obtain ⟨v1, vs1, d1, ds1, p1, q1, rfl, rfl, rfl, h1, r1⟩ := trodAll_cons r0
  obtain ⟨v2, vs2, d2, ds2, p2, q2, rfl, rfl, rfl, h2, r2⟩ := trodAll_cons r1
  obtain ⟨rfl, rfl, rfl⟩ := trodAll_nil r2
  obtain rfl : args = #[v0, v1, v2] := by cases args; simp_all
  obtain ⟨rfl, rfl⟩ := trodVars_none hV
  have k0 := h0
  have lt0 : ∀ x ∈ p0, x.block < W.heap.size := by obtain ⟨m, hm⟩ := k0; exact DataW.trod_lt m _ _ _ hm
  obtain ⟨a0t, a0n, a0s, a0p, rfl, w0s, w0y⟩ := open_gramw (hval 0 24 v0 rfl rfl) h0
  have k1 := h1
  have lt1 : ∀ x ∈ p1, x.block < W.heap.size := by obtain ⟨m, hm⟩ := k1; exact DataW.trod_lt m _ _ _ hm
  obtain ⟨a1l, w1s⟩ := open_intsv (hval 1 25 v1 rfl rfl) h1
  have k2 := h2
  have lt2 : ∀ x ∈ p2, x.block < W.heap.size := by obtain ⟨m, hm⟩ := k2; exact DataW.trod_lt m _ _ _ hm
  obtain ⟨a2h, a2u, a2b, rfl, w2s⟩ := open_prod (hval 2 36 v2 rfl rfl) h2
  have r0z : a0p.length ≤ 4398046510976 := by
    rcases w0y with h | ⟨q, h1, h2⟩
    · omega
    · have := sized_each hsz (j := 0) (t := 24) rfl rfl h2
      simp only [reachBytes] at this
      omega
  clear hA0
  refine (walk a0t a0n a0s a0p _ a1l a2h a2u a2b W w0s r0z w1s w2s).mono fun e W' ⟨he, bel⟩ => ?_
  subst he
  exact ⟨_, rfl, _, _, _, [], _, [], hW', trodAll_mk1 (shut_bool Try.underlying4 _), (trodAll_cons_mk (Below.trod laidOut (by kernel_rfl) (of_decide_eq_true (by kernel_rfl)) k0 bel lt0) (trodAll_cons_mk (Below.trod laidOut (by kernel_rfl) (of_decide_eq_true (by kernel_rfl)) k1 bel lt1) (trodAll_cons_mk (Below.trod laidOut (by kernel_rfl) (of_decide_eq_true (by kernel_rfl)) k2 bel lt2) trodAll_mk0))), rfl, bel.frame _, fun h => by cases h⟩

/-! ### The row's step -/
set_option maxRecDepth 100000 in
theorem lifted (os : Os) (started : os.Started) (H : Type) (enc : TypeId × Value → H) :
    ReturnsInHanded {} Try.checked os 4 .any (Rows.countMoreSpec.pre6 enc Try.prog Try.f4 Rows.countMoreRow.domain false) (Rows.countMoreSpec.post enc Try.prog Try.f4 false true false false) := by
  refine returnsInHanded_of_change_sized (C := Try.checked) own started (by kernel_rfl) Try.func4
    (ChangeSpec.witness6 (enc := enc) (C := Try.checked) false ⟨#[], #[.agg #[.int .i64 0, .int .i64 0, .slice none 0 0], .slice none 0 0, .agg #[.int .i64 0, .slice none 0 0]], []⟩ 8 (by kernel_rfl) (by kernel_rfl) (by kernel_rfl) (by kernel_rfl)) ?_
  intro W base args ds gs before hval hW hcnd hsz _
  exact contract H enc W base args ds gs before hval hW hsz

theorem over : Rows.countMoreRow.holds Try.pinned (OpenSpec.ofChange Rows.countMoreSpec) :=
  OpenClaim.holds_of_wide 4 Try.f4 rfl rfl rfl rfl rfl rfl rfl ⟨rfl, rfl, rfl, rfl, rfl⟩ rfl rfl rfl rfl rfl (by kernel_rfl) Try.func4 (by kernel_rfl)
    (of_decide_eq_true (by kernel_rfl)) (by unfold Func.isWrapper; first | (rw [if_pos (by decide +kernel)]; kernel_rfl) | (rw [if_neg (by decide +kernel)]; exact ⟨rfl, rfl⟩))
    (fun os started H enc _ => lifted os started H enc)

end Go.Proofs.Ytmcmidfpglhnmab.countMore
namespace Go.Proofs.Ytmcmidfpglhnmab
/-- The given statement. -/
theorem countMore_holds : Rows.CountMoreSaid := countMore.over
#print axioms countMore_holds
end Go.Proofs.Ytmcmidfpglhnmab
