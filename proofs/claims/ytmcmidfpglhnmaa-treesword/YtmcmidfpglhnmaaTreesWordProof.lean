/-
  TreesWord returns true whatever grammar and tree are handed in, and changes nothing that it was handed; no condition.
-/
import Derived.Test.YtmcmidfpglhnmaaRows
import Derived.WalkKit
import Derived.ProofKit
import Derived.OpenShut
import Derived.ShutString
import Derived.SizedLaws
import Derived.ChangeOld
import Derived.Below
import Derived.Carry
import Derived.WalkLawsBesides
import Derived.WalkSpells
import Derived.Test.YtmcmidfpglhnmaaOpens
import Derived.Deep.Cut
import Derived.Test.YtmcmidfpglhnmaaTrYield
import Derived.Test.YtmcmidfpglhnmaaBrCnt
namespace Go.Proofs.Ytmcmidfpglhnmaa.treesWord
open Go.ChangeShapes Go.WideShapes Go.ChangeAt Go.RowKit
open Go.ChangeMaps (open_string shut_string)
open Cg
set_option linter.unusedVariables false

theorem own : ownKnob Try.prog.godebug = none := by kernel_rfl
theorem laidOut : laidOutB Try.prog = true := by kernel_rfl
mutual
theorem yl_ok {t : Int} {n : Nat} {ps : List Pd} (hok : ∀ q (hq : q < ps.length), OkL t n ps[q].2) : ∀ {x : T} {s : Sy}, sh ps x s = true → (s.1 = 1 → 0 ≤ s.2 ∧ s.2 < t) → ∀ y ∈ yl ps x s, 0 ≤ y ∧ y < t
  | .mk p k l, s, h, hs => by
    rw [yl]
    by_cases h4 : s.1 = 1
    · rw [if_pos h4]; intro y hy; simp at hy; subst hy; exact hs h4
    · rw [if_neg h4]
      obtain ⟨h1, -, -, h5⟩ := sh_node h h4
      obtain ⟨q, hq, -, e2⟩ := body_mem h1
      obtain ⟨j, hj, rfl⟩ := List.mem_iff_getElem.1 hq
      exact ylL_ok hok h5 (fun s hs e => by
        have := hok j hj s (by rw [e2]; exact hs)
        rcases this with h | h
        · exact h.2
        · omega)
theorem ylL_ok {t : Int} {n : Nat} {ps : List Pd} (hok : ∀ q (hq : q < ps.length), OkL t n ps[q].2) : ∀ {l : List T} {ss : List Sy}, shL ps l ss = true → (∀ s ∈ ss, s.1 = 1 → 0 ≤ s.2 ∧ s.2 < t) → ∀ y ∈ ylL ps l ss, 0 ≤ y ∧ y < t
  | [], ss, h, hs => by intro y hy; simp [ylL] at hy
  | x :: l, [], h, hs => by rw [shL] at h; simp at h
  | x :: l, s :: ss, h, hs => by
    rw [shL] at h; simp at h
    intro y hy
    rw [ylL] at hy
    simp only [List.headD_cons, List.tail_cons, List.mem_append] at hy
    rcases hy with hy | hy
    · exact yl_ok hok h.1 (hs s (by simp)) y hy
    · exact ylL_ok hok h.2 (fun s2 hs2 => hs s2 (by simp [hs2])) y hy
end
theorem thr_fine {t n : Int} {ps : List Pd} {x : T} (h : errT t n ps x = 0) : chk t n ps = 0 ∧ sh ps x (2, 0) = true ∧ wordT ps x = yl ps x (2, 0) ∧ (wordT ps x).length ≤ 1000 := by
  unfold errT at h
  by_cases e : chk t n ps = 0
  · rw [if_pos e] at h
    have h1 : (thr ps x (2, 0) 1 0 []).1 = 0 := by omega
    have h2 := trip h1
    have h4 := thr_fwd h2
    have h5 := thr_bound (ws := []) (by simp) h2
    refine ⟨e, h4.1, ?_, by unfold wordT; omega⟩
    unfold wordT; rw [h4.2.2.2.2.2.1]; rfl
  · rw [if_neg e] at h; exact absurd h e
theorem word_counted {t n : Int} {ps : List Pd} {x : T} (h : errT t n ps x = 0) : 1 ≤ cnt ps (wordT ps x) 0 0 (wordT ps x).length := by
  obtain ⟨-, h1, h2, -⟩ := thr_fine h
  have := sp_ren h1
  rw [← h2] at this
  exact cc_some.2 ⟨_, this⟩
theorem word_err {t n : Int} {ps : List Pd} {x : T} (h : errT t n ps x = 0) : ckW t n ps (wordT ps x) = 0 ∨ ckW t n ps (wordT ps x) = 2 := by
  obtain ⟨h0, h1, h2, -⟩ := thr_fine h
  unfold ckW
  rw [if_pos h0]
  by_cases e : 20 < (wordT ps x).length
  · rw [if_pos e]; exact Or.inr rfl
  · rw [if_neg e, if_pos]
    · exact Or.inl rfl
    · refine List.all_eq_true.2 fun y hy => ?_
      have hn : n = (n.toNat : Int) := by have := okTN_le (chk_zero h0).1; omega
      have hrg : Rg t n.toNat ps := rg_of (by rw [← hn]; exact h0)
      rw [h2] at hy
      have := yl_ok (fun q hq => hrg.ok q hq) h1 (fun h => absurd h (by decide)) y hy
      unfold okN; simp; exact this

/-! ### The walk: the Go text returns true. -/
set_option maxHeartbeats 16000000 in
set_option maxRecDepth 20000 in
theorem walk (a0t : Int) (a0n : Int) (a0s : Value) (a0p : List Pd) (v1 : Value) (a1x : T) (w : World) (w0s : Pds w a0s a0p) (w1s : Tx w (fun _ => True) v1 a1x) :
    Calls Try.prog 6 #[.agg #[.int .i64 a0t, .int .i64 a0n, a0s], v1] w fun e w' => e = .returned (.bool true) ∧ Below w.heap.size w w' := by
  have HP : Hid (Pds w a0s a0p) := w0s
  obtain ⟨ga, gc, rfl, -, -⟩ := w0s
  obtain ⟨gm, HGM⟩ : ∃ gm, Hid (a0p.length = gm) := ⟨_, (rfl : a0p.length = _)⟩
  rw [HGM.out] at HP ⊢
  revert HP HGM
  generalize a0t = t
  generalize a0n = n
  generalize a0p = ps
  intro HP HGM
  have HX : Hid (Tx w (fun _ => True) v1 a1x) := w1s
  obtain ⟨p, k, ao, cap, kids, vals, rfl, rfl, -⟩ := w1s.shape
  clear w1s
  obtain ⟨tn, HTN⟩ : ∃ tn, Hid (kids.length = tn) := ⟨_, (rfl : kids.length = _)⟩
  rw [HTN.out] at HX ⊢
  obtain ⟨x, HXT⟩ : ∃ x, Hid (T.mk p k kids = x) := ⟨_, (rfl : T.mk p k kids = _)⟩
  rw [HXT.out] at HX
  have hH1 : Hid (Below w.heap.size w ((w.alloc (Obj.cells #[.int .i64 t, .int .i64 n, .slice ga gm gc] 24)).alloc (Obj.cells #[.int .i64 p, .int .i64 k, .slice ao tn cap] 32)) ∧ ((w.alloc (Obj.cells #[.int .i64 t, .int .i64 n, .slice ga gm gc] 24)).alloc (Obj.cells #[.int .i64 p, .int .i64 k, .slice ao tn cap] 32)).heap[w.heap.size]? = some (Obj.cells #[.int .i64 t, .int .i64 n, .slice ga gm gc] 24) ∧ ((w.alloc (Obj.cells #[.int .i64 t, .int .i64 n, .slice ga gm gc] 24)).alloc (Obj.cells #[.int .i64 p, .int .i64 k, .slice ao tn cap] 32)).heap[w.heap.size + 1]? = some (Obj.cells #[.int .i64 p, .int .i64 k, .slice ao tn cap] 32)) := by
    refine ⟨below_alloc2 _ _ _, tbox_next (heap_alloc_new _ _) (below_alloc _ _), ?_⟩
    have := heap_alloc_new (w.alloc (Obj.cells #[.int .i64 t, .int .i64 n, .slice ga gm gc] 24)) (Obj.cells #[.int .i64 p, .int .i64 k, .slice ao tn cap] 32)
    rw [show (w.alloc (Obj.cells #[.int .i64 t, .int .i64 n, .slice ga gm gc] 24)).heap.size = w.heap.size + 1 by simp] at this
    exact this
  obtain ⟨er, HER⟩ : ∃ er, Hid (errT t n ps x = er) := ⟨_, (rfl : errT t n ps x = _)⟩
  obtain ⟨ce, HCE⟩ : ∃ ce, Hid (ckW t n ps (wordT ps x) = ce) := ⟨_, (rfl : ckW t n ps (wordT ps x) = _)⟩
  go_enter Try.func6, Try.ntmps6
  go_upto_region 1 with fail
  generalize (w.alloc (Obj.cells #[.int .i64 t, .int .i64 n, .slice ga gm gc] 24)).alloc (Obj.cells #[.int .i64 p, .int .i64 k, .slice ao tn cap] 32) = w1 at hH1 ⊢
  have HH1 : Hid (Below w.heap.size w w1 ∧ w1.heap[w.heap.size]? = some (Obj.cells #[.int .i64 t, .int .i64 n, .slice ga gm gc] 24) ∧ w1.heap[w.heap.size + 1]? = some (Obj.cells #[.int .i64 p, .int .i64 k, .slice ao tn cap] 32)) := hH1.out
  clear hH1
  go_wp2_with fail
  refine (brackets_any w1).mono ?_
  rintro _ w2 ⟨gb, rfl, hpb, hb⟩
  have HH2 : Hid (Below w.heap.size w w2 ∧ w2.heap[w.heap.size]? = some (Obj.cells #[.int .i64 t, .int .i64 n, .slice ga gm gc] 24) ∧ w2.heap[w.heap.size + 1]? = some (Obj.cells #[.int .i64 p, .int .i64 k, .slice ao tn cap] 32)) := ⟨HH1.out.1.trans (hb.mono HH1.out.1.size), tbox_next HH1.out.2.1 hb, tbox_next HH1.out.2.2 hb⟩
  have HPB : Hid (Pds w2 (.slice (some ⟨gb, 0, none⟩) 2 2) brs) := hpb
  clear hpb hb HH1
  go_wp2_with fail
  have hb3 := below_alloc w2 (Obj.cells #[.int .i64 0, .int .i64 1, .int .i64 0, .int .i64 1] 3)
  have hc := CTrees_any 2 1 _ _ brs [0, 1, 0, 1] (w2.alloc (Obj.cells #[.int .i64 0, .int .i64 1, .int .i64 0, .int .i64 1] 3)) (HPB.out.below hb3) (ints_blk (heap_alloc_new _ _) (by decide))
  rw [cTr_0101, ckW_brs (by decide) (by decide)] at hc
  refine hc.mono ?_
  rintro _ w3 ⟨rfl, hb⟩
  have hb4 := hb3.trans (hb.mono hb3.size)
  have HH3 : Hid (Below w.heap.size w w3 ∧ w3.heap[w.heap.size]? = some (Obj.cells #[.int .i64 t, .int .i64 n, .slice ga gm gc] 24) ∧ w3.heap[w.heap.size + 1]? = some (Obj.cells #[.int .i64 p, .int .i64 k, .slice ao tn cap] 32)) := ⟨HH2.out.1.trans (hb4.mono HH2.out.1.size), tbox_next HH2.out.2.1 hb4, tbox_next HH2.out.2.2 hb4⟩
  clear hb hb3 hb4 hc HH2 HPB
  have k0 := tcell_blk HH3.out.2.1 0
  have k1 := tcell_blk HH3.out.2.1 1
  have k2 := tcell_blk HH3.out.2.1 2
  have l0 := tcell_blk HH3.out.2.2 0
  have l1 := tcell_blk HH3.out.2.2 1
  have l2 := tcell_blk HH3.out.2.2 2
  simp only [List.getElem?_toArray, List.getElem?_cons_zero, List.getElem?_cons_succ] at k0 k1 k2 l0 l1 l2
  go_wp2_with fail
  have hc := Yield_any t n _ ps _ x (fun _ => True) w3 (HP.out.below HH3.out.1) (HX.out.bel HH3.out.1)
  refine hc.mono ?_
  rintro _ w4 ⟨ya, yn, yc, rfl, hb, hq⟩
  have HH4 : Hid (Below w.heap.size w w4 ∧ w4.heap[w.heap.size]? = some (Obj.cells #[.int .i64 t, .int .i64 n, .slice ga gm gc] 24)) := ⟨HH3.out.1.trans (hb.mono HH3.out.1.size), tbox_next HH3.out.2.1 hb⟩
  clear hc hb HH3 k0 k1 k2 l0 l1 l2
  rw [HER.out]
  have k0 := tcell_blk HH4.out.2 0
  have k1 := tcell_blk HH4.out.2 1
  have k2 := tcell_blk HH4.out.2 2
  simp only [List.getElem?_toArray, List.getElem?_cons_zero, List.getElem?_cons_succ] at k0 k1 k2
  by_cases hz : er = 0
  · subst hz
    rw [HER.out, if_pos rfl] at hq
    have HI : Hid (Ints w4 (.slice ya yn yc) (wordT ps x)) := ints_of_own hq (by have := (thr_fine HER.out).2.2.2; omega)
    have HN : Hid (ce = 0 → 1 ≤ cTr t n ps (wordT ps x)) := fun h => by
      unfold cTr
      rw [if_pos (HCE.out.trans h)]
      exact word_counted HER.out
    have HE : Hid (ce = 0 ∨ ce = 2) := by
      show _ ∨ _
      rw [← HCE.out]
      exact word_err HER.out
    have hc := CTrees_any t n _ _ ps (wordT ps x) w4 (HP.out.below HH4.out.1) HI.out
    rw [HCE.out] at hc
    generalize cTr t n ps (wordT ps x) = nn at hc HN
    clear hq
    go_wp2_with fail
    refine hc.mono ?_
    rintro _ w5 ⟨rfl, hb⟩
    have HB5 : Hid (Below w.heap.size w w5) := HH4.out.1.trans (hb.mono HH4.out.1.size)
    clear hc hb HH4 k0 k1 k2
    rcases HE.out with rfl | rfl
    · have h1 : (1 : Int) ≤ (nn : Int) := by have := HN.out rfl; omega
      go_wp2_with fail
      go_ret
      exact ⟨by simp, HB5.out⟩
    · go_wp2_with fail
      go_ret
      exact ⟨by simp, HB5.out⟩
  · rw [HER.out, if_neg hz] at hq
    simp only [Value.slice.injEq] at hq
    obtain ⟨rfl, rfl, rfl⟩ := hq
    have hb0 : (er != 0) = true := by simp; exact hz
    have hc := CTrees_any t n _ _ ps [] w4 (HP.out.below HH4.out.1) (ints_nil _)
    generalize cTr t n ps [] = nn at hc
    generalize ckW t n ps [] = ce2 at hc
    go_wp2_with fail
    refine hc.mono ?_
    rintro _ w5 ⟨rfl, hb⟩
    have HB5 : Hid (Below w.heap.size w w5) := HH4.out.1.trans (hb.mono HH4.out.1.size)
    clear hc hb HH4 k0 k1 k2
    go_wp2_with fail
    go_ret
    exact ⟨by simp, HB5.out⟩

/-! ### What the walk gives, for every argument -/
set_option maxRecDepth 100000 in
theorem contract (H : Type) (enc : TypeId × Value → H) (W : World) (base : Nat) (args : Array Value) (ds gs : List (DataW H)) (before : List MemPlace)
    (hval : ∀ (j : Nat) t v, Try.f6.params[j]? = some t → args[j]? = some v → Value.okWide Try.prog W .any base t v)
    (hW : DataW.Whole enc Try.prog Try.f6.params.toList Rows.treesWordSpec.vars false W args.toList ds gs before) (hsz : (DataW.weightsEach Try.prog (Try.f6.params.toList ++ Rows.treesWordSpec.plain.varTypes Try.prog) (ds ++ gs)).all (· ≤ reachBytes) = true) :
    Calls Try.prog 6 args W fun e W' => ∃ v, e = .returned v ∧ Rows.treesWordSpec.post enc Try.prog Try.f6 false true false false W args v W' := by
  have hW' := hW
  obtain ⟨p, q, hA0, hV, rfl, hfz, hnd⟩ := hW
  have hA : DataW.TrodAll enc Try.prog W 0 (fun _ => true) true Try.f6.params.toList args.toList ds p := hA0
  rw [Try.params6] at hA hval hsz
  obtain ⟨v0, vs0, d0, ds0, p0, q0, hargs, rfl, rfl, h0, r0⟩ := trodAll_cons hA
  obtain ⟨v1, vs1, d1, ds1, p1, q1, rfl, rfl, rfl, h1, r1⟩ := trodAll_cons r0
  obtain ⟨rfl, rfl, rfl⟩ := trodAll_nil r1
  obtain rfl : args = #[v0, v1] := by cases args; simp_all
  obtain ⟨rfl, rfl⟩ := trodVars_none hV
  have k0 := h0
  have lt0 : ∀ x ∈ p0, x.block < W.heap.size := by obtain ⟨m, hm⟩ := k0; exact DataW.trod_lt m _ _ _ hm
  obtain ⟨a0t, a0n, a0s, a0p, rfl, w0s⟩ := open_gram (hval 0 24 v0 rfl rfl) h0
  have k1 := h1
  have lt1 : ∀ x ∈ p1, x.block < W.heap.size := by obtain ⟨m, hm⟩ := k1; exact DataW.trod_lt m _ _ _ hm
  obtain ⟨a1x, w1s⟩ := open_tree (hval 1 32 v1 rfl rfl) h1
  clear hA0
  refine (walk a0t a0n a0s a0p _ a1x W w0s w1s).mono fun e W' ⟨he, bel⟩ => ?_
  subst he
  exact ⟨_, rfl, _, _, _, [], _, [], hW', trodAll_mk1 (shut_bool Try.underlying4 _), (trodAll_cons_mk (Below.trod laidOut (by kernel_rfl) (of_decide_eq_true (by kernel_rfl)) k0 bel lt0) (trodAll_cons_mk (Below.trod laidOut (by kernel_rfl) (of_decide_eq_true (by kernel_rfl)) k1 bel lt1) trodAll_mk0)), rfl, bel.frame _, fun h => by cases h⟩

/-! ### The row's step -/
set_option maxRecDepth 100000 in
theorem lifted (os : Os) (started : os.Started) (H : Type) (enc : TypeId × Value → H) :
    ReturnsInHanded {} Try.checked os 6 .any (Rows.treesWordSpec.pre6 enc Try.prog Try.f6 Rows.treesWordRow.domain false) (Rows.treesWordSpec.post enc Try.prog Try.f6 false true false false) := by
  refine returnsInHanded_of_change_sized (C := Try.checked) own started (by kernel_rfl) Try.func6
    (ChangeSpec.witness6 (enc := enc) (C := Try.checked) false ⟨#[], #[.agg #[.int .i64 0, .int .i64 0, .slice none 0 0], .agg #[.int .i64 0, .int .i64 0, .slice none 0 0]], []⟩ 8 (by kernel_rfl) (by kernel_rfl) (by kernel_rfl) (by kernel_rfl)) ?_
  intro W base args ds gs before hval hW hcnd hsz _
  exact contract H enc W base args ds gs before hval hW hsz

theorem over : Rows.treesWordRow.holds Try.pinned (OpenSpec.ofChange Rows.treesWordSpec) :=
  OpenClaim.holds_of_wide 6 Try.f6 rfl rfl rfl rfl rfl rfl rfl ⟨rfl, rfl, rfl, rfl, rfl⟩ rfl rfl rfl rfl rfl (by kernel_rfl) Try.func6 (by kernel_rfl)
    (of_decide_eq_true (by kernel_rfl)) (by unfold Func.isWrapper; first | (rw [if_pos (by decide +kernel)]; kernel_rfl) | (rw [if_neg (by decide +kernel)]; exact ⟨rfl, rfl⟩))
    (fun os started H enc _ => lifted os started H enc)

end Go.Proofs.Ytmcmidfpglhnmaa.treesWord
namespace Go.Proofs.Ytmcmidfpglhnmaa
/-- The given statement. -/
theorem treesWord_holds : Rows.TreesWordSaid := treesWord.over
#print axioms treesWord_holds
end Go.Proofs.Ytmcmidfpglhnmaa
