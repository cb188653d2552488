/-
  ClimbSays returns true whatever grammar, rows, climber and terminal are handed in, and changes nothing that it was handed; no condition.
-/
import Derived.Test.YtpfehghicaaghaaRows
import Derived.WalkKit
import Derived.ProofKit
import Derived.OpenShut
import Derived.ShutString
import Derived.SizedLaws
import Derived.ChangeOld
import Derived.Below
import Derived.Carry
import Derived.WalkLawsBesides
import Derived.WalkSpells
import Derived.Test.YtpfehghicaaghaaOpens
import Derived.Deep.Cut
import Derived.Test.YtpfehghicaaghaaClSy
import Derived.Test.YtpfehghicaaghaaClPe
namespace Go.Proofs.Ytpfehghicaaghaa.climbSays
open Go.ChangeShapes Go.WideShapes Go.ChangeAt Go.RowKit
open Go.ChangeMaps (open_string shut_string)
open Cg
set_option linter.unusedVariables false

theorem own : ownKnob Try.prog.godebug = none := by kernel_rfl
theorem laidOut : laidOutB Try.prog = true := by kernel_rfl
theorem bytes49 : Try.prog.bytesOf 49 = 32 := by kernel_rfl
section
variable {H : Type} {enc : TypeId × Value → H}
set_option maxRecDepth 20000 in
theorem open_rwsv {W : World} {r : Reach} {b0 : Nat} {v : Value} {d : DataW H} {p : List MemPlace} (hv : Value.okWide Try.prog W r b0 40 v) (h : DataW.Trod enc Try.prog W 0 (fun _ => true) true 40 v d p) : ∃ l, Rws W v l := by
  obtain ⟨fuel, hf⟩ := h
  have hc : v.cells = #[v] := by
    obtain ⟨a, n, c, rfl⟩ := okWide_slice Try.underlying40 hv
    rfl
  rw [hc] at hf
  obtain ⟨u, l, e, hl⟩ := open_rws hf
  cases e
  exact ⟨l, hl⟩
set_option maxRecDepth 20000 in
theorem open_climber {W : World} {r : Reach} {b0 : Nat} {v : Value} {d : DataW H} {p : List MemPlace} (hv : Value.okWide Try.prog W r b0 43 v) (h : DataW.Trod enc Try.prog W 0 (fun _ => true) true 43 v d p) :
    ∃ tv l sn ov dn, v = .agg #[tv, .int .i64 sn, .int .i64 ov, .bool dn] ∧ Tds W tv l ∧ (l = [] ∨ ∃ el sp rest, d = .agg (.slice el sp :: rest) ∧ el.length = l.length) := by
  obtain ⟨cs, rfl, hsz⟩ := okWide_struct Try.underlying43 hv
  obtain ⟨fuel, hf⟩ := h
  obtain ⟨xs, n, hn, hxx, hl, hxl, hf⟩ := DataW.trod_struct Try.underlying43 hf
  rw [kcells43] at hl
  simp only [Value.cells] at hl hf
  obtain ⟨L⟩ := cs
  simp only at hl hf
  match L, hl with
  | [x0, x1, x2, x3], _ =>
    match xs, hxl with
    | [y0, y1, y2, y3], _ =>
      have f0 := hf 0 _ rfl
      have f1 := hf 1 _ rfl
      have f2 := hf 2 _ rfl
      have f3 := hf 3 _ rfl
      simp [kcells41, kcells3, kcells26, kcells4] at f0 f1 f2 f3
      obtain ⟨z1, e1, _, _⟩ := DataW.trod_int Try.underlying3 f1
      obtain ⟨z2, e2, _, _⟩ := DataW.trod_int Try.underlying26 f2
      obtain ⟨z3, e3, _⟩ := DataW.trod_bool Try.underlying4 f3
      obtain ⟨tv, l, e0, ht⟩ := open_tds_cells f0
      simp at e0 e1 e2 e3
      subst e0 e1 e2 e3
      refine ⟨x0, l, z1, z2, z3, rfl, ht, ?_⟩
      rcases Go.Deep.open_slice Try.underlying41 f0 with ⟨hcs, -⟩ | ⟨a', len', cap', m, nn, D, Pl, hcs, hb, hl1, hm, hmm, hy, hel⟩
      · left
        simp at hcs
        subst hcs
        obtain ⟨_, _, e5, -, -⟩ := ht
        simp only [Value.slice.injEq] at e5
        exact List.length_eq_zero_iff.1 e5.2.1.symm
      · right
        simp at hcs
        subst hcs
        obtain ⟨_, _, e5, -, -⟩ := ht
        simp only [Value.slice.injEq] at e5
        simp only [Prod.mk.injEq, List.map_cons, List.map_nil] at hxx
        refine ⟨_, _, _, by rw [hxx.1, hy], ?_⟩
        rw [List.length_map, List.length_range]; exact e5.2.1
end
theorem chkD_chkC {t n : Int} {ps : List Pd} {rows : List (List Int)} {l : List Td} {sn ov : Int} {dn ok : Bool} {e : Int} (h : chkD t n ps rows l sn = e) (h0 : e ≠ 0) : chkC t n ps rows l sn ov dn ok = e := by
  subst h
  unfold chkD at h0 ⊢
  unfold chkC
  by_cases h1 : chkR t n ps rows = 0
  · rw [if_pos h1] at h0 ⊢
    rw [if_pos h1]
    by_cases h2 : okC t n ps l sn = true
    · rw [if_pos h2] at h0; exact absurd rfl h0
    · rw [if_neg h2, if_neg h2]
  · rw [if_neg h1, if_neg h1]
theorem chkD_zero {t n : Int} {ps : List Pd} {rows : List (List Int)} {l : List Td} {sn : Int} (h : chkD t n ps rows l sn = 0) : chkR t n ps rows = 0 ∧ okC t n ps l sn = true := by
  unfold chkD at h
  split at h
  · rename_i h1
    split at h
    · rename_i h2; exact ⟨h1, h2⟩
    · omega
  · rename_i h1; exact absurd h h1
theorem chkD_bad {t n : Int} {ps : List Pd} {rows : List (List Int)} {l : List Td} {sn ov : Int} {dn ok : Bool} (h : chkD t n ps rows l sn = 0) (h1 : ok = false) : chkC t n ps rows l sn ov dn ok = 1 := by
  obtain ⟨a, b⟩ := chkD_zero h
  unfold chkC; rw [if_pos a, if_pos b, h1]; rfl
theorem chkD_over {t n : Int} {ps : List Pd} {rows : List (List Int)} {l : List Td} {sn ov : Int} {dn ok : Bool} (h : chkD t n ps rows l sn = 0) (h1 : ok = true) (h2 : ov ≠ 0 ∨ dn = true) : chkC t n ps rows l sn ov dn ok = 15 := by
  obtain ⟨a, b⟩ := chkD_zero h
  unfold chkC; rw [if_pos a, if_pos b, if_pos h1]
  by_cases h3 : ov = 0
  · rw [if_pos h3, if_pos (h2.resolve_left (fun e => e h3))]
  · rw [if_neg h3]
theorem chkD_fine {t n : Int} {ps : List Pd} {rows : List (List Int)} {l : List Td} {sn : Int} {ok : Bool} (h : chkD t n ps rows l sn = 0) (h1 : ok = true) : chkC t n ps rows l sn 0 false ok = 0 := by
  obtain ⟨a, b⟩ := chkD_zero h
  unfold chkC; rw [if_pos a, if_pos b, if_pos h1]; rfl
theorem ResP.out {w w' : World} {l : List Td} {sn ov : Int} {dn : Bool} {ev : List Ev} {er : Int} {e : Ending} (h : ResP w ⟨l, sn, ov, dn, ev, er⟩ e w') : ∃ ra rn rc ea en ec, e = .returned (.tuple #[.agg #[.slice ra rn rc, .int .i64 sn, .int .i64 ov, .bool dn], .slice ea en ec, .int .i64 er]) ∧ Dq w (.slice ra rn rc) l w' ∧ Dn w (.slice ea en ec) ev w' := h
theorem own_le {w : World} {base e size n : Nat} {v : Value} {xs : List Value} (h : w.ownsRow base e size v n xs) : n ≤ 9223372036854775807 := by
  rcases h.2 with ⟨-, h0⟩ | ⟨g, cap, cur, -, -, -, h1, h2, -⟩
  · omega
  · unfold maxLen at h2; omega
theorem Dq_tds {w0 w : World} {v : Value} {l : List Td} (h : Dq w0 v l w) : Tds w v l := tds_of_own h.own (own_le h.own)
theorem Dn_evs {w0 w : World} {v : Value} {l : List Ev} (h : Dn w0 v l w) : Evs w v l := evs_of_own h.own (own_le h.own)

/-! ### The walk: the Go text returns true. -/
set_option maxHeartbeats 16000000 in
set_option maxRecDepth 20000 in
theorem walk (a0t : Int) (a0n : Int) (a0s : Value) (a0p : List Pd) (v1 : Value) (a1l : List (List Int)) (a2s : Value) (a2l : List Td) (a2n : Int) (a2o : Int) (a2d : Bool) (a3 : Int) (w : World) (w0s : Pds w a0s a0p) (w1s : Rws w v1 a1l) (w2s : Tds w a2s a2l) (w2z : a2l.length ≤ 4398046510976) (w3 : (Lit.int .i64 a3).wf = true) :
    Calls Try.prog 4 #[.agg #[.int .i64 a0t, .int .i64 a0n, a0s], v1, .agg #[a2s, .int .i64 a2n, .int .i64 a2o, .bool a2d], .int .i64 a3] w fun e w' => e = .returned (.bool true) ∧ Below w.heap.size w w' := by
  have HP : Hid (Pds w a0s a0p) := w0s
  have HR : Hid (Rws w v1 a1l) := w1s
  have HT : Hid (Tds w a2s a2l) := w2s
  have HZ : Hid (a2l.length ≤ 4398046510976) := w2z
  obtain ⟨ga, gc, rfl, -, -⟩ := w0s
  obtain ⟨ra, rc, rfl, -, -⟩ := w1s
  obtain ⟨la, lc, rfl, -, -⟩ := w2s
  obtain ⟨gm, HGM⟩ : ∃ gm, Hid (a0p.length = gm) := ⟨_, (rfl : a0p.length = _)⟩
  obtain ⟨rm, HRM⟩ : ∃ rm, Hid (a1l.length = rm) := ⟨_, (rfl : a1l.length = _)⟩
  obtain ⟨ln, HLN⟩ : ∃ ln, Hid (a2l.length = ln) := ⟨_, (rfl : a2l.length = _)⟩
  rw [HGM.out] at HP ⊢
  rw [HRM.out] at HR ⊢
  rw [HLN.out] at HT ⊢
  clear w2z
  revert HZ
  revert HLN
  revert HT
  revert HRM
  revert HR
  revert HGM
  revert HP
  generalize a0t = t
  generalize a0n = n
  generalize a0p = ps
  generalize a1l = rows
  generalize a2l = l
  generalize a2n = sn
  generalize a2o = ov
  generalize a2d = dn
  generalize a3 = term
  intro HP HGM HR HRM HT HLN HZ
  have HBX : Hid (Below w.heap.size w ((w.alloc (Obj.cells #[.int .i64 t, .int .i64 n, .slice ga gm gc] 24)).alloc (Obj.cells #[.slice la ln lc, .int .i64 sn, .int .i64 ov, .bool dn] 43))) := below_alloc2 _ _ _
  have HC1 : Hid (((w.alloc (Obj.cells #[.int .i64 t, .int .i64 n, .slice ga gm gc] 24)).alloc (Obj.cells #[.slice la ln lc, .int .i64 sn, .int .i64 ov, .bool dn] 43)).heap[w.heap.size]? = some (Obj.cells #[.int .i64 t, .int .i64 n, .slice ga gm gc] 24) ∧ ((w.alloc (Obj.cells #[.int .i64 t, .int .i64 n, .slice ga gm gc] 24)).alloc (Obj.cells #[.slice la ln lc, .int .i64 sn, .int .i64 ov, .bool dn] 43)).heap[w.heap.size + 1]? = some (Obj.cells #[.slice la ln lc, .int .i64 sn, .int .i64 ov, .bool dn] 43)) := ⟨tbox_next (heap_alloc_new _ _) (below_alloc _ _), heap_alloc2_new w _ _⟩
  go_enter Try.func4, Try.ntmps4
  go_upto_region 1 with fail
  generalize ((w.alloc (Obj.cells #[.int .i64 t, .int .i64 n, .slice ga gm gc] 24)).alloc (Obj.cells #[.slice la ln lc, .int .i64 sn, .int .i64 ov, .bool dn] 43)) = w1 at HBX HC1 ⊢
  obtain ⟨g, HG⟩ : ∃ g, Hid (w.heap.size = g) := ⟨_, (rfl : w.heap.size = w.heap.size)⟩
  rw [HG.out] at HC1 ⊢
  have hcall := Begin_any w1
  go_wp2_with fail
  refine hcall.mono ?_
  rintro _ w2 ⟨ba, bn, bc, rfl, hd⟩
  have HBA : Hid (Below w2.heap.size w2 (w2.alloc (Obj.cells #[.bool false, .int .i64 0, .int .i64 2, .int .i64 0] 49))) := below_alloc _ _
  have HD := hd.next HBA.out
  have HC2 : Hid (Below w.heap.size w (w2.alloc (Obj.cells #[.bool false, .int .i64 0, .int .i64 2, .int .i64 0] 49)) ∧ (w2.alloc (Obj.cells #[.bool false, .int .i64 0, .int .i64 2, .int .i64 0] 49)).heap[g]? = some (Obj.cells #[.int .i64 t, .int .i64 n, .slice ga gm gc] 24) ∧ (w2.alloc (Obj.cells #[.bool false, .int .i64 0, .int .i64 2, .int .i64 0] 49)).heap[g + 1]? = some (Obj.cells #[.slice la ln lc, .int .i64 sn, .int .i64 ov, .bool dn] 43)) := ⟨HBX.out.trans (HD.bel.mono HBX.out.size), tbox_next HC1.out.1 HD.bel, tbox_next HC1.out.2 HD.bel⟩
  have hrow := own_new (B := w2.heap.size) (n := 1) (size := 4) (heap_alloc_new w2 (Obj.cells #[.bool false, .int .i64 0, .int .i64 2, .int .i64 0] 49)) (Nat.le_refl _) (by omega) rfl
  have hcall2 := sameClimber_same (.slice ba bn bc) (.slice (some ⟨w2.heap.size, 0, none⟩) 1 1) [symT (2, 0)] 0 0 false _ (tds_of_own HD.own (by simp)) (tds_of_own (base := w2.heap.size) hrow (by simp))
  clear hcall hd HC1 HBX
  go_wp2_with fail
  refine hcall2.mono ?_
  rintro _ w3 ⟨rfl, hb3⟩
  have HC3 : Hid (Below w.heap.size w w3 ∧ w3.heap[g]? = some (Obj.cells #[.int .i64 t, .int .i64 n, .slice ga gm gc] 24) ∧ w3.heap[g + 1]? = some (Obj.cells #[.slice la ln lc, .int .i64 sn, .int .i64 ov, .bool dn] 43)) := ⟨HC2.out.1.trans (hb3.mono HC2.out.1.size), tbox_next HC2.out.2.1 hb3, tbox_next HC2.out.2.2 hb3⟩
  clear hcall2 hb3 HC2 HD hrow HBA
  have hcall := RightClimber_any t n (.slice ga gm gc) ps (.slice ra rm rc) rows (.slice la ln lc) l sn ov dn w3 (HP.out.below HC3.out.1) (HR.out.below HC3.out.1) (HT.out.below HC3.out.1)
  obtain ⟨ce, HCE⟩ : ∃ ce, Hid (chkD t n ps rows l sn = ce) := ⟨_, rfl⟩
  rw [HCE.out] at hcall
  have k0 := tcell_blk HC3.out.2.1 0
  have k1 := tcell_blk HC3.out.2.1 1
  have k2 := tcell_blk HC3.out.2.1 2
  have c0 := tcell_blk HC3.out.2.2 0
  have c1 := tcell_blk HC3.out.2.2 1
  have c2 := tcell_blk HC3.out.2.2 2
  have c3 := tcell_blk HC3.out.2.2 3
  simp only [List.getElem?_toArray, List.getElem?_cons_zero, List.getElem?_cons_succ] at k0 k1 k2 c0 c1 c2 c3
  go_wp2_with fail
  refine hcall.mono ?_
  rintro _ w4 ⟨rfl, hb4⟩
  have HC4 : Hid (Below w.heap.size w w4 ∧ w4.heap[g]? = some (Obj.cells #[.int .i64 t, .int .i64 n, .slice ga gm gc] 24) ∧ w4.heap[g + 1]? = some (Obj.cells #[.slice la ln lc, .int .i64 sn, .int .i64 ov, .bool dn] 43)) := ⟨HC3.out.1.trans (hb4.mono HC3.out.1.size), tbox_next HC3.out.2.1 hb4, tbox_next HC3.out.2.2 hb4⟩
  clear hcall hb4 k0 k1 k2 c0 c1 c2 c3 HC3
  have HB4 : Hid (Below w.heap.size w w4) := HC4.out.1
  have HG4 : Hid _ := HC4.out.2
  clear HC4
  by_cases hz : ce = 0
  · subst hz
    have HZR : Hid _ := chkD_zero HCE.out
    obtain ⟨nn, rfl⟩ : ∃ nn : Nat, n = (nn : Int) := ⟨n.toNat, by have := okTN_le (chk_zero (chkR_zero HZR.out.1).1).1; omega⟩
    obtain ⟨tt, rfl⟩ : ∃ tt : Nat, t = (tt : Int) := ⟨t.toNat, by have := okTN_le (chk_zero (chkR_zero HZR.out.1).1).1; omega⟩
    have HLK : Hid ((∀ y ∈ l, okT (tt : Int) (nn : Int) ps y = true) ∧ l.length ≤ 60 ∧ (0 ≤ sn ∧ sn ≤ 1099511627776)) := by
      have h := okC_zero HZR.out.2
      exact ⟨fun y hy => h.1 y (List.mem_reverse.2 hy), by have := h.2.1; simpa using this, h.2.2⟩
    clear HZR
    by_cases ht1 : term < 0
    · have HT1 : Hid ((decide (0 ≤ term) && decide (term < (tt : Int))) = false) := by show _ = _; simp; omega
      by_cases hov : ov = 0
      · subst hov
        have hov1 : ((0 : Int) != 0) = false := by simp
        cases dn with
        | true =>
          have hcall := Push_err (tt : Int) (nn : Int) (.slice ga gm gc) ps (.slice ra rm rc) rows (.slice la ln lc) l sn 0 true term w4 (HP.out.below HB4.out) (HR.out.below HB4.out) (HT.out.below HB4.out) (by have := HZ.out; omega) 1 (chkD_bad HCE.out HT1.out) (by decide)
          have k0 := tcell_blk HG4.out.1 0
          have k1 := tcell_blk HG4.out.1 1
          have k2 := tcell_blk HG4.out.1 2
          have c0 := tcell_blk HG4.out.2 0
          have c1 := tcell_blk HG4.out.2 1
          have c2 := tcell_blk HG4.out.2 2
          have c3 := tcell_blk HG4.out.2 3
          simp only [List.getElem?_toArray, List.getElem?_cons_zero, List.getElem?_cons_succ] at k0 k1 k2 c0 c1 c2 c3
          go_wp2_with fail
          refine hcall.mono ?_
          rintro _ w5 hres
          obtain ⟨paa, pan, pac, paea, paen, paec, rfl, hdq, hdn⟩ := ResP.out hres
          clear hres hcall k0 k1 k2 c0 c1 c2 c3
          obtain ⟨_, _, e8⟩ := own_len hdn.own
          simp only [Value.slice.injEq, List.length_nil] at e8
          obtain ⟨-, e9, -⟩ := e8
          subst e9
          have HBN6 : Hid (Below w5.heap.size w5 (w5.alloc (Obj.cells #[.slice paa pan pac, .int .i64 sn, .int .i64 0, .bool true] 43))) := below_alloc _ _
          have HQ6 : Hid (Tds (w5.alloc (Obj.cells #[.slice paa pan pac, .int .i64 sn, .int .i64 0, .bool true] 43)) (.slice paa pan pac) l) := (Dq_tds hdq).below HBN6.out
          have HV6 : Hid (Evs (w5.alloc (Obj.cells #[.slice paa pan pac, .int .i64 sn, .int .i64 0, .bool true] 43)) (.slice paea 0 paec) []) := (Dn_evs hdn).below HBN6.out
          have HB6 : Hid (Below w.heap.size w (w5.alloc (Obj.cells #[.slice paa pan pac, .int .i64 sn, .int .i64 0, .bool true] 43))) := HB4.out.trans ((hdq.bel.trans (HBN6.out.mono hdq.bel.size)).mono HB4.out.size)
          have HG6 : Hid ((w5.alloc (Obj.cells #[.slice paa pan pac, .int .i64 sn, .int .i64 0, .bool true] 43)).heap[g]? = some (Obj.cells #[.int .i64 (tt : Int), .int .i64 (nn : Int), .slice ga gm gc] 24) ∧ (w5.alloc (Obj.cells #[.slice paa pan pac, .int .i64 sn, .int .i64 0, .bool true] 43)).heap[g + 1]? = some (Obj.cells #[.slice la ln lc, .int .i64 sn, .int .i64 0, .bool true] 43)) := ⟨tbox_next (tbox_next HG4.out.1 hdq.bel) HBN6.out, tbox_next (tbox_next HG4.out.2 hdq.bel) HBN6.out⟩
          have HK6 : Hid ((w5.alloc (Obj.cells #[.slice paa pan pac, .int .i64 sn, .int .i64 0, .bool true] 43)).heap[w5.heap.size]? = some (Obj.cells #[.slice paa pan pac, .int .i64 sn, .int .i64 0, .bool true] 43)) := heap_alloc_new _ _
          obtain ⟨kp, HKE6⟩ : ∃ kp, Hid (w5.heap.size = kp) := ⟨_, (rfl : w5.heap.size = _)⟩
          clear hdq hdn
          go_upto_region 13 with fail
          generalize w5.alloc (Obj.cells #[.slice paa pan pac, .int .i64 sn, .int .i64 0, .bool true] 43) = w6 at HQ6 HV6 HB6 HG6 HK6 ⊢
          rw [HKE6.out] at HK6 ⊢
          clear HBN6
          have hcall := End_err (tt : Int) (nn : Int) (.slice ga gm gc) ps (.slice ra rm rc) rows (.slice la ln lc) l sn 0 true w6 (HP.out.below HB6.out) (HR.out.below HB6.out) (HT.out.below HB6.out) (by have := HZ.out; omega) 15 (chkD_over HCE.out rfl (Or.inr rfl)) (by decide)
          have k0 := tcell_blk HG6.out.1 0
          have k1 := tcell_blk HG6.out.1 1
          have k2 := tcell_blk HG6.out.1 2
          have c0 := tcell_blk HG6.out.2 0
          have c1 := tcell_blk HG6.out.2 1
          have c2 := tcell_blk HG6.out.2 2
          have c3 := tcell_blk HG6.out.2 3
          simp only [List.getElem?_toArray, List.getElem?_cons_zero, List.getElem?_cons_succ] at k0 k1 k2 c0 c1 c2 c3
          go_wp2_with fail
          refine hcall.mono ?_
          rintro _ w7 hres
          obtain ⟨pba, pbn, pbc, pbea, pben, pbec, rfl, hdq, hdn⟩ := ResP.out hres
          clear hres hcall k0 k1 k2 c0 c1 c2 c3
          obtain ⟨_, _, e8⟩ := own_len hdn.own
          simp only [Value.slice.injEq, List.length_nil] at e8
          obtain ⟨-, e9, -⟩ := e8
          subst e9
          have HBN8 : Hid (Below w7.heap.size w7 (w7.alloc (Obj.cells #[.slice pba pbn pbc, .int .i64 sn, .int .i64 0, .bool true] 43))) := below_alloc _ _
          have HQ8 : Hid (Tds (w7.alloc (Obj.cells #[.slice pba pbn pbc, .int .i64 sn, .int .i64 0, .bool true] 43)) (.slice pba pbn pbc) l) := (Dq_tds hdq).below HBN8.out
          have HV8 : Hid (Evs (w7.alloc (Obj.cells #[.slice pba pbn pbc, .int .i64 sn, .int .i64 0, .bool true] 43)) (.slice pbea 0 pbec) []) := (Dn_evs hdn).below HBN8.out
          have HB8 : Hid (Below w.heap.size w (w7.alloc (Obj.cells #[.slice pba pbn pbc, .int .i64 sn, .int .i64 0, .bool true] 43))) := HB6.out.trans ((hdq.bel.trans (HBN8.out.mono hdq.bel.size)).mono HB6.out.size)
          have HG8 : Hid ((w7.alloc (Obj.cells #[.slice pba pbn pbc, .int .i64 sn, .int .i64 0, .bool true] 43)).heap[g]? = some (Obj.cells #[.int .i64 (tt : Int), .int .i64 (nn : Int), .slice ga gm gc] 24) ∧ (w7.alloc (Obj.cells #[.slice pba pbn pbc, .int .i64 sn, .int .i64 0, .bool true] 43)).heap[g + 1]? = some (Obj.cells #[.slice la ln lc, .int .i64 sn, .int .i64 0, .bool true] 43)) := ⟨tbox_next (tbox_next HG6.out.1 hdq.bel) HBN8.out, tbox_next (tbox_next HG6.out.2 hdq.bel) HBN8.out⟩
          have HK8 : Hid ((w7.alloc (Obj.cells #[.slice pba pbn pbc, .int .i64 sn, .int .i64 0, .bool true] 43)).heap[w7.heap.size]? = some (Obj.cells #[.slice pba pbn pbc, .int .i64 sn, .int .i64 0, .bool true] 43)) := heap_alloc_new _ _
          obtain ⟨ke, HKE8⟩ : ∃ ke, Hid (w7.heap.size = ke) := ⟨_, (rfl : w7.heap.size = _)⟩
          have HKP8 : Hid ((w7.alloc (Obj.cells #[.slice pba pbn pbc, .int .i64 sn, .int .i64 0, .bool true] 43)).heap[kp]? = some (Obj.cells #[.slice paa pan pac, .int .i64 sn, .int .i64 0, .bool true] 43)) := tbox_next (tbox_next HK6.out hdq.bel) HBN8.out
          have HQP8 : Hid (Tds (w7.alloc (Obj.cells #[.slice pba pbn pbc, .int .i64 sn, .int .i64 0, .bool true] 43)) (.slice paa pan pac) l) := (HQ6.out.below hdq.bel).below HBN8.out
          have HVP8 : Hid (Evs (w7.alloc (Obj.cells #[.slice pba pbn pbc, .int .i64 sn, .int .i64 0, .bool true] 43)) (.slice paea 0 paec) []) := (HV6.out.below hdq.bel).below HBN8.out
          clear hdq hdn
          go_upto_region 14 with fail
          generalize w7.alloc (Obj.cells #[.slice pba pbn pbc, .int .i64 sn, .int .i64 0, .bool true] 43) = w8 at HQ8 HV8 HB8 HG8 HK8 HKP8 HQP8 HVP8 ⊢
          rw [HKE8.out] at HK8 ⊢
          clear HBN8
          have k0 := tcell_blk HG8.out.1 0
          have k1 := tcell_blk HG8.out.1 1
          have k2 := tcell_blk HG8.out.1 2
          have c0 := tcell_blk HG8.out.2 0
          have c1 := tcell_blk HG8.out.2 1
          have c2 := tcell_blk HG8.out.2 2
          have c3 := tcell_blk HG8.out.2 3
          have d0 := tcell_blk HKP8.out 0
          have d1 := tcell_blk HKP8.out 1
          have d2 := tcell_blk HKP8.out 2
          have d3 := tcell_blk HKP8.out 3
          have f0 := tcell_blk HK8.out 0
          have f1 := tcell_blk HK8.out 1
          have f2 := tcell_blk HK8.out 2
          have f3 := tcell_blk HK8.out 3
          simp only [List.getElem?_toArray, List.getElem?_cons_zero, List.getElem?_cons_succ] at k0 k1 k2 c0 c1 c2 c3 d0 d1 d2 d3 f0 f1 f2 f3
          have hcall := clawed_err (tt : Int) (nn : Int) (.slice ga gm gc) ps (.slice ra rm rc) (.slice la ln lc) (.slice paa pan pac) l sn 0 true term 1 paea paec w8 (HP.out.below HB8.out) ⟨_, _, _, rfl⟩ (HT.out.below HB8.out) HQP8.out (by decide)
          go_wp2_with fail
          refine hcall.mono ?_
          rintro _ w9 ⟨rfl, hb9⟩
          have HB9 : Hid (Below w.heap.size w w9) := HB8.out.trans (hb9.mono HB8.out.size)
          have HG9 : Hid (w9.heap[g]? = some (Obj.cells #[.int .i64 (tt : Int), .int .i64 (nn : Int), .slice ga gm gc] 24) ∧ w9.heap[g + 1]? = some (Obj.cells #[.slice la ln lc, .int .i64 sn, .int .i64 0, .bool true] 43)) := ⟨tbox_next HG8.out.1 hb9, tbox_next HG8.out.2 hb9⟩
          have HK9 := tbox_next HK8.out hb9
          have HQ9 : Hid (Tds w9 (.slice pba pbn pbc) l) := HQ8.out.below hb9
          have HV9 : Hid (Evs w9 (.slice pbea 0 pbec) []) := HV8.out.below hb9
          clear hcall hb9 k0 k1 k2 c0 c1 c2 c3 d0 d1 d2 d3 f0 f1 f2 f3
          have k0 := tcell_blk HG9.out.1 0
          have k1 := tcell_blk HG9.out.1 1
          have k2 := tcell_blk HG9.out.1 2
          have c0 := tcell_blk HG9.out.2 0
          have c1 := tcell_blk HG9.out.2 1
          have c2 := tcell_blk HG9.out.2 2
          have c3 := tcell_blk HG9.out.2 3
          have f0 := tcell_blk HK9 0
          have f1 := tcell_blk HK9 1
          have f2 := tcell_blk HK9 2
          have f3 := tcell_blk HK9 3
          simp only [List.getElem?_toArray, List.getElem?_cons_zero, List.getElem?_cons_succ] at k0 k1 k2 c0 c1 c2 c3 f0 f1 f2 f3
          clear HK9
          have hcall := clawed_err (tt : Int) (nn : Int) (.slice ga gm gc) ps (.slice ra rm rc) (.slice la ln lc) (.slice pba pbn pbc) l sn 0 true (tt : Int) 15 pbea pbec w9 (HP.out.below HB9.out) ⟨_, _, _, rfl⟩ (HT.out.below HB9.out) HQ9.out (by decide)
          go_wp2_with fail
          refine hcall.mono ?_
          rintro _ w10 ⟨rfl, hb10⟩
          have HB10 : Hid (Below w.heap.size w w10) := HB9.out.trans (hb10.mono HB9.out.size)
          clear hcall hb10
          go_wp2_with fail
          go_ret
          exact ⟨rfl, HB10.out⟩
        | false =>
          have hcall := Push_err (tt : Int) (nn : Int) (.slice ga gm gc) ps (.slice ra rm rc) rows (.slice la ln lc) l sn 0 false term w4 (HP.out.below HB4.out) (HR.out.below HB4.out) (HT.out.below HB4.out) (by have := HZ.out; omega) 1 (chkD_bad HCE.out HT1.out) (by decide)
          have k0 := tcell_blk HG4.out.1 0
          have k1 := tcell_blk HG4.out.1 1
          have k2 := tcell_blk HG4.out.1 2
          have c0 := tcell_blk HG4.out.2 0
          have c1 := tcell_blk HG4.out.2 1
          have c2 := tcell_blk HG4.out.2 2
          have c3 := tcell_blk HG4.out.2 3
          simp only [List.getElem?_toArray, List.getElem?_cons_zero, List.getElem?_cons_succ] at k0 k1 k2 c0 c1 c2 c3
          go_wp2_with fail
          refine hcall.mono ?_
          rintro _ w5 hres
          obtain ⟨paa, pan, pac, paea, paen, paec, rfl, hdq, hdn⟩ := ResP.out hres
          clear hres hcall k0 k1 k2 c0 c1 c2 c3
          obtain ⟨_, _, e8⟩ := own_len hdn.own
          simp only [Value.slice.injEq, List.length_nil] at e8
          obtain ⟨-, e9, -⟩ := e8
          subst e9
          have HBN6 : Hid (Below w5.heap.size w5 (w5.alloc (Obj.cells #[.slice paa pan pac, .int .i64 sn, .int .i64 0, .bool false] 43))) := below_alloc _ _
          have HQ6 : Hid (Tds (w5.alloc (Obj.cells #[.slice paa pan pac, .int .i64 sn, .int .i64 0, .bool false] 43)) (.slice paa pan pac) l) := (Dq_tds hdq).below HBN6.out
          have HV6 : Hid (Evs (w5.alloc (Obj.cells #[.slice paa pan pac, .int .i64 sn, .int .i64 0, .bool false] 43)) (.slice paea 0 paec) []) := (Dn_evs hdn).below HBN6.out
          have HB6 : Hid (Below w.heap.size w (w5.alloc (Obj.cells #[.slice paa pan pac, .int .i64 sn, .int .i64 0, .bool false] 43))) := HB4.out.trans ((hdq.bel.trans (HBN6.out.mono hdq.bel.size)).mono HB4.out.size)
          have HG6 : Hid ((w5.alloc (Obj.cells #[.slice paa pan pac, .int .i64 sn, .int .i64 0, .bool false] 43)).heap[g]? = some (Obj.cells #[.int .i64 (tt : Int), .int .i64 (nn : Int), .slice ga gm gc] 24) ∧ (w5.alloc (Obj.cells #[.slice paa pan pac, .int .i64 sn, .int .i64 0, .bool false] 43)).heap[g + 1]? = some (Obj.cells #[.slice la ln lc, .int .i64 sn, .int .i64 0, .bool false] 43)) := ⟨tbox_next (tbox_next HG4.out.1 hdq.bel) HBN6.out, tbox_next (tbox_next HG4.out.2 hdq.bel) HBN6.out⟩
          have HK6 : Hid ((w5.alloc (Obj.cells #[.slice paa pan pac, .int .i64 sn, .int .i64 0, .bool false] 43)).heap[w5.heap.size]? = some (Obj.cells #[.slice paa pan pac, .int .i64 sn, .int .i64 0, .bool false] 43)) := heap_alloc_new _ _
          obtain ⟨kp, HKE6⟩ : ∃ kp, Hid (w5.heap.size = kp) := ⟨_, (rfl : w5.heap.size = _)⟩
          clear hdq hdn
          go_upto_region 13 with fail
          generalize w5.alloc (Obj.cells #[.slice paa pan pac, .int .i64 sn, .int .i64 0, .bool false] 43) = w6 at HQ6 HV6 HB6 HG6 HK6 ⊢
          rw [HKE6.out] at HK6 ⊢
          clear HBN6
          obtain ⟨⟨zl, zs, zo, zd, ze, zr⟩, HXE⟩ : ∃ X : Cres, Hid (X = clmR (tt : Int) ps rows l sn tt) := ⟨_, (rfl : _ = _)⟩
          have hcall := End_any (tt : Int) nn (.slice ga gm gc) ps (.slice ra rm rc) rows (.slice la ln lc) l sn 0 false w6 (HP.out.below HB6.out) (HR.out.below HB6.out) (HT.out.below HB6.out) (by have := HZ.out; omega)
          rw [endR_ok (Ok.of (HP.out.below HB6.out) (HR.out.below HB6.out) (chkD_zero HCE.out).1 (by omega)) (chkD_fine HCE.out rfl), ← HXE.out] at hcall
          have k0 := tcell_blk HG6.out.1 0
          have k1 := tcell_blk HG6.out.1 1
          have k2 := tcell_blk HG6.out.1 2
          have c0 := tcell_blk HG6.out.2 0
          have c1 := tcell_blk HG6.out.2 1
          have c2 := tcell_blk HG6.out.2 2
          have c3 := tcell_blk HG6.out.2 3
          simp only [List.getElem?_toArray, List.getElem?_cons_zero, List.getElem?_cons_succ] at k0 k1 k2 c0 c1 c2 c3
          go_wp2_with fail
          refine hcall.mono ?_
          rintro _ w7 hres
          obtain ⟨pba, pbn, pbc, pbea, pben, pbec, rfl, hdq, hdn⟩ := ResP.out hres
          clear hres hcall k0 k1 k2 c0 c1 c2 c3
          have HBN8 : Hid (Below w7.heap.size w7 (w7.alloc (Obj.cells #[.slice pba pbn pbc, .int .i64 zs, .int .i64 zo, .bool zd] 43))) := below_alloc _ _
          have HQ8 : Hid (Tds (w7.alloc (Obj.cells #[.slice pba pbn pbc, .int .i64 zs, .int .i64 zo, .bool zd] 43)) (.slice pba pbn pbc) zl) := (Dq_tds hdq).below HBN8.out
          have HV8 : Hid (Evs (w7.alloc (Obj.cells #[.slice pba pbn pbc, .int .i64 zs, .int .i64 zo, .bool zd] 43)) (.slice pbea pben pbec) ze) := (Dn_evs hdn).below HBN8.out
          have HB8 : Hid (Below w.heap.size w (w7.alloc (Obj.cells #[.slice pba pbn pbc, .int .i64 zs, .int .i64 zo, .bool zd] 43))) := HB6.out.trans ((hdq.bel.trans (HBN8.out.mono hdq.bel.size)).mono HB6.out.size)
          have HG8 : Hid ((w7.alloc (Obj.cells #[.slice pba pbn pbc, .int .i64 zs, .int .i64 zo, .bool zd] 43)).heap[g]? = some (Obj.cells #[.int .i64 (tt : Int), .int .i64 (nn : Int), .slice ga gm gc] 24) ∧ (w7.alloc (Obj.cells #[.slice pba pbn pbc, .int .i64 zs, .int .i64 zo, .bool zd] 43)).heap[g + 1]? = some (Obj.cells #[.slice la ln lc, .int .i64 sn, .int .i64 0, .bool false] 43)) := ⟨tbox_next (tbox_next HG6.out.1 hdq.bel) HBN8.out, tbox_next (tbox_next HG6.out.2 hdq.bel) HBN8.out⟩
          have HK8 : Hid ((w7.alloc (Obj.cells #[.slice pba pbn pbc, .int .i64 zs, .int .i64 zo, .bool zd] 43)).heap[w7.heap.size]? = some (Obj.cells #[.slice pba pbn pbc, .int .i64 zs, .int .i64 zo, .bool zd] 43)) := heap_alloc_new _ _
          obtain ⟨ke, HKE8⟩ : ∃ ke, Hid (w7.heap.size = ke) := ⟨_, (rfl : w7.heap.size = _)⟩
          have HKP8 : Hid ((w7.alloc (Obj.cells #[.slice pba pbn pbc, .int .i64 zs, .int .i64 zo, .bool zd] 43)).heap[kp]? = some (Obj.cells #[.slice paa pan pac, .int .i64 sn, .int .i64 0, .bool false] 43)) := tbox_next (tbox_next HK6.out hdq.bel) HBN8.out
          have HQP8 : Hid (Tds (w7.alloc (Obj.cells #[.slice pba pbn pbc, .int .i64 zs, .int .i64 zo, .bool zd] 43)) (.slice paa pan pac) l) := (HQ6.out.below hdq.bel).below HBN8.out
          have HVP8 : Hid (Evs (w7.alloc (Obj.cells #[.slice pba pbn pbc, .int .i64 zs, .int .i64 zo, .bool zd] 43)) (.slice paea 0 paec) []) := (HV6.out.below hdq.bel).below HBN8.out
          clear hdq hdn
          go_upto_region 14 with fail
          generalize w7.alloc (Obj.cells #[.slice pba pbn pbc, .int .i64 zs, .int .i64 zo, .bool zd] 43) = w8 at HQ8 HV8 HB8 HG8 HK8 HKP8 HQP8 HVP8 ⊢
          rw [HKE8.out] at HK8 ⊢
          clear HBN8
          have k0 := tcell_blk HG8.out.1 0
          have k1 := tcell_blk HG8.out.1 1
          have k2 := tcell_blk HG8.out.1 2
          have c0 := tcell_blk HG8.out.2 0
          have c1 := tcell_blk HG8.out.2 1
          have c2 := tcell_blk HG8.out.2 2
          have c3 := tcell_blk HG8.out.2 3
          have d0 := tcell_blk HKP8.out 0
          have d1 := tcell_blk HKP8.out 1
          have d2 := tcell_blk HKP8.out 2
          have d3 := tcell_blk HKP8.out 3
          have f0 := tcell_blk HK8.out 0
          have f1 := tcell_blk HK8.out 1
          have f2 := tcell_blk HK8.out 2
          have f3 := tcell_blk HK8.out 3
          simp only [List.getElem?_toArray, List.getElem?_cons_zero, List.getElem?_cons_succ] at k0 k1 k2 c0 c1 c2 c3 d0 d1 d2 d3 f0 f1 f2 f3
          have hcall := clawed_err (tt : Int) (nn : Int) (.slice ga gm gc) ps (.slice ra rm rc) (.slice la ln lc) (.slice paa pan pac) l sn 0 false term 1 paea paec w8 (HP.out.below HB8.out) ⟨_, _, _, rfl⟩ (HT.out.below HB8.out) HQP8.out (by decide)
          go_wp2_with fail
          refine hcall.mono ?_
          rintro _ w9 ⟨rfl, hb9⟩
          have HB9 : Hid (Below w.heap.size w w9) := HB8.out.trans (hb9.mono HB8.out.size)
          have HG9 : Hid (w9.heap[g]? = some (Obj.cells #[.int .i64 (tt : Int), .int .i64 (nn : Int), .slice ga gm gc] 24) ∧ w9.heap[g + 1]? = some (Obj.cells #[.slice la ln lc, .int .i64 sn, .int .i64 0, .bool false] 43)) := ⟨tbox_next HG8.out.1 hb9, tbox_next HG8.out.2 hb9⟩
          have HK9 := tbox_next HK8.out hb9
          have HQ9 : Hid (Tds w9 (.slice pba pbn pbc) zl) := HQ8.out.below hb9
          have HV9 : Hid (Evs w9 (.slice pbea pben pbec) ze) := HV8.out.below hb9
          clear hcall hb9 k0 k1 k2 c0 c1 c2 c3 d0 d1 d2 d3 f0 f1 f2 f3
          have k0 := tcell_blk HG9.out.1 0
          have k1 := tcell_blk HG9.out.1 1
          have k2 := tcell_blk HG9.out.1 2
          have c0 := tcell_blk HG9.out.2 0
          have c1 := tcell_blk HG9.out.2 1
          have c2 := tcell_blk HG9.out.2 2
          have c3 := tcell_blk HG9.out.2 3
          have f0 := tcell_blk HK9 0
          have f1 := tcell_blk HK9 1
          have f2 := tcell_blk HK9 2
          have f3 := tcell_blk HK9 3
          simp only [List.getElem?_toArray, List.getElem?_cons_zero, List.getElem?_cons_succ] at k0 k1 k2 c0 c1 c2 c3 f0 f1 f2 f3
          clear HK9
          have hcall := clawed_ok (tt : Int) nn (.slice ga gm gc) ps (.slice ra rm rc) rows (.slice la ln lc) (.slice pba pbn pbc) (.slice pbea pben pbec) l sn 0 false tt w9 (HT.out.below HB9.out) (Ok.of (HP.out.below HB9.out) (HR.out.below HB9.out) (chkD_zero HCE.out).1 (by omega)) HLK.out.1 HLK.out.2.1 HLK.out.2.2 ⟨zl, zs, zo, zd, ze, zr⟩ HXE.out HQ9.out HV9.out
          go_wp2_with fail
          refine hcall.mono ?_
          rintro _ w10 ⟨rfl, hb10⟩
          have HB10 : Hid (Below w.heap.size w w10) := HB9.out.trans (hb10.mono HB9.out.size)
          clear hcall hb10
          go_wp2_with fail
          go_ret
          exact ⟨rfl, HB10.out⟩
      · have hov1 : (ov != 0) = true := by simpa using hov
        have HOV : Hid (ov ≠ 0) := hov
        clear hov
        have hcall := Push_err (tt : Int) (nn : Int) (.slice ga gm gc) ps (.slice ra rm rc) rows (.slice la ln lc) l sn ov dn term w4 (HP.out.below HB4.out) (HR.out.below HB4.out) (HT.out.below HB4.out) (by have := HZ.out; omega) 1 (chkD_bad HCE.out HT1.out) (by decide)
        have k0 := tcell_blk HG4.out.1 0
        have k1 := tcell_blk HG4.out.1 1
        have k2 := tcell_blk HG4.out.1 2
        have c0 := tcell_blk HG4.out.2 0
        have c1 := tcell_blk HG4.out.2 1
        have c2 := tcell_blk HG4.out.2 2
        have c3 := tcell_blk HG4.out.2 3
        simp only [List.getElem?_toArray, List.getElem?_cons_zero, List.getElem?_cons_succ] at k0 k1 k2 c0 c1 c2 c3
        go_wp2_with fail
        refine hcall.mono ?_
        rintro _ w5 hres
        obtain ⟨paa, pan, pac, paea, paen, paec, rfl, hdq, hdn⟩ := ResP.out hres
        clear hres hcall k0 k1 k2 c0 c1 c2 c3
        obtain ⟨_, _, e8⟩ := own_len hdn.own
        simp only [Value.slice.injEq, List.length_nil] at e8
        obtain ⟨-, e9, -⟩ := e8
        subst e9
        have HBN6 : Hid (Below w5.heap.size w5 (w5.alloc (Obj.cells #[.slice paa pan pac, .int .i64 sn, .int .i64 ov, .bool dn] 43))) := below_alloc _ _
        have HQ6 : Hid (Tds (w5.alloc (Obj.cells #[.slice paa pan pac, .int .i64 sn, .int .i64 ov, .bool dn] 43)) (.slice paa pan pac) l) := (Dq_tds hdq).below HBN6.out
        have HV6 : Hid (Evs (w5.alloc (Obj.cells #[.slice paa pan pac, .int .i64 sn, .int .i64 ov, .bool dn] 43)) (.slice paea 0 paec) []) := (Dn_evs hdn).below HBN6.out
        have HB6 : Hid (Below w.heap.size w (w5.alloc (Obj.cells #[.slice paa pan pac, .int .i64 sn, .int .i64 ov, .bool dn] 43))) := HB4.out.trans ((hdq.bel.trans (HBN6.out.mono hdq.bel.size)).mono HB4.out.size)
        have HG6 : Hid ((w5.alloc (Obj.cells #[.slice paa pan pac, .int .i64 sn, .int .i64 ov, .bool dn] 43)).heap[g]? = some (Obj.cells #[.int .i64 (tt : Int), .int .i64 (nn : Int), .slice ga gm gc] 24) ∧ (w5.alloc (Obj.cells #[.slice paa pan pac, .int .i64 sn, .int .i64 ov, .bool dn] 43)).heap[g + 1]? = some (Obj.cells #[.slice la ln lc, .int .i64 sn, .int .i64 ov, .bool dn] 43)) := ⟨tbox_next (tbox_next HG4.out.1 hdq.bel) HBN6.out, tbox_next (tbox_next HG4.out.2 hdq.bel) HBN6.out⟩
        have HK6 : Hid ((w5.alloc (Obj.cells #[.slice paa pan pac, .int .i64 sn, .int .i64 ov, .bool dn] 43)).heap[w5.heap.size]? = some (Obj.cells #[.slice paa pan pac, .int .i64 sn, .int .i64 ov, .bool dn] 43)) := heap_alloc_new _ _
        obtain ⟨kp, HKE6⟩ : ∃ kp, Hid (w5.heap.size = kp) := ⟨_, (rfl : w5.heap.size = _)⟩
        clear hdq hdn
        go_upto_region 13 with fail
        generalize w5.alloc (Obj.cells #[.slice paa pan pac, .int .i64 sn, .int .i64 ov, .bool dn] 43) = w6 at HQ6 HV6 HB6 HG6 HK6 ⊢
        rw [HKE6.out] at HK6 ⊢
        clear HBN6
        have hcall := End_err (tt : Int) (nn : Int) (.slice ga gm gc) ps (.slice ra rm rc) rows (.slice la ln lc) l sn ov dn w6 (HP.out.below HB6.out) (HR.out.below HB6.out) (HT.out.below HB6.out) (by have := HZ.out; omega) 15 (chkD_over HCE.out rfl (Or.inl HOV.out)) (by decide)
        have k0 := tcell_blk HG6.out.1 0
        have k1 := tcell_blk HG6.out.1 1
        have k2 := tcell_blk HG6.out.1 2
        have c0 := tcell_blk HG6.out.2 0
        have c1 := tcell_blk HG6.out.2 1
        have c2 := tcell_blk HG6.out.2 2
        have c3 := tcell_blk HG6.out.2 3
        simp only [List.getElem?_toArray, List.getElem?_cons_zero, List.getElem?_cons_succ] at k0 k1 k2 c0 c1 c2 c3
        go_wp2_with fail
        refine hcall.mono ?_
        rintro _ w7 hres
        obtain ⟨pba, pbn, pbc, pbea, pben, pbec, rfl, hdq, hdn⟩ := ResP.out hres
        clear hres hcall k0 k1 k2 c0 c1 c2 c3
        obtain ⟨_, _, e8⟩ := own_len hdn.own
        simp only [Value.slice.injEq, List.length_nil] at e8
        obtain ⟨-, e9, -⟩ := e8
        subst e9
        have HBN8 : Hid (Below w7.heap.size w7 (w7.alloc (Obj.cells #[.slice pba pbn pbc, .int .i64 sn, .int .i64 ov, .bool dn] 43))) := below_alloc _ _
        have HQ8 : Hid (Tds (w7.alloc (Obj.cells #[.slice pba pbn pbc, .int .i64 sn, .int .i64 ov, .bool dn] 43)) (.slice pba pbn pbc) l) := (Dq_tds hdq).below HBN8.out
        have HV8 : Hid (Evs (w7.alloc (Obj.cells #[.slice pba pbn pbc, .int .i64 sn, .int .i64 ov, .bool dn] 43)) (.slice pbea 0 pbec) []) := (Dn_evs hdn).below HBN8.out
        have HB8 : Hid (Below w.heap.size w (w7.alloc (Obj.cells #[.slice pba pbn pbc, .int .i64 sn, .int .i64 ov, .bool dn] 43))) := HB6.out.trans ((hdq.bel.trans (HBN8.out.mono hdq.bel.size)).mono HB6.out.size)
        have HG8 : Hid ((w7.alloc (Obj.cells #[.slice pba pbn pbc, .int .i64 sn, .int .i64 ov, .bool dn] 43)).heap[g]? = some (Obj.cells #[.int .i64 (tt : Int), .int .i64 (nn : Int), .slice ga gm gc] 24) ∧ (w7.alloc (Obj.cells #[.slice pba pbn pbc, .int .i64 sn, .int .i64 ov, .bool dn] 43)).heap[g + 1]? = some (Obj.cells #[.slice la ln lc, .int .i64 sn, .int .i64 ov, .bool dn] 43)) := ⟨tbox_next (tbox_next HG6.out.1 hdq.bel) HBN8.out, tbox_next (tbox_next HG6.out.2 hdq.bel) HBN8.out⟩
        have HK8 : Hid ((w7.alloc (Obj.cells #[.slice pba pbn pbc, .int .i64 sn, .int .i64 ov, .bool dn] 43)).heap[w7.heap.size]? = some (Obj.cells #[.slice pba pbn pbc, .int .i64 sn, .int .i64 ov, .bool dn] 43)) := heap_alloc_new _ _
        obtain ⟨ke, HKE8⟩ : ∃ ke, Hid (w7.heap.size = ke) := ⟨_, (rfl : w7.heap.size = _)⟩
        have HKP8 : Hid ((w7.alloc (Obj.cells #[.slice pba pbn pbc, .int .i64 sn, .int .i64 ov, .bool dn] 43)).heap[kp]? = some (Obj.cells #[.slice paa pan pac, .int .i64 sn, .int .i64 ov, .bool dn] 43)) := tbox_next (tbox_next HK6.out hdq.bel) HBN8.out
        have HQP8 : Hid (Tds (w7.alloc (Obj.cells #[.slice pba pbn pbc, .int .i64 sn, .int .i64 ov, .bool dn] 43)) (.slice paa pan pac) l) := (HQ6.out.below hdq.bel).below HBN8.out
        have HVP8 : Hid (Evs (w7.alloc (Obj.cells #[.slice pba pbn pbc, .int .i64 sn, .int .i64 ov, .bool dn] 43)) (.slice paea 0 paec) []) := (HV6.out.below hdq.bel).below HBN8.out
        clear hdq hdn
        go_upto_region 14 with fail
        generalize w7.alloc (Obj.cells #[.slice pba pbn pbc, .int .i64 sn, .int .i64 ov, .bool dn] 43) = w8 at HQ8 HV8 HB8 HG8 HK8 HKP8 HQP8 HVP8 ⊢
        rw [HKE8.out] at HK8 ⊢
        clear HBN8
        have k0 := tcell_blk HG8.out.1 0
        have k1 := tcell_blk HG8.out.1 1
        have k2 := tcell_blk HG8.out.1 2
        have c0 := tcell_blk HG8.out.2 0
        have c1 := tcell_blk HG8.out.2 1
        have c2 := tcell_blk HG8.out.2 2
        have c3 := tcell_blk HG8.out.2 3
        have d0 := tcell_blk HKP8.out 0
        have d1 := tcell_blk HKP8.out 1
        have d2 := tcell_blk HKP8.out 2
        have d3 := tcell_blk HKP8.out 3
        have f0 := tcell_blk HK8.out 0
        have f1 := tcell_blk HK8.out 1
        have f2 := tcell_blk HK8.out 2
        have f3 := tcell_blk HK8.out 3
        simp only [List.getElem?_toArray, List.getElem?_cons_zero, List.getElem?_cons_succ] at k0 k1 k2 c0 c1 c2 c3 d0 d1 d2 d3 f0 f1 f2 f3
        have hcall := clawed_err (tt : Int) (nn : Int) (.slice ga gm gc) ps (.slice ra rm rc) (.slice la ln lc) (.slice paa pan pac) l sn ov dn term 1 paea paec w8 (HP.out.below HB8.out) ⟨_, _, _, rfl⟩ (HT.out.below HB8.out) HQP8.out (by decide)
        go_wp2_with fail
        refine hcall.mono ?_
        rintro _ w9 ⟨rfl, hb9⟩
        have HB9 : Hid (Below w.heap.size w w9) := HB8.out.trans (hb9.mono HB8.out.size)
        have HG9 : Hid (w9.heap[g]? = some (Obj.cells #[.int .i64 (tt : Int), .int .i64 (nn : Int), .slice ga gm gc] 24) ∧ w9.heap[g + 1]? = some (Obj.cells #[.slice la ln lc, .int .i64 sn, .int .i64 ov, .bool dn] 43)) := ⟨tbox_next HG8.out.1 hb9, tbox_next HG8.out.2 hb9⟩
        have HK9 := tbox_next HK8.out hb9
        have HQ9 : Hid (Tds w9 (.slice pba pbn pbc) l) := HQ8.out.below hb9
        have HV9 : Hid (Evs w9 (.slice pbea 0 pbec) []) := HV8.out.below hb9
        clear hcall hb9 k0 k1 k2 c0 c1 c2 c3 d0 d1 d2 d3 f0 f1 f2 f3
        have k0 := tcell_blk HG9.out.1 0
        have k1 := tcell_blk HG9.out.1 1
        have k2 := tcell_blk HG9.out.1 2
        have c0 := tcell_blk HG9.out.2 0
        have c1 := tcell_blk HG9.out.2 1
        have c2 := tcell_blk HG9.out.2 2
        have c3 := tcell_blk HG9.out.2 3
        have f0 := tcell_blk HK9 0
        have f1 := tcell_blk HK9 1
        have f2 := tcell_blk HK9 2
        have f3 := tcell_blk HK9 3
        simp only [List.getElem?_toArray, List.getElem?_cons_zero, List.getElem?_cons_succ] at k0 k1 k2 c0 c1 c2 c3 f0 f1 f2 f3
        clear HK9
        have hcall := clawed_err (tt : Int) (nn : Int) (.slice ga gm gc) ps (.slice ra rm rc) (.slice la ln lc) (.slice pba pbn pbc) l sn ov dn (tt : Int) 15 pbea pbec w9 (HP.out.below HB9.out) ⟨_, _, _, rfl⟩ (HT.out.below HB9.out) HQ9.out (by decide)
        go_wp2_with fail
        refine hcall.mono ?_
        rintro _ w10 ⟨rfl, hb10⟩
        have HB10 : Hid (Below w.heap.size w w10) := HB9.out.trans (hb10.mono HB9.out.size)
        clear hcall hb10
        go_wp2_with fail
        go_ret
        exact ⟨rfl, HB10.out⟩
    · by_cases ht2 : term ≥ (tt : Int)
      · have HT1 : Hid ((decide (0 ≤ term) && decide (term < (tt : Int))) = false) := by show _ = _; simp; omega
        by_cases hov : ov = 0
        · subst hov
          have hov1 : ((0 : Int) != 0) = false := by simp
          cases dn with
          | true =>
            have hcall := Push_err (tt : Int) (nn : Int) (.slice ga gm gc) ps (.slice ra rm rc) rows (.slice la ln lc) l sn 0 true term w4 (HP.out.below HB4.out) (HR.out.below HB4.out) (HT.out.below HB4.out) (by have := HZ.out; omega) 1 (chkD_bad HCE.out HT1.out) (by decide)
            have k0 := tcell_blk HG4.out.1 0
            have k1 := tcell_blk HG4.out.1 1
            have k2 := tcell_blk HG4.out.1 2
            have c0 := tcell_blk HG4.out.2 0
            have c1 := tcell_blk HG4.out.2 1
            have c2 := tcell_blk HG4.out.2 2
            have c3 := tcell_blk HG4.out.2 3
            simp only [List.getElem?_toArray, List.getElem?_cons_zero, List.getElem?_cons_succ] at k0 k1 k2 c0 c1 c2 c3
            go_wp2_with fail
            refine hcall.mono ?_
            rintro _ w5 hres
            obtain ⟨paa, pan, pac, paea, paen, paec, rfl, hdq, hdn⟩ := ResP.out hres
            clear hres hcall k0 k1 k2 c0 c1 c2 c3
            obtain ⟨_, _, e8⟩ := own_len hdn.own
            simp only [Value.slice.injEq, List.length_nil] at e8
            obtain ⟨-, e9, -⟩ := e8
            subst e9
            have HBN6 : Hid (Below w5.heap.size w5 (w5.alloc (Obj.cells #[.slice paa pan pac, .int .i64 sn, .int .i64 0, .bool true] 43))) := below_alloc _ _
            have HQ6 : Hid (Tds (w5.alloc (Obj.cells #[.slice paa pan pac, .int .i64 sn, .int .i64 0, .bool true] 43)) (.slice paa pan pac) l) := (Dq_tds hdq).below HBN6.out
            have HV6 : Hid (Evs (w5.alloc (Obj.cells #[.slice paa pan pac, .int .i64 sn, .int .i64 0, .bool true] 43)) (.slice paea 0 paec) []) := (Dn_evs hdn).below HBN6.out
            have HB6 : Hid (Below w.heap.size w (w5.alloc (Obj.cells #[.slice paa pan pac, .int .i64 sn, .int .i64 0, .bool true] 43))) := HB4.out.trans ((hdq.bel.trans (HBN6.out.mono hdq.bel.size)).mono HB4.out.size)
            have HG6 : Hid ((w5.alloc (Obj.cells #[.slice paa pan pac, .int .i64 sn, .int .i64 0, .bool true] 43)).heap[g]? = some (Obj.cells #[.int .i64 (tt : Int), .int .i64 (nn : Int), .slice ga gm gc] 24) ∧ (w5.alloc (Obj.cells #[.slice paa pan pac, .int .i64 sn, .int .i64 0, .bool true] 43)).heap[g + 1]? = some (Obj.cells #[.slice la ln lc, .int .i64 sn, .int .i64 0, .bool true] 43)) := ⟨tbox_next (tbox_next HG4.out.1 hdq.bel) HBN6.out, tbox_next (tbox_next HG4.out.2 hdq.bel) HBN6.out⟩
            have HK6 : Hid ((w5.alloc (Obj.cells #[.slice paa pan pac, .int .i64 sn, .int .i64 0, .bool true] 43)).heap[w5.heap.size]? = some (Obj.cells #[.slice paa pan pac, .int .i64 sn, .int .i64 0, .bool true] 43)) := heap_alloc_new _ _
            obtain ⟨kp, HKE6⟩ : ∃ kp, Hid (w5.heap.size = kp) := ⟨_, (rfl : w5.heap.size = _)⟩
            clear hdq hdn
            go_upto_region 13 with fail
            generalize w5.alloc (Obj.cells #[.slice paa pan pac, .int .i64 sn, .int .i64 0, .bool true] 43) = w6 at HQ6 HV6 HB6 HG6 HK6 ⊢
            rw [HKE6.out] at HK6 ⊢
            clear HBN6
            have hcall := End_err (tt : Int) (nn : Int) (.slice ga gm gc) ps (.slice ra rm rc) rows (.slice la ln lc) l sn 0 true w6 (HP.out.below HB6.out) (HR.out.below HB6.out) (HT.out.below HB6.out) (by have := HZ.out; omega) 15 (chkD_over HCE.out rfl (Or.inr rfl)) (by decide)
            have k0 := tcell_blk HG6.out.1 0
            have k1 := tcell_blk HG6.out.1 1
            have k2 := tcell_blk HG6.out.1 2
            have c0 := tcell_blk HG6.out.2 0
            have c1 := tcell_blk HG6.out.2 1
            have c2 := tcell_blk HG6.out.2 2
            have c3 := tcell_blk HG6.out.2 3
            simp only [List.getElem?_toArray, List.getElem?_cons_zero, List.getElem?_cons_succ] at k0 k1 k2 c0 c1 c2 c3
            go_wp2_with fail
            refine hcall.mono ?_
            rintro _ w7 hres
            obtain ⟨pba, pbn, pbc, pbea, pben, pbec, rfl, hdq, hdn⟩ := ResP.out hres
            clear hres hcall k0 k1 k2 c0 c1 c2 c3
            obtain ⟨_, _, e8⟩ := own_len hdn.own
            simp only [Value.slice.injEq, List.length_nil] at e8
            obtain ⟨-, e9, -⟩ := e8
            subst e9
            have HBN8 : Hid (Below w7.heap.size w7 (w7.alloc (Obj.cells #[.slice pba pbn pbc, .int .i64 sn, .int .i64 0, .bool true] 43))) := below_alloc _ _
            have HQ8 : Hid (Tds (w7.alloc (Obj.cells #[.slice pba pbn pbc, .int .i64 sn, .int .i64 0, .bool true] 43)) (.slice pba pbn pbc) l) := (Dq_tds hdq).below HBN8.out
            have HV8 : Hid (Evs (w7.alloc (Obj.cells #[.slice pba pbn pbc, .int .i64 sn, .int .i64 0, .bool true] 43)) (.slice pbea 0 pbec) []) := (Dn_evs hdn).below HBN8.out
            have HB8 : Hid (Below w.heap.size w (w7.alloc (Obj.cells #[.slice pba pbn pbc, .int .i64 sn, .int .i64 0, .bool true] 43))) := HB6.out.trans ((hdq.bel.trans (HBN8.out.mono hdq.bel.size)).mono HB6.out.size)
            have HG8 : Hid ((w7.alloc (Obj.cells #[.slice pba pbn pbc, .int .i64 sn, .int .i64 0, .bool true] 43)).heap[g]? = some (Obj.cells #[.int .i64 (tt : Int), .int .i64 (nn : Int), .slice ga gm gc] 24) ∧ (w7.alloc (Obj.cells #[.slice pba pbn pbc, .int .i64 sn, .int .i64 0, .bool true] 43)).heap[g + 1]? = some (Obj.cells #[.slice la ln lc, .int .i64 sn, .int .i64 0, .bool true] 43)) := ⟨tbox_next (tbox_next HG6.out.1 hdq.bel) HBN8.out, tbox_next (tbox_next HG6.out.2 hdq.bel) HBN8.out⟩
            have HK8 : Hid ((w7.alloc (Obj.cells #[.slice pba pbn pbc, .int .i64 sn, .int .i64 0, .bool true] 43)).heap[w7.heap.size]? = some (Obj.cells #[.slice pba pbn pbc, .int .i64 sn, .int .i64 0, .bool true] 43)) := heap_alloc_new _ _
            obtain ⟨ke, HKE8⟩ : ∃ ke, Hid (w7.heap.size = ke) := ⟨_, (rfl : w7.heap.size = _)⟩
            have HKP8 : Hid ((w7.alloc (Obj.cells #[.slice pba pbn pbc, .int .i64 sn, .int .i64 0, .bool true] 43)).heap[kp]? = some (Obj.cells #[.slice paa pan pac, .int .i64 sn, .int .i64 0, .bool true] 43)) := tbox_next (tbox_next HK6.out hdq.bel) HBN8.out
            have HQP8 : Hid (Tds (w7.alloc (Obj.cells #[.slice pba pbn pbc, .int .i64 sn, .int .i64 0, .bool true] 43)) (.slice paa pan pac) l) := (HQ6.out.below hdq.bel).below HBN8.out
            have HVP8 : Hid (Evs (w7.alloc (Obj.cells #[.slice pba pbn pbc, .int .i64 sn, .int .i64 0, .bool true] 43)) (.slice paea 0 paec) []) := (HV6.out.below hdq.bel).below HBN8.out
            clear hdq hdn
            go_upto_region 14 with fail
            generalize w7.alloc (Obj.cells #[.slice pba pbn pbc, .int .i64 sn, .int .i64 0, .bool true] 43) = w8 at HQ8 HV8 HB8 HG8 HK8 HKP8 HQP8 HVP8 ⊢
            rw [HKE8.out] at HK8 ⊢
            clear HBN8
            have k0 := tcell_blk HG8.out.1 0
            have k1 := tcell_blk HG8.out.1 1
            have k2 := tcell_blk HG8.out.1 2
            have c0 := tcell_blk HG8.out.2 0
            have c1 := tcell_blk HG8.out.2 1
            have c2 := tcell_blk HG8.out.2 2
            have c3 := tcell_blk HG8.out.2 3
            have d0 := tcell_blk HKP8.out 0
            have d1 := tcell_blk HKP8.out 1
            have d2 := tcell_blk HKP8.out 2
            have d3 := tcell_blk HKP8.out 3
            have f0 := tcell_blk HK8.out 0
            have f1 := tcell_blk HK8.out 1
            have f2 := tcell_blk HK8.out 2
            have f3 := tcell_blk HK8.out 3
            simp only [List.getElem?_toArray, List.getElem?_cons_zero, List.getElem?_cons_succ] at k0 k1 k2 c0 c1 c2 c3 d0 d1 d2 d3 f0 f1 f2 f3
            have hcall := clawed_err (tt : Int) (nn : Int) (.slice ga gm gc) ps (.slice ra rm rc) (.slice la ln lc) (.slice paa pan pac) l sn 0 true term 1 paea paec w8 (HP.out.below HB8.out) ⟨_, _, _, rfl⟩ (HT.out.below HB8.out) HQP8.out (by decide)
            go_wp2_with fail
            refine hcall.mono ?_
            rintro _ w9 ⟨rfl, hb9⟩
            have HB9 : Hid (Below w.heap.size w w9) := HB8.out.trans (hb9.mono HB8.out.size)
            have HG9 : Hid (w9.heap[g]? = some (Obj.cells #[.int .i64 (tt : Int), .int .i64 (nn : Int), .slice ga gm gc] 24) ∧ w9.heap[g + 1]? = some (Obj.cells #[.slice la ln lc, .int .i64 sn, .int .i64 0, .bool true] 43)) := ⟨tbox_next HG8.out.1 hb9, tbox_next HG8.out.2 hb9⟩
            have HK9 := tbox_next HK8.out hb9
            have HQ9 : Hid (Tds w9 (.slice pba pbn pbc) l) := HQ8.out.below hb9
            have HV9 : Hid (Evs w9 (.slice pbea 0 pbec) []) := HV8.out.below hb9
            clear hcall hb9 k0 k1 k2 c0 c1 c2 c3 d0 d1 d2 d3 f0 f1 f2 f3
            have k0 := tcell_blk HG9.out.1 0
            have k1 := tcell_blk HG9.out.1 1
            have k2 := tcell_blk HG9.out.1 2
            have c0 := tcell_blk HG9.out.2 0
            have c1 := tcell_blk HG9.out.2 1
            have c2 := tcell_blk HG9.out.2 2
            have c3 := tcell_blk HG9.out.2 3
            have f0 := tcell_blk HK9 0
            have f1 := tcell_blk HK9 1
            have f2 := tcell_blk HK9 2
            have f3 := tcell_blk HK9 3
            simp only [List.getElem?_toArray, List.getElem?_cons_zero, List.getElem?_cons_succ] at k0 k1 k2 c0 c1 c2 c3 f0 f1 f2 f3
            clear HK9
            have hcall := clawed_err (tt : Int) (nn : Int) (.slice ga gm gc) ps (.slice ra rm rc) (.slice la ln lc) (.slice pba pbn pbc) l sn 0 true (tt : Int) 15 pbea pbec w9 (HP.out.below HB9.out) ⟨_, _, _, rfl⟩ (HT.out.below HB9.out) HQ9.out (by decide)
            go_wp2_with fail
            refine hcall.mono ?_
            rintro _ w10 ⟨rfl, hb10⟩
            have HB10 : Hid (Below w.heap.size w w10) := HB9.out.trans (hb10.mono HB9.out.size)
            clear hcall hb10
            go_wp2_with fail
            go_ret
            exact ⟨rfl, HB10.out⟩
          | false =>
            have hcall := Push_err (tt : Int) (nn : Int) (.slice ga gm gc) ps (.slice ra rm rc) rows (.slice la ln lc) l sn 0 false term w4 (HP.out.below HB4.out) (HR.out.below HB4.out) (HT.out.below HB4.out) (by have := HZ.out; omega) 1 (chkD_bad HCE.out HT1.out) (by decide)
            have k0 := tcell_blk HG4.out.1 0
            have k1 := tcell_blk HG4.out.1 1
            have k2 := tcell_blk HG4.out.1 2
            have c0 := tcell_blk HG4.out.2 0
            have c1 := tcell_blk HG4.out.2 1
            have c2 := tcell_blk HG4.out.2 2
            have c3 := tcell_blk HG4.out.2 3
            simp only [List.getElem?_toArray, List.getElem?_cons_zero, List.getElem?_cons_succ] at k0 k1 k2 c0 c1 c2 c3
            go_wp2_with fail
            refine hcall.mono ?_
            rintro _ w5 hres
            obtain ⟨paa, pan, pac, paea, paen, paec, rfl, hdq, hdn⟩ := ResP.out hres
            clear hres hcall k0 k1 k2 c0 c1 c2 c3
            obtain ⟨_, _, e8⟩ := own_len hdn.own
            simp only [Value.slice.injEq, List.length_nil] at e8
            obtain ⟨-, e9, -⟩ := e8
            subst e9
            have HBN6 : Hid (Below w5.heap.size w5 (w5.alloc (Obj.cells #[.slice paa pan pac, .int .i64 sn, .int .i64 0, .bool false] 43))) := below_alloc _ _
            have HQ6 : Hid (Tds (w5.alloc (Obj.cells #[.slice paa pan pac, .int .i64 sn, .int .i64 0, .bool false] 43)) (.slice paa pan pac) l) := (Dq_tds hdq).below HBN6.out
            have HV6 : Hid (Evs (w5.alloc (Obj.cells #[.slice paa pan pac, .int .i64 sn, .int .i64 0, .bool false] 43)) (.slice paea 0 paec) []) := (Dn_evs hdn).below HBN6.out
            have HB6 : Hid (Below w.heap.size w (w5.alloc (Obj.cells #[.slice paa pan pac, .int .i64 sn, .int .i64 0, .bool false] 43))) := HB4.out.trans ((hdq.bel.trans (HBN6.out.mono hdq.bel.size)).mono HB4.out.size)
            have HG6 : Hid ((w5.alloc (Obj.cells #[.slice paa pan pac, .int .i64 sn, .int .i64 0, .bool false] 43)).heap[g]? = some (Obj.cells #[.int .i64 (tt : Int), .int .i64 (nn : Int), .slice ga gm gc] 24) ∧ (w5.alloc (Obj.cells #[.slice paa pan pac, .int .i64 sn, .int .i64 0, .bool false] 43)).heap[g + 1]? = some (Obj.cells #[.slice la ln lc, .int .i64 sn, .int .i64 0, .bool false] 43)) := ⟨tbox_next (tbox_next HG4.out.1 hdq.bel) HBN6.out, tbox_next (tbox_next HG4.out.2 hdq.bel) HBN6.out⟩
            have HK6 : Hid ((w5.alloc (Obj.cells #[.slice paa pan pac, .int .i64 sn, .int .i64 0, .bool false] 43)).heap[w5.heap.size]? = some (Obj.cells #[.slice paa pan pac, .int .i64 sn, .int .i64 0, .bool false] 43)) := heap_alloc_new _ _
            obtain ⟨kp, HKE6⟩ : ∃ kp, Hid (w5.heap.size = kp) := ⟨_, (rfl : w5.heap.size = _)⟩
            clear hdq hdn
            go_upto_region 13 with fail
            generalize w5.alloc (Obj.cells #[.slice paa pan pac, .int .i64 sn, .int .i64 0, .bool false] 43) = w6 at HQ6 HV6 HB6 HG6 HK6 ⊢
            rw [HKE6.out] at HK6 ⊢
            clear HBN6
            obtain ⟨⟨zl, zs, zo, zd, ze, zr⟩, HXE⟩ : ∃ X : Cres, Hid (X = clmR (tt : Int) ps rows l sn tt) := ⟨_, (rfl : _ = _)⟩
            have hcall := End_any (tt : Int) nn (.slice ga gm gc) ps (.slice ra rm rc) rows (.slice la ln lc) l sn 0 false w6 (HP.out.below HB6.out) (HR.out.below HB6.out) (HT.out.below HB6.out) (by have := HZ.out; omega)
            rw [endR_ok (Ok.of (HP.out.below HB6.out) (HR.out.below HB6.out) (chkD_zero HCE.out).1 (by omega)) (chkD_fine HCE.out rfl), ← HXE.out] at hcall
            have k0 := tcell_blk HG6.out.1 0
            have k1 := tcell_blk HG6.out.1 1
            have k2 := tcell_blk HG6.out.1 2
            have c0 := tcell_blk HG6.out.2 0
            have c1 := tcell_blk HG6.out.2 1
            have c2 := tcell_blk HG6.out.2 2
            have c3 := tcell_blk HG6.out.2 3
            simp only [List.getElem?_toArray, List.getElem?_cons_zero, List.getElem?_cons_succ] at k0 k1 k2 c0 c1 c2 c3
            go_wp2_with fail
            refine hcall.mono ?_
            rintro _ w7 hres
            obtain ⟨pba, pbn, pbc, pbea, pben, pbec, rfl, hdq, hdn⟩ := ResP.out hres
            clear hres hcall k0 k1 k2 c0 c1 c2 c3
            have HBN8 : Hid (Below w7.heap.size w7 (w7.alloc (Obj.cells #[.slice pba pbn pbc, .int .i64 zs, .int .i64 zo, .bool zd] 43))) := below_alloc _ _
            have HQ8 : Hid (Tds (w7.alloc (Obj.cells #[.slice pba pbn pbc, .int .i64 zs, .int .i64 zo, .bool zd] 43)) (.slice pba pbn pbc) zl) := (Dq_tds hdq).below HBN8.out
            have HV8 : Hid (Evs (w7.alloc (Obj.cells #[.slice pba pbn pbc, .int .i64 zs, .int .i64 zo, .bool zd] 43)) (.slice pbea pben pbec) ze) := (Dn_evs hdn).below HBN8.out
            have HB8 : Hid (Below w.heap.size w (w7.alloc (Obj.cells #[.slice pba pbn pbc, .int .i64 zs, .int .i64 zo, .bool zd] 43))) := HB6.out.trans ((hdq.bel.trans (HBN8.out.mono hdq.bel.size)).mono HB6.out.size)
            have HG8 : Hid ((w7.alloc (Obj.cells #[.slice pba pbn pbc, .int .i64 zs, .int .i64 zo, .bool zd] 43)).heap[g]? = some (Obj.cells #[.int .i64 (tt : Int), .int .i64 (nn : Int), .slice ga gm gc] 24) ∧ (w7.alloc (Obj.cells #[.slice pba pbn pbc, .int .i64 zs, .int .i64 zo, .bool zd] 43)).heap[g + 1]? = some (Obj.cells #[.slice la ln lc, .int .i64 sn, .int .i64 0, .bool false] 43)) := ⟨tbox_next (tbox_next HG6.out.1 hdq.bel) HBN8.out, tbox_next (tbox_next HG6.out.2 hdq.bel) HBN8.out⟩
            have HK8 : Hid ((w7.alloc (Obj.cells #[.slice pba pbn pbc, .int .i64 zs, .int .i64 zo, .bool zd] 43)).heap[w7.heap.size]? = some (Obj.cells #[.slice pba pbn pbc, .int .i64 zs, .int .i64 zo, .bool zd] 43)) := heap_alloc_new _ _
            obtain ⟨ke, HKE8⟩ : ∃ ke, Hid (w7.heap.size = ke) := ⟨_, (rfl : w7.heap.size = _)⟩
            have HKP8 : Hid ((w7.alloc (Obj.cells #[.slice pba pbn pbc, .int .i64 zs, .int .i64 zo, .bool zd] 43)).heap[kp]? = some (Obj.cells #[.slice paa pan pac, .int .i64 sn, .int .i64 0, .bool false] 43)) := tbox_next (tbox_next HK6.out hdq.bel) HBN8.out
            have HQP8 : Hid (Tds (w7.alloc (Obj.cells #[.slice pba pbn pbc, .int .i64 zs, .int .i64 zo, .bool zd] 43)) (.slice paa pan pac) l) := (HQ6.out.below hdq.bel).below HBN8.out
            have HVP8 : Hid (Evs (w7.alloc (Obj.cells #[.slice pba pbn pbc, .int .i64 zs, .int .i64 zo, .bool zd] 43)) (.slice paea 0 paec) []) := (HV6.out.below hdq.bel).below HBN8.out
            clear hdq hdn
            go_upto_region 14 with fail
            generalize w7.alloc (Obj.cells #[.slice pba pbn pbc, .int .i64 zs, .int .i64 zo, .bool zd] 43) = w8 at HQ8 HV8 HB8 HG8 HK8 HKP8 HQP8 HVP8 ⊢
            rw [HKE8.out] at HK8 ⊢
            clear HBN8
            have k0 := tcell_blk HG8.out.1 0
            have k1 := tcell_blk HG8.out.1 1
            have k2 := tcell_blk HG8.out.1 2
            have c0 := tcell_blk HG8.out.2 0
            have c1 := tcell_blk HG8.out.2 1
            have c2 := tcell_blk HG8.out.2 2
            have c3 := tcell_blk HG8.out.2 3
            have d0 := tcell_blk HKP8.out 0
            have d1 := tcell_blk HKP8.out 1
            have d2 := tcell_blk HKP8.out 2
            have d3 := tcell_blk HKP8.out 3
            have f0 := tcell_blk HK8.out 0
            have f1 := tcell_blk HK8.out 1
            have f2 := tcell_blk HK8.out 2
            have f3 := tcell_blk HK8.out 3
            simp only [List.getElem?_toArray, List.getElem?_cons_zero, List.getElem?_cons_succ] at k0 k1 k2 c0 c1 c2 c3 d0 d1 d2 d3 f0 f1 f2 f3
            have hcall := clawed_err (tt : Int) (nn : Int) (.slice ga gm gc) ps (.slice ra rm rc) (.slice la ln lc) (.slice paa pan pac) l sn 0 false term 1 paea paec w8 (HP.out.below HB8.out) ⟨_, _, _, rfl⟩ (HT.out.below HB8.out) HQP8.out (by decide)
            go_wp2_with fail
            refine hcall.mono ?_
            rintro _ w9 ⟨rfl, hb9⟩
            have HB9 : Hid (Below w.heap.size w w9) := HB8.out.trans (hb9.mono HB8.out.size)
            have HG9 : Hid (w9.heap[g]? = some (Obj.cells #[.int .i64 (tt : Int), .int .i64 (nn : Int), .slice ga gm gc] 24) ∧ w9.heap[g + 1]? = some (Obj.cells #[.slice la ln lc, .int .i64 sn, .int .i64 0, .bool false] 43)) := ⟨tbox_next HG8.out.1 hb9, tbox_next HG8.out.2 hb9⟩
            have HK9 := tbox_next HK8.out hb9
            have HQ9 : Hid (Tds w9 (.slice pba pbn pbc) zl) := HQ8.out.below hb9
            have HV9 : Hid (Evs w9 (.slice pbea pben pbec) ze) := HV8.out.below hb9
            clear hcall hb9 k0 k1 k2 c0 c1 c2 c3 d0 d1 d2 d3 f0 f1 f2 f3
            have k0 := tcell_blk HG9.out.1 0
            have k1 := tcell_blk HG9.out.1 1
            have k2 := tcell_blk HG9.out.1 2
            have c0 := tcell_blk HG9.out.2 0
            have c1 := tcell_blk HG9.out.2 1
            have c2 := tcell_blk HG9.out.2 2
            have c3 := tcell_blk HG9.out.2 3
            have f0 := tcell_blk HK9 0
            have f1 := tcell_blk HK9 1
            have f2 := tcell_blk HK9 2
            have f3 := tcell_blk HK9 3
            simp only [List.getElem?_toArray, List.getElem?_cons_zero, List.getElem?_cons_succ] at k0 k1 k2 c0 c1 c2 c3 f0 f1 f2 f3
            clear HK9
            have hcall := clawed_ok (tt : Int) nn (.slice ga gm gc) ps (.slice ra rm rc) rows (.slice la ln lc) (.slice pba pbn pbc) (.slice pbea pben pbec) l sn 0 false tt w9 (HT.out.below HB9.out) (Ok.of (HP.out.below HB9.out) (HR.out.below HB9.out) (chkD_zero HCE.out).1 (by omega)) HLK.out.1 HLK.out.2.1 HLK.out.2.2 ⟨zl, zs, zo, zd, ze, zr⟩ HXE.out HQ9.out HV9.out
            go_wp2_with fail
            refine hcall.mono ?_
            rintro _ w10 ⟨rfl, hb10⟩
            have HB10 : Hid (Below w.heap.size w w10) := HB9.out.trans (hb10.mono HB9.out.size)
            clear hcall hb10
            go_wp2_with fail
            go_ret
            exact ⟨rfl, HB10.out⟩
        · have hov1 : (ov != 0) = true := by simpa using hov
          have HOV : Hid (ov ≠ 0) := hov
          clear hov
          have hcall := Push_err (tt : Int) (nn : Int) (.slice ga gm gc) ps (.slice ra rm rc) rows (.slice la ln lc) l sn ov dn term w4 (HP.out.below HB4.out) (HR.out.below HB4.out) (HT.out.below HB4.out) (by have := HZ.out; omega) 1 (chkD_bad HCE.out HT1.out) (by decide)
          have k0 := tcell_blk HG4.out.1 0
          have k1 := tcell_blk HG4.out.1 1
          have k2 := tcell_blk HG4.out.1 2
          have c0 := tcell_blk HG4.out.2 0
          have c1 := tcell_blk HG4.out.2 1
          have c2 := tcell_blk HG4.out.2 2
          have c3 := tcell_blk HG4.out.2 3
          simp only [List.getElem?_toArray, List.getElem?_cons_zero, List.getElem?_cons_succ] at k0 k1 k2 c0 c1 c2 c3
          go_wp2_with fail
          refine hcall.mono ?_
          rintro _ w5 hres
          obtain ⟨paa, pan, pac, paea, paen, paec, rfl, hdq, hdn⟩ := ResP.out hres
          clear hres hcall k0 k1 k2 c0 c1 c2 c3
          obtain ⟨_, _, e8⟩ := own_len hdn.own
          simp only [Value.slice.injEq, List.length_nil] at e8
          obtain ⟨-, e9, -⟩ := e8
          subst e9
          have HBN6 : Hid (Below w5.heap.size w5 (w5.alloc (Obj.cells #[.slice paa pan pac, .int .i64 sn, .int .i64 ov, .bool dn] 43))) := below_alloc _ _
          have HQ6 : Hid (Tds (w5.alloc (Obj.cells #[.slice paa pan pac, .int .i64 sn, .int .i64 ov, .bool dn] 43)) (.slice paa pan pac) l) := (Dq_tds hdq).below HBN6.out
          have HV6 : Hid (Evs (w5.alloc (Obj.cells #[.slice paa pan pac, .int .i64 sn, .int .i64 ov, .bool dn] 43)) (.slice paea 0 paec) []) := (Dn_evs hdn).below HBN6.out
          have HB6 : Hid (Below w.heap.size w (w5.alloc (Obj.cells #[.slice paa pan pac, .int .i64 sn, .int .i64 ov, .bool dn] 43))) := HB4.out.trans ((hdq.bel.trans (HBN6.out.mono hdq.bel.size)).mono HB4.out.size)
          have HG6 : Hid ((w5.alloc (Obj.cells #[.slice paa pan pac, .int .i64 sn, .int .i64 ov, .bool dn] 43)).heap[g]? = some (Obj.cells #[.int .i64 (tt : Int), .int .i64 (nn : Int), .slice ga gm gc] 24) ∧ (w5.alloc (Obj.cells #[.slice paa pan pac, .int .i64 sn, .int .i64 ov, .bool dn] 43)).heap[g + 1]? = some (Obj.cells #[.slice la ln lc, .int .i64 sn, .int .i64 ov, .bool dn] 43)) := ⟨tbox_next (tbox_next HG4.out.1 hdq.bel) HBN6.out, tbox_next (tbox_next HG4.out.2 hdq.bel) HBN6.out⟩
          have HK6 : Hid ((w5.alloc (Obj.cells #[.slice paa pan pac, .int .i64 sn, .int .i64 ov, .bool dn] 43)).heap[w5.heap.size]? = some (Obj.cells #[.slice paa pan pac, .int .i64 sn, .int .i64 ov, .bool dn] 43)) := heap_alloc_new _ _
          obtain ⟨kp, HKE6⟩ : ∃ kp, Hid (w5.heap.size = kp) := ⟨_, (rfl : w5.heap.size = _)⟩
          clear hdq hdn
          go_upto_region 13 with fail
          generalize w5.alloc (Obj.cells #[.slice paa pan pac, .int .i64 sn, .int .i64 ov, .bool dn] 43) = w6 at HQ6 HV6 HB6 HG6 HK6 ⊢
          rw [HKE6.out] at HK6 ⊢
          clear HBN6
          have hcall := End_err (tt : Int) (nn : Int) (.slice ga gm gc) ps (.slice ra rm rc) rows (.slice la ln lc) l sn ov dn w6 (HP.out.below HB6.out) (HR.out.below HB6.out) (HT.out.below HB6.out) (by have := HZ.out; omega) 15 (chkD_over HCE.out rfl (Or.inl HOV.out)) (by decide)
          have k0 := tcell_blk HG6.out.1 0
          have k1 := tcell_blk HG6.out.1 1
          have k2 := tcell_blk HG6.out.1 2
          have c0 := tcell_blk HG6.out.2 0
          have c1 := tcell_blk HG6.out.2 1
          have c2 := tcell_blk HG6.out.2 2
          have c3 := tcell_blk HG6.out.2 3
          simp only [List.getElem?_toArray, List.getElem?_cons_zero, List.getElem?_cons_succ] at k0 k1 k2 c0 c1 c2 c3
          go_wp2_with fail
          refine hcall.mono ?_
          rintro _ w7 hres
          obtain ⟨pba, pbn, pbc, pbea, pben, pbec, rfl, hdq, hdn⟩ := ResP.out hres
          clear hres hcall k0 k1 k2 c0 c1 c2 c3
          obtain ⟨_, _, e8⟩ := own_len hdn.own
          simp only [Value.slice.injEq, List.length_nil] at e8
          obtain ⟨-, e9, -⟩ := e8
          subst e9
          have HBN8 : Hid (Below w7.heap.size w7 (w7.alloc (Obj.cells #[.slice pba pbn pbc, .int .i64 sn, .int .i64 ov, .bool dn] 43))) := below_alloc _ _
          have HQ8 : Hid (Tds (w7.alloc (Obj.cells #[.slice pba pbn pbc, .int .i64 sn, .int .i64 ov, .bool dn] 43)) (.slice pba pbn pbc) l) := (Dq_tds hdq).below HBN8.out
          have HV8 : Hid (Evs (w7.alloc (Obj.cells #[.slice pba pbn pbc, .int .i64 sn, .int .i64 ov, .bool dn] 43)) (.slice pbea 0 pbec) []) := (Dn_evs hdn).below HBN8.out
          have HB8 : Hid (Below w.heap.size w (w7.alloc (Obj.cells #[.slice pba pbn pbc, .int .i64 sn, .int .i64 ov, .bool dn] 43))) := HB6.out.trans ((hdq.bel.trans (HBN8.out.mono hdq.bel.size)).mono HB6.out.size)
          have HG8 : Hid ((w7.alloc (Obj.cells #[.slice pba pbn pbc, .int .i64 sn, .int .i64 ov, .bool dn] 43)).heap[g]? = some (Obj.cells #[.int .i64 (tt : Int), .int .i64 (nn : Int), .slice ga gm gc] 24) ∧ (w7.alloc (Obj.cells #[.slice pba pbn pbc, .int .i64 sn, .int .i64 ov, .bool dn] 43)).heap[g + 1]? = some (Obj.cells #[.slice la ln lc, .int .i64 sn, .int .i64 ov, .bool dn] 43)) := ⟨tbox_next (tbox_next HG6.out.1 hdq.bel) HBN8.out, tbox_next (tbox_next HG6.out.2 hdq.bel) HBN8.out⟩
          have HK8 : Hid ((w7.alloc (Obj.cells #[.slice pba pbn pbc, .int .i64 sn, .int .i64 ov, .bool dn] 43)).heap[w7.heap.size]? = some (Obj.cells #[.slice pba pbn pbc, .int .i64 sn, .int .i64 ov, .bool dn] 43)) := heap_alloc_new _ _
          obtain ⟨ke, HKE8⟩ : ∃ ke, Hid (w7.heap.size = ke) := ⟨_, (rfl : w7.heap.size = _)⟩
          have HKP8 : Hid ((w7.alloc (Obj.cells #[.slice pba pbn pbc, .int .i64 sn, .int .i64 ov, .bool dn] 43)).heap[kp]? = some (Obj.cells #[.slice paa pan pac, .int .i64 sn, .int .i64 ov, .bool dn] 43)) := tbox_next (tbox_next HK6.out hdq.bel) HBN8.out
          have HQP8 : Hid (Tds (w7.alloc (Obj.cells #[.slice pba pbn pbc, .int .i64 sn, .int .i64 ov, .bool dn] 43)) (.slice paa pan pac) l) := (HQ6.out.below hdq.bel).below HBN8.out
          have HVP8 : Hid (Evs (w7.alloc (Obj.cells #[.slice pba pbn pbc, .int .i64 sn, .int .i64 ov, .bool dn] 43)) (.slice paea 0 paec) []) := (HV6.out.below hdq.bel).below HBN8.out
          clear hdq hdn
          go_upto_region 14 with fail
          generalize w7.alloc (Obj.cells #[.slice pba pbn pbc, .int .i64 sn, .int .i64 ov, .bool dn] 43) = w8 at HQ8 HV8 HB8 HG8 HK8 HKP8 HQP8 HVP8 ⊢
          rw [HKE8.out] at HK8 ⊢
          clear HBN8
          have k0 := tcell_blk HG8.out.1 0
          have k1 := tcell_blk HG8.out.1 1
          have k2 := tcell_blk HG8.out.1 2
          have c0 := tcell_blk HG8.out.2 0
          have c1 := tcell_blk HG8.out.2 1
          have c2 := tcell_blk HG8.out.2 2
          have c3 := tcell_blk HG8.out.2 3
          have d0 := tcell_blk HKP8.out 0
          have d1 := tcell_blk HKP8.out 1
          have d2 := tcell_blk HKP8.out 2
          have d3 := tcell_blk HKP8.out 3
          have f0 := tcell_blk HK8.out 0
          have f1 := tcell_blk HK8.out 1
          have f2 := tcell_blk HK8.out 2
          have f3 := tcell_blk HK8.out 3
          simp only [List.getElem?_toArray, List.getElem?_cons_zero, List.getElem?_cons_succ] at k0 k1 k2 c0 c1 c2 c3 d0 d1 d2 d3 f0 f1 f2 f3
          have hcall := clawed_err (tt : Int) (nn : Int) (.slice ga gm gc) ps (.slice ra rm rc) (.slice la ln lc) (.slice paa pan pac) l sn ov dn term 1 paea paec w8 (HP.out.below HB8.out) ⟨_, _, _, rfl⟩ (HT.out.below HB8.out) HQP8.out (by decide)
          go_wp2_with fail
          refine hcall.mono ?_
          rintro _ w9 ⟨rfl, hb9⟩
          have HB9 : Hid (Below w.heap.size w w9) := HB8.out.trans (hb9.mono HB8.out.size)
          have HG9 : Hid (w9.heap[g]? = some (Obj.cells #[.int .i64 (tt : Int), .int .i64 (nn : Int), .slice ga gm gc] 24) ∧ w9.heap[g + 1]? = some (Obj.cells #[.slice la ln lc, .int .i64 sn, .int .i64 ov, .bool dn] 43)) := ⟨tbox_next HG8.out.1 hb9, tbox_next HG8.out.2 hb9⟩
          have HK9 := tbox_next HK8.out hb9
          have HQ9 : Hid (Tds w9 (.slice pba pbn pbc) l) := HQ8.out.below hb9
          have HV9 : Hid (Evs w9 (.slice pbea 0 pbec) []) := HV8.out.below hb9
          clear hcall hb9 k0 k1 k2 c0 c1 c2 c3 d0 d1 d2 d3 f0 f1 f2 f3
          have k0 := tcell_blk HG9.out.1 0
          have k1 := tcell_blk HG9.out.1 1
          have k2 := tcell_blk HG9.out.1 2
          have c0 := tcell_blk HG9.out.2 0
          have c1 := tcell_blk HG9.out.2 1
          have c2 := tcell_blk HG9.out.2 2
          have c3 := tcell_blk HG9.out.2 3
          have f0 := tcell_blk HK9 0
          have f1 := tcell_blk HK9 1
          have f2 := tcell_blk HK9 2
          have f3 := tcell_blk HK9 3
          simp only [List.getElem?_toArray, List.getElem?_cons_zero, List.getElem?_cons_succ] at k0 k1 k2 c0 c1 c2 c3 f0 f1 f2 f3
          clear HK9
          have hcall := clawed_err (tt : Int) (nn : Int) (.slice ga gm gc) ps (.slice ra rm rc) (.slice la ln lc) (.slice pba pbn pbc) l sn ov dn (tt : Int) 15 pbea pbec w9 (HP.out.below HB9.out) ⟨_, _, _, rfl⟩ (HT.out.below HB9.out) HQ9.out (by decide)
          go_wp2_with fail
          refine hcall.mono ?_
          rintro _ w10 ⟨rfl, hb10⟩
          have HB10 : Hid (Below w.heap.size w w10) := HB9.out.trans (hb10.mono HB9.out.size)
          clear hcall hb10
          go_wp2_with fail
          go_ret
          exact ⟨rfl, HB10.out⟩
      · obtain ⟨col, rfl⟩ : ∃ col : Nat, term = (col : Int) := ⟨term.toNat, by omega⟩
        have HTM : Hid ((col : Int) < (tt : Int)) := by show (col : Int) < (tt : Int); omega
        have HOKT : Hid ((decide (0 ≤ (col : Int)) && decide ((col : Int) < (tt : Int))) = true) := by show _ = _; have := HTM.out; simp; omega
        by_cases hov : ov = 0
        · subst hov
          have hov1 : ((0 : Int) != 0) = false := by simp
          cases dn with
          | true =>
            have hcall := Push_err (tt : Int) (nn : Int) (.slice ga gm gc) ps (.slice ra rm rc) rows (.slice la ln lc) l sn 0 true (col : Int) w4 (HP.out.below HB4.out) (HR.out.below HB4.out) (HT.out.below HB4.out) (by have := HZ.out; omega) 15 (chkD_over HCE.out HOKT.out (Or.inr rfl)) (by decide)
            have k0 := tcell_blk HG4.out.1 0
            have k1 := tcell_blk HG4.out.1 1
            have k2 := tcell_blk HG4.out.1 2
            have c0 := tcell_blk HG4.out.2 0
            have c1 := tcell_blk HG4.out.2 1
            have c2 := tcell_blk HG4.out.2 2
            have c3 := tcell_blk HG4.out.2 3
            simp only [List.getElem?_toArray, List.getElem?_cons_zero, List.getElem?_cons_succ] at k0 k1 k2 c0 c1 c2 c3
            go_wp2_with fail
            refine hcall.mono ?_
            rintro _ w5 hres
            obtain ⟨paa, pan, pac, paea, paen, paec, rfl, hdq, hdn⟩ := ResP.out hres
            clear hres hcall k0 k1 k2 c0 c1 c2 c3
            obtain ⟨_, _, e8⟩ := own_len hdn.own
            simp only [Value.slice.injEq, List.length_nil] at e8
            obtain ⟨-, e9, -⟩ := e8
            subst e9
            have HBN6 : Hid (Below w5.heap.size w5 (w5.alloc (Obj.cells #[.slice paa pan pac, .int .i64 sn, .int .i64 0, .bool true] 43))) := below_alloc _ _
            have HQ6 : Hid (Tds (w5.alloc (Obj.cells #[.slice paa pan pac, .int .i64 sn, .int .i64 0, .bool true] 43)) (.slice paa pan pac) l) := (Dq_tds hdq).below HBN6.out
            have HV6 : Hid (Evs (w5.alloc (Obj.cells #[.slice paa pan pac, .int .i64 sn, .int .i64 0, .bool true] 43)) (.slice paea 0 paec) []) := (Dn_evs hdn).below HBN6.out
            have HB6 : Hid (Below w.heap.size w (w5.alloc (Obj.cells #[.slice paa pan pac, .int .i64 sn, .int .i64 0, .bool true] 43))) := HB4.out.trans ((hdq.bel.trans (HBN6.out.mono hdq.bel.size)).mono HB4.out.size)
            have HG6 : Hid ((w5.alloc (Obj.cells #[.slice paa pan pac, .int .i64 sn, .int .i64 0, .bool true] 43)).heap[g]? = some (Obj.cells #[.int .i64 (tt : Int), .int .i64 (nn : Int), .slice ga gm gc] 24) ∧ (w5.alloc (Obj.cells #[.slice paa pan pac, .int .i64 sn, .int .i64 0, .bool true] 43)).heap[g + 1]? = some (Obj.cells #[.slice la ln lc, .int .i64 sn, .int .i64 0, .bool true] 43)) := ⟨tbox_next (tbox_next HG4.out.1 hdq.bel) HBN6.out, tbox_next (tbox_next HG4.out.2 hdq.bel) HBN6.out⟩
            have HK6 : Hid ((w5.alloc (Obj.cells #[.slice paa pan pac, .int .i64 sn, .int .i64 0, .bool true] 43)).heap[w5.heap.size]? = some (Obj.cells #[.slice paa pan pac, .int .i64 sn, .int .i64 0, .bool true] 43)) := heap_alloc_new _ _
            obtain ⟨kp, HKE6⟩ : ∃ kp, Hid (w5.heap.size = kp) := ⟨_, (rfl : w5.heap.size = _)⟩
            clear hdq hdn
            go_upto_region 13 with fail
            generalize w5.alloc (Obj.cells #[.slice paa pan pac, .int .i64 sn, .int .i64 0, .bool true] 43) = w6 at HQ6 HV6 HB6 HG6 HK6 ⊢
            rw [HKE6.out] at HK6 ⊢
            clear HBN6
            have hcall := End_err (tt : Int) (nn : Int) (.slice ga gm gc) ps (.slice ra rm rc) rows (.slice la ln lc) l sn 0 true w6 (HP.out.below HB6.out) (HR.out.below HB6.out) (HT.out.below HB6.out) (by have := HZ.out; omega) 15 (chkD_over HCE.out rfl (Or.inr rfl)) (by decide)
            have k0 := tcell_blk HG6.out.1 0
            have k1 := tcell_blk HG6.out.1 1
            have k2 := tcell_blk HG6.out.1 2
            have c0 := tcell_blk HG6.out.2 0
            have c1 := tcell_blk HG6.out.2 1
            have c2 := tcell_blk HG6.out.2 2
            have c3 := tcell_blk HG6.out.2 3
            simp only [List.getElem?_toArray, List.getElem?_cons_zero, List.getElem?_cons_succ] at k0 k1 k2 c0 c1 c2 c3
            go_wp2_with fail
            refine hcall.mono ?_
            rintro _ w7 hres
            obtain ⟨pba, pbn, pbc, pbea, pben, pbec, rfl, hdq, hdn⟩ := ResP.out hres
            clear hres hcall k0 k1 k2 c0 c1 c2 c3
            obtain ⟨_, _, e8⟩ := own_len hdn.own
            simp only [Value.slice.injEq, List.length_nil] at e8
            obtain ⟨-, e9, -⟩ := e8
            subst e9
            have HBN8 : Hid (Below w7.heap.size w7 (w7.alloc (Obj.cells #[.slice pba pbn pbc, .int .i64 sn, .int .i64 0, .bool true] 43))) := below_alloc _ _
            have HQ8 : Hid (Tds (w7.alloc (Obj.cells #[.slice pba pbn pbc, .int .i64 sn, .int .i64 0, .bool true] 43)) (.slice pba pbn pbc) l) := (Dq_tds hdq).below HBN8.out
            have HV8 : Hid (Evs (w7.alloc (Obj.cells #[.slice pba pbn pbc, .int .i64 sn, .int .i64 0, .bool true] 43)) (.slice pbea 0 pbec) []) := (Dn_evs hdn).below HBN8.out
            have HB8 : Hid (Below w.heap.size w (w7.alloc (Obj.cells #[.slice pba pbn pbc, .int .i64 sn, .int .i64 0, .bool true] 43))) := HB6.out.trans ((hdq.bel.trans (HBN8.out.mono hdq.bel.size)).mono HB6.out.size)
            have HG8 : Hid ((w7.alloc (Obj.cells #[.slice pba pbn pbc, .int .i64 sn, .int .i64 0, .bool true] 43)).heap[g]? = some (Obj.cells #[.int .i64 (tt : Int), .int .i64 (nn : Int), .slice ga gm gc] 24) ∧ (w7.alloc (Obj.cells #[.slice pba pbn pbc, .int .i64 sn, .int .i64 0, .bool true] 43)).heap[g + 1]? = some (Obj.cells #[.slice la ln lc, .int .i64 sn, .int .i64 0, .bool true] 43)) := ⟨tbox_next (tbox_next HG6.out.1 hdq.bel) HBN8.out, tbox_next (tbox_next HG6.out.2 hdq.bel) HBN8.out⟩
            have HK8 : Hid ((w7.alloc (Obj.cells #[.slice pba pbn pbc, .int .i64 sn, .int .i64 0, .bool true] 43)).heap[w7.heap.size]? = some (Obj.cells #[.slice pba pbn pbc, .int .i64 sn, .int .i64 0, .bool true] 43)) := heap_alloc_new _ _
            obtain ⟨ke, HKE8⟩ : ∃ ke, Hid (w7.heap.size = ke) := ⟨_, (rfl : w7.heap.size = _)⟩
            have HKP8 : Hid ((w7.alloc (Obj.cells #[.slice pba pbn pbc, .int .i64 sn, .int .i64 0, .bool true] 43)).heap[kp]? = some (Obj.cells #[.slice paa pan pac, .int .i64 sn, .int .i64 0, .bool true] 43)) := tbox_next (tbox_next HK6.out hdq.bel) HBN8.out
            have HQP8 : Hid (Tds (w7.alloc (Obj.cells #[.slice pba pbn pbc, .int .i64 sn, .int .i64 0, .bool true] 43)) (.slice paa pan pac) l) := (HQ6.out.below hdq.bel).below HBN8.out
            have HVP8 : Hid (Evs (w7.alloc (Obj.cells #[.slice pba pbn pbc, .int .i64 sn, .int .i64 0, .bool true] 43)) (.slice paea 0 paec) []) := (HV6.out.below hdq.bel).below HBN8.out
            clear hdq hdn
            go_upto_region 14 with fail
            generalize w7.alloc (Obj.cells #[.slice pba pbn pbc, .int .i64 sn, .int .i64 0, .bool true] 43) = w8 at HQ8 HV8 HB8 HG8 HK8 HKP8 HQP8 HVP8 ⊢
            rw [HKE8.out] at HK8 ⊢
            clear HBN8
            have k0 := tcell_blk HG8.out.1 0
            have k1 := tcell_blk HG8.out.1 1
            have k2 := tcell_blk HG8.out.1 2
            have c0 := tcell_blk HG8.out.2 0
            have c1 := tcell_blk HG8.out.2 1
            have c2 := tcell_blk HG8.out.2 2
            have c3 := tcell_blk HG8.out.2 3
            have d0 := tcell_blk HKP8.out 0
            have d1 := tcell_blk HKP8.out 1
            have d2 := tcell_blk HKP8.out 2
            have d3 := tcell_blk HKP8.out 3
            have f0 := tcell_blk HK8.out 0
            have f1 := tcell_blk HK8.out 1
            have f2 := tcell_blk HK8.out 2
            have f3 := tcell_blk HK8.out 3
            simp only [List.getElem?_toArray, List.getElem?_cons_zero, List.getElem?_cons_succ] at k0 k1 k2 c0 c1 c2 c3 d0 d1 d2 d3 f0 f1 f2 f3
            have hcall := clawed_err (tt : Int) (nn : Int) (.slice ga gm gc) ps (.slice ra rm rc) (.slice la ln lc) (.slice paa pan pac) l sn 0 true (col : Int) 15 paea paec w8 (HP.out.below HB8.out) ⟨_, _, _, rfl⟩ (HT.out.below HB8.out) HQP8.out (by decide)
            go_wp2_with fail
            refine hcall.mono ?_
            rintro _ w9 ⟨rfl, hb9⟩
            have HB9 : Hid (Below w.heap.size w w9) := HB8.out.trans (hb9.mono HB8.out.size)
            have HG9 : Hid (w9.heap[g]? = some (Obj.cells #[.int .i64 (tt : Int), .int .i64 (nn : Int), .slice ga gm gc] 24) ∧ w9.heap[g + 1]? = some (Obj.cells #[.slice la ln lc, .int .i64 sn, .int .i64 0, .bool true] 43)) := ⟨tbox_next HG8.out.1 hb9, tbox_next HG8.out.2 hb9⟩
            have HK9 := tbox_next HK8.out hb9
            have HQ9 : Hid (Tds w9 (.slice pba pbn pbc) l) := HQ8.out.below hb9
            have HV9 : Hid (Evs w9 (.slice pbea 0 pbec) []) := HV8.out.below hb9
            clear hcall hb9 k0 k1 k2 c0 c1 c2 c3 d0 d1 d2 d3 f0 f1 f2 f3
            have k0 := tcell_blk HG9.out.1 0
            have k1 := tcell_blk HG9.out.1 1
            have k2 := tcell_blk HG9.out.1 2
            have c0 := tcell_blk HG9.out.2 0
            have c1 := tcell_blk HG9.out.2 1
            have c2 := tcell_blk HG9.out.2 2
            have c3 := tcell_blk HG9.out.2 3
            have f0 := tcell_blk HK9 0
            have f1 := tcell_blk HK9 1
            have f2 := tcell_blk HK9 2
            have f3 := tcell_blk HK9 3
            simp only [List.getElem?_toArray, List.getElem?_cons_zero, List.getElem?_cons_succ] at k0 k1 k2 c0 c1 c2 c3 f0 f1 f2 f3
            clear HK9
            have hcall := clawed_err (tt : Int) (nn : Int) (.slice ga gm gc) ps (.slice ra rm rc) (.slice la ln lc) (.slice pba pbn pbc) l sn 0 true (tt : Int) 15 pbea pbec w9 (HP.out.below HB9.out) ⟨_, _, _, rfl⟩ (HT.out.below HB9.out) HQ9.out (by decide)
            go_wp2_with fail
            refine hcall.mono ?_
            rintro _ w10 ⟨rfl, hb10⟩
            have HB10 : Hid (Below w.heap.size w w10) := HB9.out.trans (hb10.mono HB9.out.size)
            clear hcall hb10
            go_wp2_with fail
            go_ret
            exact ⟨rfl, HB10.out⟩
          | false =>
            obtain ⟨⟨xl, xs, xo, xd, xe, xr⟩, HXP⟩ : ∃ X : Cres, Hid (X = clmR (tt : Int) ps rows l sn col) := ⟨_, (rfl : _ = _)⟩
            have hcall := Push_any (tt : Int) nn (.slice ga gm gc) ps (.slice ra rm rc) rows (.slice la ln lc) l sn 0 false (col : Int) w4 (HP.out.below HB4.out) (HR.out.below HB4.out) (HT.out.below HB4.out) (by have := HZ.out; omega)
            rw [pushR_ok (chkD_fine HCE.out HOKT.out), ← HXP.out] at hcall
            have k0 := tcell_blk HG4.out.1 0
            have k1 := tcell_blk HG4.out.1 1
            have k2 := tcell_blk HG4.out.1 2
            have c0 := tcell_blk HG4.out.2 0
            have c1 := tcell_blk HG4.out.2 1
            have c2 := tcell_blk HG4.out.2 2
            have c3 := tcell_blk HG4.out.2 3
            simp only [List.getElem?_toArray, List.getElem?_cons_zero, List.getElem?_cons_succ] at k0 k1 k2 c0 c1 c2 c3
            go_wp2_with fail
            refine hcall.mono ?_
            rintro _ w5 hres
            obtain ⟨paa, pan, pac, paea, paen, paec, rfl, hdq, hdn⟩ := ResP.out hres
            clear hres hcall k0 k1 k2 c0 c1 c2 c3
            have HBN6 : Hid (Below w5.heap.size w5 (w5.alloc (Obj.cells #[.slice paa pan pac, .int .i64 xs, .int .i64 xo, .bool xd] 43))) := below_alloc _ _
            have HQ6 : Hid (Tds (w5.alloc (Obj.cells #[.slice paa pan pac, .int .i64 xs, .int .i64 xo, .bool xd] 43)) (.slice paa pan pac) xl) := (Dq_tds hdq).below HBN6.out
            have HV6 : Hid (Evs (w5.alloc (Obj.cells #[.slice paa pan pac, .int .i64 xs, .int .i64 xo, .bool xd] 43)) (.slice paea paen paec) xe) := (Dn_evs hdn).below HBN6.out
            have HB6 : Hid (Below w.heap.size w (w5.alloc (Obj.cells #[.slice paa pan pac, .int .i64 xs, .int .i64 xo, .bool xd] 43))) := HB4.out.trans ((hdq.bel.trans (HBN6.out.mono hdq.bel.size)).mono HB4.out.size)
            have HG6 : Hid ((w5.alloc (Obj.cells #[.slice paa pan pac, .int .i64 xs, .int .i64 xo, .bool xd] 43)).heap[g]? = some (Obj.cells #[.int .i64 (tt : Int), .int .i64 (nn : Int), .slice ga gm gc] 24) ∧ (w5.alloc (Obj.cells #[.slice paa pan pac, .int .i64 xs, .int .i64 xo, .bool xd] 43)).heap[g + 1]? = some (Obj.cells #[.slice la ln lc, .int .i64 sn, .int .i64 0, .bool false] 43)) := ⟨tbox_next (tbox_next HG4.out.1 hdq.bel) HBN6.out, tbox_next (tbox_next HG4.out.2 hdq.bel) HBN6.out⟩
            have HK6 : Hid ((w5.alloc (Obj.cells #[.slice paa pan pac, .int .i64 xs, .int .i64 xo, .bool xd] 43)).heap[w5.heap.size]? = some (Obj.cells #[.slice paa pan pac, .int .i64 xs, .int .i64 xo, .bool xd] 43)) := heap_alloc_new _ _
            obtain ⟨kp, HKE6⟩ : ∃ kp, Hid (w5.heap.size = kp) := ⟨_, (rfl : w5.heap.size = _)⟩
            clear hdq hdn
            go_upto_region 13 with fail
            generalize w5.alloc (Obj.cells #[.slice paa pan pac, .int .i64 xs, .int .i64 xo, .bool xd] 43) = w6 at HQ6 HV6 HB6 HG6 HK6 ⊢
            rw [HKE6.out] at HK6 ⊢
            clear HBN6
            obtain ⟨⟨zl, zs, zo, zd, ze, zr⟩, HXE⟩ : ∃ X : Cres, Hid (X = clmR (tt : Int) ps rows l sn tt) := ⟨_, (rfl : _ = _)⟩
            have hcall := End_any (tt : Int) nn (.slice ga gm gc) ps (.slice ra rm rc) rows (.slice la ln lc) l sn 0 false w6 (HP.out.below HB6.out) (HR.out.below HB6.out) (HT.out.below HB6.out) (by have := HZ.out; omega)
            rw [endR_ok (Ok.of (HP.out.below HB6.out) (HR.out.below HB6.out) (chkD_zero HCE.out).1 (by omega)) (chkD_fine HCE.out rfl), ← HXE.out] at hcall
            have k0 := tcell_blk HG6.out.1 0
            have k1 := tcell_blk HG6.out.1 1
            have k2 := tcell_blk HG6.out.1 2
            have c0 := tcell_blk HG6.out.2 0
            have c1 := tcell_blk HG6.out.2 1
            have c2 := tcell_blk HG6.out.2 2
            have c3 := tcell_blk HG6.out.2 3
            simp only [List.getElem?_toArray, List.getElem?_cons_zero, List.getElem?_cons_succ] at k0 k1 k2 c0 c1 c2 c3
            go_wp2_with fail
            refine hcall.mono ?_
            rintro _ w7 hres
            obtain ⟨pba, pbn, pbc, pbea, pben, pbec, rfl, hdq, hdn⟩ := ResP.out hres
            clear hres hcall k0 k1 k2 c0 c1 c2 c3
            have HBN8 : Hid (Below w7.heap.size w7 (w7.alloc (Obj.cells #[.slice pba pbn pbc, .int .i64 zs, .int .i64 zo, .bool zd] 43))) := below_alloc _ _
            have HQ8 : Hid (Tds (w7.alloc (Obj.cells #[.slice pba pbn pbc, .int .i64 zs, .int .i64 zo, .bool zd] 43)) (.slice pba pbn pbc) zl) := (Dq_tds hdq).below HBN8.out
            have HV8 : Hid (Evs (w7.alloc (Obj.cells #[.slice pba pbn pbc, .int .i64 zs, .int .i64 zo, .bool zd] 43)) (.slice pbea pben pbec) ze) := (Dn_evs hdn).below HBN8.out
            have HB8 : Hid (Below w.heap.size w (w7.alloc (Obj.cells #[.slice pba pbn pbc, .int .i64 zs, .int .i64 zo, .bool zd] 43))) := HB6.out.trans ((hdq.bel.trans (HBN8.out.mono hdq.bel.size)).mono HB6.out.size)
            have HG8 : Hid ((w7.alloc (Obj.cells #[.slice pba pbn pbc, .int .i64 zs, .int .i64 zo, .bool zd] 43)).heap[g]? = some (Obj.cells #[.int .i64 (tt : Int), .int .i64 (nn : Int), .slice ga gm gc] 24) ∧ (w7.alloc (Obj.cells #[.slice pba pbn pbc, .int .i64 zs, .int .i64 zo, .bool zd] 43)).heap[g + 1]? = some (Obj.cells #[.slice la ln lc, .int .i64 sn, .int .i64 0, .bool false] 43)) := ⟨tbox_next (tbox_next HG6.out.1 hdq.bel) HBN8.out, tbox_next (tbox_next HG6.out.2 hdq.bel) HBN8.out⟩
            have HK8 : Hid ((w7.alloc (Obj.cells #[.slice pba pbn pbc, .int .i64 zs, .int .i64 zo, .bool zd] 43)).heap[w7.heap.size]? = some (Obj.cells #[.slice pba pbn pbc, .int .i64 zs, .int .i64 zo, .bool zd] 43)) := heap_alloc_new _ _
            obtain ⟨ke, HKE8⟩ : ∃ ke, Hid (w7.heap.size = ke) := ⟨_, (rfl : w7.heap.size = _)⟩
            have HKP8 : Hid ((w7.alloc (Obj.cells #[.slice pba pbn pbc, .int .i64 zs, .int .i64 zo, .bool zd] 43)).heap[kp]? = some (Obj.cells #[.slice paa pan pac, .int .i64 xs, .int .i64 xo, .bool xd] 43)) := tbox_next (tbox_next HK6.out hdq.bel) HBN8.out
            have HQP8 : Hid (Tds (w7.alloc (Obj.cells #[.slice pba pbn pbc, .int .i64 zs, .int .i64 zo, .bool zd] 43)) (.slice paa pan pac) xl) := (HQ6.out.below hdq.bel).below HBN8.out
            have HVP8 : Hid (Evs (w7.alloc (Obj.cells #[.slice pba pbn pbc, .int .i64 zs, .int .i64 zo, .bool zd] 43)) (.slice paea paen paec) xe) := (HV6.out.below hdq.bel).below HBN8.out
            clear hdq hdn
            go_upto_region 14 with fail
            generalize w7.alloc (Obj.cells #[.slice pba pbn pbc, .int .i64 zs, .int .i64 zo, .bool zd] 43) = w8 at HQ8 HV8 HB8 HG8 HK8 HKP8 HQP8 HVP8 ⊢
            rw [HKE8.out] at HK8 ⊢
            clear HBN8
            have k0 := tcell_blk HG8.out.1 0
            have k1 := tcell_blk HG8.out.1 1
            have k2 := tcell_blk HG8.out.1 2
            have c0 := tcell_blk HG8.out.2 0
            have c1 := tcell_blk HG8.out.2 1
            have c2 := tcell_blk HG8.out.2 2
            have c3 := tcell_blk HG8.out.2 3
            have d0 := tcell_blk HKP8.out 0
            have d1 := tcell_blk HKP8.out 1
            have d2 := tcell_blk HKP8.out 2
            have d3 := tcell_blk HKP8.out 3
            have f0 := tcell_blk HK8.out 0
            have f1 := tcell_blk HK8.out 1
            have f2 := tcell_blk HK8.out 2
            have f3 := tcell_blk HK8.out 3
            simp only [List.getElem?_toArray, List.getElem?_cons_zero, List.getElem?_cons_succ] at k0 k1 k2 c0 c1 c2 c3 d0 d1 d2 d3 f0 f1 f2 f3
            have hcall := clawed_ok (tt : Int) nn (.slice ga gm gc) ps (.slice ra rm rc) rows (.slice la ln lc) (.slice paa pan pac) (.slice paea paen paec) l sn 0 false col w8 (HT.out.below HB8.out) (Ok.of (HP.out.below HB8.out) (HR.out.below HB8.out) (chkD_zero HCE.out).1 (by have := HTM.out; omega)) HLK.out.1 HLK.out.2.1 HLK.out.2.2 ⟨xl, xs, xo, xd, xe, xr⟩ HXP.out HQP8.out HVP8.out
            go_wp2_with fail
            refine hcall.mono ?_
            rintro _ w9 ⟨rfl, hb9⟩
            have HB9 : Hid (Below w.heap.size w w9) := HB8.out.trans (hb9.mono HB8.out.size)
            have HG9 : Hid (w9.heap[g]? = some (Obj.cells #[.int .i64 (tt : Int), .int .i64 (nn : Int), .slice ga gm gc] 24) ∧ w9.heap[g + 1]? = some (Obj.cells #[.slice la ln lc, .int .i64 sn, .int .i64 0, .bool false] 43)) := ⟨tbox_next HG8.out.1 hb9, tbox_next HG8.out.2 hb9⟩
            have HK9 := tbox_next HK8.out hb9
            have HQ9 : Hid (Tds w9 (.slice pba pbn pbc) zl) := HQ8.out.below hb9
            have HV9 : Hid (Evs w9 (.slice pbea pben pbec) ze) := HV8.out.below hb9
            clear hcall hb9 k0 k1 k2 c0 c1 c2 c3 d0 d1 d2 d3 f0 f1 f2 f3
            have k0 := tcell_blk HG9.out.1 0
            have k1 := tcell_blk HG9.out.1 1
            have k2 := tcell_blk HG9.out.1 2
            have c0 := tcell_blk HG9.out.2 0
            have c1 := tcell_blk HG9.out.2 1
            have c2 := tcell_blk HG9.out.2 2
            have c3 := tcell_blk HG9.out.2 3
            have f0 := tcell_blk HK9 0
            have f1 := tcell_blk HK9 1
            have f2 := tcell_blk HK9 2
            have f3 := tcell_blk HK9 3
            simp only [List.getElem?_toArray, List.getElem?_cons_zero, List.getElem?_cons_succ] at k0 k1 k2 c0 c1 c2 c3 f0 f1 f2 f3
            clear HK9
            have hcall := clawed_ok (tt : Int) nn (.slice ga gm gc) ps (.slice ra rm rc) rows (.slice la ln lc) (.slice pba pbn pbc) (.slice pbea pben pbec) l sn 0 false tt w9 (HT.out.below HB9.out) (Ok.of (HP.out.below HB9.out) (HR.out.below HB9.out) (chkD_zero HCE.out).1 (by omega)) HLK.out.1 HLK.out.2.1 HLK.out.2.2 ⟨zl, zs, zo, zd, ze, zr⟩ HXE.out HQ9.out HV9.out
            go_wp2_with fail
            refine hcall.mono ?_
            rintro _ w10 ⟨rfl, hb10⟩
            have HB10 : Hid (Below w.heap.size w w10) := HB9.out.trans (hb10.mono HB9.out.size)
            clear hcall hb10
            go_wp2_with fail
            go_ret
            exact ⟨rfl, HB10.out⟩
        · have hov1 : (ov != 0) = true := by simpa using hov
          have HOV : Hid (ov ≠ 0) := hov
          clear hov
          have hcall := Push_err (tt : Int) (nn : Int) (.slice ga gm gc) ps (.slice ra rm rc) rows (.slice la ln lc) l sn ov dn (col : Int) w4 (HP.out.below HB4.out) (HR.out.below HB4.out) (HT.out.below HB4.out) (by have := HZ.out; omega) 15 (chkD_over HCE.out HOKT.out (Or.inl HOV.out)) (by decide)
          have k0 := tcell_blk HG4.out.1 0
          have k1 := tcell_blk HG4.out.1 1
          have k2 := tcell_blk HG4.out.1 2
          have c0 := tcell_blk HG4.out.2 0
          have c1 := tcell_blk HG4.out.2 1
          have c2 := tcell_blk HG4.out.2 2
          have c3 := tcell_blk HG4.out.2 3
          simp only [List.getElem?_toArray, List.getElem?_cons_zero, List.getElem?_cons_succ] at k0 k1 k2 c0 c1 c2 c3
          go_wp2_with fail
          refine hcall.mono ?_
          rintro _ w5 hres
          obtain ⟨paa, pan, pac, paea, paen, paec, rfl, hdq, hdn⟩ := ResP.out hres
          clear hres hcall k0 k1 k2 c0 c1 c2 c3
          obtain ⟨_, _, e8⟩ := own_len hdn.own
          simp only [Value.slice.injEq, List.length_nil] at e8
          obtain ⟨-, e9, -⟩ := e8
          subst e9
          have HBN6 : Hid (Below w5.heap.size w5 (w5.alloc (Obj.cells #[.slice paa pan pac, .int .i64 sn, .int .i64 ov, .bool dn] 43))) := below_alloc _ _
          have HQ6 : Hid (Tds (w5.alloc (Obj.cells #[.slice paa pan pac, .int .i64 sn, .int .i64 ov, .bool dn] 43)) (.slice paa pan pac) l) := (Dq_tds hdq).below HBN6.out
          have HV6 : Hid (Evs (w5.alloc (Obj.cells #[.slice paa pan pac, .int .i64 sn, .int .i64 ov, .bool dn] 43)) (.slice paea 0 paec) []) := (Dn_evs hdn).below HBN6.out
          have HB6 : Hid (Below w.heap.size w (w5.alloc (Obj.cells #[.slice paa pan pac, .int .i64 sn, .int .i64 ov, .bool dn] 43))) := HB4.out.trans ((hdq.bel.trans (HBN6.out.mono hdq.bel.size)).mono HB4.out.size)
          have HG6 : Hid ((w5.alloc (Obj.cells #[.slice paa pan pac, .int .i64 sn, .int .i64 ov, .bool dn] 43)).heap[g]? = some (Obj.cells #[.int .i64 (tt : Int), .int .i64 (nn : Int), .slice ga gm gc] 24) ∧ (w5.alloc (Obj.cells #[.slice paa pan pac, .int .i64 sn, .int .i64 ov, .bool dn] 43)).heap[g + 1]? = some (Obj.cells #[.slice la ln lc, .int .i64 sn, .int .i64 ov, .bool dn] 43)) := ⟨tbox_next (tbox_next HG4.out.1 hdq.bel) HBN6.out, tbox_next (tbox_next HG4.out.2 hdq.bel) HBN6.out⟩
          have HK6 : Hid ((w5.alloc (Obj.cells #[.slice paa pan pac, .int .i64 sn, .int .i64 ov, .bool dn] 43)).heap[w5.heap.size]? = some (Obj.cells #[.slice paa pan pac, .int .i64 sn, .int .i64 ov, .bool dn] 43)) := heap_alloc_new _ _
          obtain ⟨kp, HKE6⟩ : ∃ kp, Hid (w5.heap.size = kp) := ⟨_, (rfl : w5.heap.size = _)⟩
          clear hdq hdn
          go_upto_region 13 with fail
          generalize w5.alloc (Obj.cells #[.slice paa pan pac, .int .i64 sn, .int .i64 ov, .bool dn] 43) = w6 at HQ6 HV6 HB6 HG6 HK6 ⊢
          rw [HKE6.out] at HK6 ⊢
          clear HBN6
          have hcall := End_err (tt : Int) (nn : Int) (.slice ga gm gc) ps (.slice ra rm rc) rows (.slice la ln lc) l sn ov dn w6 (HP.out.below HB6.out) (HR.out.below HB6.out) (HT.out.below HB6.out) (by have := HZ.out; omega) 15 (chkD_over HCE.out rfl (Or.inl HOV.out)) (by decide)
          have k0 := tcell_blk HG6.out.1 0
          have k1 := tcell_blk HG6.out.1 1
          have k2 := tcell_blk HG6.out.1 2
          have c0 := tcell_blk HG6.out.2 0
          have c1 := tcell_blk HG6.out.2 1
          have c2 := tcell_blk HG6.out.2 2
          have c3 := tcell_blk HG6.out.2 3
          simp only [List.getElem?_toArray, List.getElem?_cons_zero, List.getElem?_cons_succ] at k0 k1 k2 c0 c1 c2 c3
          go_wp2_with fail
          refine hcall.mono ?_
          rintro _ w7 hres
          obtain ⟨pba, pbn, pbc, pbea, pben, pbec, rfl, hdq, hdn⟩ := ResP.out hres
          clear hres hcall k0 k1 k2 c0 c1 c2 c3
          obtain ⟨_, _, e8⟩ := own_len hdn.own
          simp only [Value.slice.injEq, List.length_nil] at e8
          obtain ⟨-, e9, -⟩ := e8
          subst e9
          have HBN8 : Hid (Below w7.heap.size w7 (w7.alloc (Obj.cells #[.slice pba pbn pbc, .int .i64 sn, .int .i64 ov, .bool dn] 43))) := below_alloc _ _
          have HQ8 : Hid (Tds (w7.alloc (Obj.cells #[.slice pba pbn pbc, .int .i64 sn, .int .i64 ov, .bool dn] 43)) (.slice pba pbn pbc) l) := (Dq_tds hdq).below HBN8.out
          have HV8 : Hid (Evs (w7.alloc (Obj.cells #[.slice pba pbn pbc, .int .i64 sn, .int .i64 ov, .bool dn] 43)) (.slice pbea 0 pbec) []) := (Dn_evs hdn).below HBN8.out
          have HB8 : Hid (Below w.heap.size w (w7.alloc (Obj.cells #[.slice pba pbn pbc, .int .i64 sn, .int .i64 ov, .bool dn] 43))) := HB6.out.trans ((hdq.bel.trans (HBN8.out.mono hdq.bel.size)).mono HB6.out.size)
          have HG8 : Hid ((w7.alloc (Obj.cells #[.slice pba pbn pbc, .int .i64 sn, .int .i64 ov, .bool dn] 43)).heap[g]? = some (Obj.cells #[.int .i64 (tt : Int), .int .i64 (nn : Int), .slice ga gm gc] 24) ∧ (w7.alloc (Obj.cells #[.slice pba pbn pbc, .int .i64 sn, .int .i64 ov, .bool dn] 43)).heap[g + 1]? = some (Obj.cells #[.slice la ln lc, .int .i64 sn, .int .i64 ov, .bool dn] 43)) := ⟨tbox_next (tbox_next HG6.out.1 hdq.bel) HBN8.out, tbox_next (tbox_next HG6.out.2 hdq.bel) HBN8.out⟩
          have HK8 : Hid ((w7.alloc (Obj.cells #[.slice pba pbn pbc, .int .i64 sn, .int .i64 ov, .bool dn] 43)).heap[w7.heap.size]? = some (Obj.cells #[.slice pba pbn pbc, .int .i64 sn, .int .i64 ov, .bool dn] 43)) := heap_alloc_new _ _
          obtain ⟨ke, HKE8⟩ : ∃ ke, Hid (w7.heap.size = ke) := ⟨_, (rfl : w7.heap.size = _)⟩
          have HKP8 : Hid ((w7.alloc (Obj.cells #[.slice pba pbn pbc, .int .i64 sn, .int .i64 ov, .bool dn] 43)).heap[kp]? = some (Obj.cells #[.slice paa pan pac, .int .i64 sn, .int .i64 ov, .bool dn] 43)) := tbox_next (tbox_next HK6.out hdq.bel) HBN8.out
          have HQP8 : Hid (Tds (w7.alloc (Obj.cells #[.slice pba pbn pbc, .int .i64 sn, .int .i64 ov, .bool dn] 43)) (.slice paa pan pac) l) := (HQ6.out.below hdq.bel).below HBN8.out
          have HVP8 : Hid (Evs (w7.alloc (Obj.cells #[.slice pba pbn pbc, .int .i64 sn, .int .i64 ov, .bool dn] 43)) (.slice paea 0 paec) []) := (HV6.out.below hdq.bel).below HBN8.out
          clear hdq hdn
          go_upto_region 14 with fail
          generalize w7.alloc (Obj.cells #[.slice pba pbn pbc, .int .i64 sn, .int .i64 ov, .bool dn] 43) = w8 at HQ8 HV8 HB8 HG8 HK8 HKP8 HQP8 HVP8 ⊢
          rw [HKE8.out] at HK8 ⊢
          clear HBN8
          have k0 := tcell_blk HG8.out.1 0
          have k1 := tcell_blk HG8.out.1 1
          have k2 := tcell_blk HG8.out.1 2
          have c0 := tcell_blk HG8.out.2 0
          have c1 := tcell_blk HG8.out.2 1
          have c2 := tcell_blk HG8.out.2 2
          have c3 := tcell_blk HG8.out.2 3
          have d0 := tcell_blk HKP8.out 0
          have d1 := tcell_blk HKP8.out 1
          have d2 := tcell_blk HKP8.out 2
          have d3 := tcell_blk HKP8.out 3
          have f0 := tcell_blk HK8.out 0
          have f1 := tcell_blk HK8.out 1
          have f2 := tcell_blk HK8.out 2
          have f3 := tcell_blk HK8.out 3
          simp only [List.getElem?_toArray, List.getElem?_cons_zero, List.getElem?_cons_succ] at k0 k1 k2 c0 c1 c2 c3 d0 d1 d2 d3 f0 f1 f2 f3
          have hcall := clawed_err (tt : Int) (nn : Int) (.slice ga gm gc) ps (.slice ra rm rc) (.slice la ln lc) (.slice paa pan pac) l sn ov dn (col : Int) 15 paea paec w8 (HP.out.below HB8.out) ⟨_, _, _, rfl⟩ (HT.out.below HB8.out) HQP8.out (by decide)
          go_wp2_with fail
          refine hcall.mono ?_
          rintro _ w9 ⟨rfl, hb9⟩
          have HB9 : Hid (Below w.heap.size w w9) := HB8.out.trans (hb9.mono HB8.out.size)
          have HG9 : Hid (w9.heap[g]? = some (Obj.cells #[.int .i64 (tt : Int), .int .i64 (nn : Int), .slice ga gm gc] 24) ∧ w9.heap[g + 1]? = some (Obj.cells #[.slice la ln lc, .int .i64 sn, .int .i64 ov, .bool dn] 43)) := ⟨tbox_next HG8.out.1 hb9, tbox_next HG8.out.2 hb9⟩
          have HK9 := tbox_next HK8.out hb9
          have HQ9 : Hid (Tds w9 (.slice pba pbn pbc) l) := HQ8.out.below hb9
          have HV9 : Hid (Evs w9 (.slice pbea 0 pbec) []) := HV8.out.below hb9
          clear hcall hb9 k0 k1 k2 c0 c1 c2 c3 d0 d1 d2 d3 f0 f1 f2 f3
          have k0 := tcell_blk HG9.out.1 0
          have k1 := tcell_blk HG9.out.1 1
          have k2 := tcell_blk HG9.out.1 2
          have c0 := tcell_blk HG9.out.2 0
          have c1 := tcell_blk HG9.out.2 1
          have c2 := tcell_blk HG9.out.2 2
          have c3 := tcell_blk HG9.out.2 3
          have f0 := tcell_blk HK9 0
          have f1 := tcell_blk HK9 1
          have f2 := tcell_blk HK9 2
          have f3 := tcell_blk HK9 3
          simp only [List.getElem?_toArray, List.getElem?_cons_zero, List.getElem?_cons_succ] at k0 k1 k2 c0 c1 c2 c3 f0 f1 f2 f3
          clear HK9
          have hcall := clawed_err (tt : Int) (nn : Int) (.slice ga gm gc) ps (.slice ra rm rc) (.slice la ln lc) (.slice pba pbn pbc) l sn ov dn (tt : Int) 15 pbea pbec w9 (HP.out.below HB9.out) ⟨_, _, _, rfl⟩ (HT.out.below HB9.out) HQ9.out (by decide)
          go_wp2_with fail
          refine hcall.mono ?_
          rintro _ w10 ⟨rfl, hb10⟩
          have HB10 : Hid (Below w.heap.size w w10) := HB9.out.trans (hb10.mono HB9.out.size)
          clear hcall hb10
          go_wp2_with fail
          go_ret
          exact ⟨rfl, HB10.out⟩
  · have HCN : Hid (ce ≠ 0) := hz
    have hce1 : (ce == 0) = false := by simpa using hz
    clear hz
    by_cases hov : ov = 0
    · subst hov
      have hov1 : ((0 : Int) != 0) = false := by simp
      cases dn with
      | true =>
        have hcall := Push_err t n (.slice ga gm gc) ps (.slice ra rm rc) rows (.slice la ln lc) l sn 0 true term w4 (HP.out.below HB4.out) (HR.out.below HB4.out) (HT.out.below HB4.out) (by have := HZ.out; omega) ce (chkD_chkC HCE.out HCN.out) HCN.out
        have k0 := tcell_blk HG4.out.1 0
        have k1 := tcell_blk HG4.out.1 1
        have k2 := tcell_blk HG4.out.1 2
        have c0 := tcell_blk HG4.out.2 0
        have c1 := tcell_blk HG4.out.2 1
        have c2 := tcell_blk HG4.out.2 2
        have c3 := tcell_blk HG4.out.2 3
        simp only [List.getElem?_toArray, List.getElem?_cons_zero, List.getElem?_cons_succ] at k0 k1 k2 c0 c1 c2 c3
        go_wp2_with fail
        refine hcall.mono ?_
        rintro _ w5 hres
        obtain ⟨paa, pan, pac, paea, paen, paec, rfl, hdq, hdn⟩ := ResP.out hres
        clear hres hcall k0 k1 k2 c0 c1 c2 c3
        obtain ⟨_, _, e8⟩ := own_len hdn.own
        simp only [Value.slice.injEq, List.length_nil] at e8
        obtain ⟨-, e9, -⟩ := e8
        subst e9
        have HBN6 : Hid (Below w5.heap.size w5 (w5.alloc (Obj.cells #[.slice paa pan pac, .int .i64 sn, .int .i64 0, .bool true] 43))) := below_alloc _ _
        have HQ6 : Hid (Tds (w5.alloc (Obj.cells #[.slice paa pan pac, .int .i64 sn, .int .i64 0, .bool true] 43)) (.slice paa pan pac) l) := (Dq_tds hdq).below HBN6.out
        have HV6 : Hid (Evs (w5.alloc (Obj.cells #[.slice paa pan pac, .int .i64 sn, .int .i64 0, .bool true] 43)) (.slice paea 0 paec) []) := (Dn_evs hdn).below HBN6.out
        have HB6 : Hid (Below w.heap.size w (w5.alloc (Obj.cells #[.slice paa pan pac, .int .i64 sn, .int .i64 0, .bool true] 43))) := HB4.out.trans ((hdq.bel.trans (HBN6.out.mono hdq.bel.size)).mono HB4.out.size)
        have HG6 : Hid ((w5.alloc (Obj.cells #[.slice paa pan pac, .int .i64 sn, .int .i64 0, .bool true] 43)).heap[g]? = some (Obj.cells #[.int .i64 t, .int .i64 n, .slice ga gm gc] 24) ∧ (w5.alloc (Obj.cells #[.slice paa pan pac, .int .i64 sn, .int .i64 0, .bool true] 43)).heap[g + 1]? = some (Obj.cells #[.slice la ln lc, .int .i64 sn, .int .i64 0, .bool true] 43)) := ⟨tbox_next (tbox_next HG4.out.1 hdq.bel) HBN6.out, tbox_next (tbox_next HG4.out.2 hdq.bel) HBN6.out⟩
        have HK6 : Hid ((w5.alloc (Obj.cells #[.slice paa pan pac, .int .i64 sn, .int .i64 0, .bool true] 43)).heap[w5.heap.size]? = some (Obj.cells #[.slice paa pan pac, .int .i64 sn, .int .i64 0, .bool true] 43)) := heap_alloc_new _ _
        obtain ⟨kp, HKE6⟩ : ∃ kp, Hid (w5.heap.size = kp) := ⟨_, (rfl : w5.heap.size = _)⟩
        clear hdq hdn
        go_upto_region 13 with fail
        generalize w5.alloc (Obj.cells #[.slice paa pan pac, .int .i64 sn, .int .i64 0, .bool true] 43) = w6 at HQ6 HV6 HB6 HG6 HK6 ⊢
        rw [HKE6.out] at HK6 ⊢
        clear HBN6
        have hcall := End_err t n (.slice ga gm gc) ps (.slice ra rm rc) rows (.slice la ln lc) l sn 0 true w6 (HP.out.below HB6.out) (HR.out.below HB6.out) (HT.out.below HB6.out) (by have := HZ.out; omega) ce (chkD_chkC HCE.out HCN.out) HCN.out
        have k0 := tcell_blk HG6.out.1 0
        have k1 := tcell_blk HG6.out.1 1
        have k2 := tcell_blk HG6.out.1 2
        have c0 := tcell_blk HG6.out.2 0
        have c1 := tcell_blk HG6.out.2 1
        have c2 := tcell_blk HG6.out.2 2
        have c3 := tcell_blk HG6.out.2 3
        simp only [List.getElem?_toArray, List.getElem?_cons_zero, List.getElem?_cons_succ] at k0 k1 k2 c0 c1 c2 c3
        go_wp2_with fail
        refine hcall.mono ?_
        rintro _ w7 hres
        obtain ⟨pba, pbn, pbc, pbea, pben, pbec, rfl, hdq, hdn⟩ := ResP.out hres
        clear hres hcall k0 k1 k2 c0 c1 c2 c3
        obtain ⟨_, _, e8⟩ := own_len hdn.own
        simp only [Value.slice.injEq, List.length_nil] at e8
        obtain ⟨-, e9, -⟩ := e8
        subst e9
        have HBN8 : Hid (Below w7.heap.size w7 (w7.alloc (Obj.cells #[.slice pba pbn pbc, .int .i64 sn, .int .i64 0, .bool true] 43))) := below_alloc _ _
        have HQ8 : Hid (Tds (w7.alloc (Obj.cells #[.slice pba pbn pbc, .int .i64 sn, .int .i64 0, .bool true] 43)) (.slice pba pbn pbc) l) := (Dq_tds hdq).below HBN8.out
        have HV8 : Hid (Evs (w7.alloc (Obj.cells #[.slice pba pbn pbc, .int .i64 sn, .int .i64 0, .bool true] 43)) (.slice pbea 0 pbec) []) := (Dn_evs hdn).below HBN8.out
        have HB8 : Hid (Below w.heap.size w (w7.alloc (Obj.cells #[.slice pba pbn pbc, .int .i64 sn, .int .i64 0, .bool true] 43))) := HB6.out.trans ((hdq.bel.trans (HBN8.out.mono hdq.bel.size)).mono HB6.out.size)
        have HG8 : Hid ((w7.alloc (Obj.cells #[.slice pba pbn pbc, .int .i64 sn, .int .i64 0, .bool true] 43)).heap[g]? = some (Obj.cells #[.int .i64 t, .int .i64 n, .slice ga gm gc] 24) ∧ (w7.alloc (Obj.cells #[.slice pba pbn pbc, .int .i64 sn, .int .i64 0, .bool true] 43)).heap[g + 1]? = some (Obj.cells #[.slice la ln lc, .int .i64 sn, .int .i64 0, .bool true] 43)) := ⟨tbox_next (tbox_next HG6.out.1 hdq.bel) HBN8.out, tbox_next (tbox_next HG6.out.2 hdq.bel) HBN8.out⟩
        have HK8 : Hid ((w7.alloc (Obj.cells #[.slice pba pbn pbc, .int .i64 sn, .int .i64 0, .bool true] 43)).heap[w7.heap.size]? = some (Obj.cells #[.slice pba pbn pbc, .int .i64 sn, .int .i64 0, .bool true] 43)) := heap_alloc_new _ _
        obtain ⟨ke, HKE8⟩ : ∃ ke, Hid (w7.heap.size = ke) := ⟨_, (rfl : w7.heap.size = _)⟩
        have HKP8 : Hid ((w7.alloc (Obj.cells #[.slice pba pbn pbc, .int .i64 sn, .int .i64 0, .bool true] 43)).heap[kp]? = some (Obj.cells #[.slice paa pan pac, .int .i64 sn, .int .i64 0, .bool true] 43)) := tbox_next (tbox_next HK6.out hdq.bel) HBN8.out
        have HQP8 : Hid (Tds (w7.alloc (Obj.cells #[.slice pba pbn pbc, .int .i64 sn, .int .i64 0, .bool true] 43)) (.slice paa pan pac) l) := (HQ6.out.below hdq.bel).below HBN8.out
        have HVP8 : Hid (Evs (w7.alloc (Obj.cells #[.slice pba pbn pbc, .int .i64 sn, .int .i64 0, .bool true] 43)) (.slice paea 0 paec) []) := (HV6.out.below hdq.bel).below HBN8.out
        clear hdq hdn
        go_upto_region 14 with fail
        generalize w7.alloc (Obj.cells #[.slice pba pbn pbc, .int .i64 sn, .int .i64 0, .bool true] 43) = w8 at HQ8 HV8 HB8 HG8 HK8 HKP8 HQP8 HVP8 ⊢
        rw [HKE8.out] at HK8 ⊢
        clear HBN8
        have k0 := tcell_blk HG8.out.1 0
        have k1 := tcell_blk HG8.out.1 1
        have k2 := tcell_blk HG8.out.1 2
        have c0 := tcell_blk HG8.out.2 0
        have c1 := tcell_blk HG8.out.2 1
        have c2 := tcell_blk HG8.out.2 2
        have c3 := tcell_blk HG8.out.2 3
        have d0 := tcell_blk HKP8.out 0
        have d1 := tcell_blk HKP8.out 1
        have d2 := tcell_blk HKP8.out 2
        have d3 := tcell_blk HKP8.out 3
        have f0 := tcell_blk HK8.out 0
        have f1 := tcell_blk HK8.out 1
        have f2 := tcell_blk HK8.out 2
        have f3 := tcell_blk HK8.out 3
        simp only [List.getElem?_toArray, List.getElem?_cons_zero, List.getElem?_cons_succ] at k0 k1 k2 c0 c1 c2 c3 d0 d1 d2 d3 f0 f1 f2 f3
        have hcall := clawed_err t n (.slice ga gm gc) ps (.slice ra rm rc) (.slice la ln lc) (.slice paa pan pac) l sn 0 true term ce paea paec w8 (HP.out.below HB8.out) ⟨_, _, _, rfl⟩ (HT.out.below HB8.out) HQP8.out HCN.out
        go_wp2_with fail
        refine hcall.mono ?_
        rintro _ w9 ⟨rfl, hb9⟩
        have HB9 : Hid (Below w.heap.size w w9) := HB8.out.trans (hb9.mono HB8.out.size)
        have HG9 : Hid (w9.heap[g]? = some (Obj.cells #[.int .i64 t, .int .i64 n, .slice ga gm gc] 24) ∧ w9.heap[g + 1]? = some (Obj.cells #[.slice la ln lc, .int .i64 sn, .int .i64 0, .bool true] 43)) := ⟨tbox_next HG8.out.1 hb9, tbox_next HG8.out.2 hb9⟩
        have HK9 := tbox_next HK8.out hb9
        have HQ9 : Hid (Tds w9 (.slice pba pbn pbc) l) := HQ8.out.below hb9
        have HV9 : Hid (Evs w9 (.slice pbea 0 pbec) []) := HV8.out.below hb9
        clear hcall hb9 k0 k1 k2 c0 c1 c2 c3 d0 d1 d2 d3 f0 f1 f2 f3
        have k0 := tcell_blk HG9.out.1 0
        have k1 := tcell_blk HG9.out.1 1
        have k2 := tcell_blk HG9.out.1 2
        have c0 := tcell_blk HG9.out.2 0
        have c1 := tcell_blk HG9.out.2 1
        have c2 := tcell_blk HG9.out.2 2
        have c3 := tcell_blk HG9.out.2 3
        have f0 := tcell_blk HK9 0
        have f1 := tcell_blk HK9 1
        have f2 := tcell_blk HK9 2
        have f3 := tcell_blk HK9 3
        simp only [List.getElem?_toArray, List.getElem?_cons_zero, List.getElem?_cons_succ] at k0 k1 k2 c0 c1 c2 c3 f0 f1 f2 f3
        clear HK9
        have hcall := clawed_err t n (.slice ga gm gc) ps (.slice ra rm rc) (.slice la ln lc) (.slice pba pbn pbc) l sn 0 true t ce pbea pbec w9 (HP.out.below HB9.out) ⟨_, _, _, rfl⟩ (HT.out.below HB9.out) HQ9.out HCN.out
        go_wp2_with fail
        refine hcall.mono ?_
        rintro _ w10 ⟨rfl, hb10⟩
        have HB10 : Hid (Below w.heap.size w w10) := HB9.out.trans (hb10.mono HB9.out.size)
        clear hcall hb10
        go_wp2_with fail
        go_ret
        exact ⟨rfl, HB10.out⟩
      | false =>
        have hcall := Push_err t n (.slice ga gm gc) ps (.slice ra rm rc) rows (.slice la ln lc) l sn 0 false term w4 (HP.out.below HB4.out) (HR.out.below HB4.out) (HT.out.below HB4.out) (by have := HZ.out; omega) ce (chkD_chkC HCE.out HCN.out) HCN.out
        have k0 := tcell_blk HG4.out.1 0
        have k1 := tcell_blk HG4.out.1 1
        have k2 := tcell_blk HG4.out.1 2
        have c0 := tcell_blk HG4.out.2 0
        have c1 := tcell_blk HG4.out.2 1
        have c2 := tcell_blk HG4.out.2 2
        have c3 := tcell_blk HG4.out.2 3
        simp only [List.getElem?_toArray, List.getElem?_cons_zero, List.getElem?_cons_succ] at k0 k1 k2 c0 c1 c2 c3
        go_wp2_with fail
        refine hcall.mono ?_
        rintro _ w5 hres
        obtain ⟨paa, pan, pac, paea, paen, paec, rfl, hdq, hdn⟩ := ResP.out hres
        clear hres hcall k0 k1 k2 c0 c1 c2 c3
        obtain ⟨_, _, e8⟩ := own_len hdn.own
        simp only [Value.slice.injEq, List.length_nil] at e8
        obtain ⟨-, e9, -⟩ := e8
        subst e9
        have HBN6 : Hid (Below w5.heap.size w5 (w5.alloc (Obj.cells #[.slice paa pan pac, .int .i64 sn, .int .i64 0, .bool false] 43))) := below_alloc _ _
        have HQ6 : Hid (Tds (w5.alloc (Obj.cells #[.slice paa pan pac, .int .i64 sn, .int .i64 0, .bool false] 43)) (.slice paa pan pac) l) := (Dq_tds hdq).below HBN6.out
        have HV6 : Hid (Evs (w5.alloc (Obj.cells #[.slice paa pan pac, .int .i64 sn, .int .i64 0, .bool false] 43)) (.slice paea 0 paec) []) := (Dn_evs hdn).below HBN6.out
        have HB6 : Hid (Below w.heap.size w (w5.alloc (Obj.cells #[.slice paa pan pac, .int .i64 sn, .int .i64 0, .bool false] 43))) := HB4.out.trans ((hdq.bel.trans (HBN6.out.mono hdq.bel.size)).mono HB4.out.size)
        have HG6 : Hid ((w5.alloc (Obj.cells #[.slice paa pan pac, .int .i64 sn, .int .i64 0, .bool false] 43)).heap[g]? = some (Obj.cells #[.int .i64 t, .int .i64 n, .slice ga gm gc] 24) ∧ (w5.alloc (Obj.cells #[.slice paa pan pac, .int .i64 sn, .int .i64 0, .bool false] 43)).heap[g + 1]? = some (Obj.cells #[.slice la ln lc, .int .i64 sn, .int .i64 0, .bool false] 43)) := ⟨tbox_next (tbox_next HG4.out.1 hdq.bel) HBN6.out, tbox_next (tbox_next HG4.out.2 hdq.bel) HBN6.out⟩
        have HK6 : Hid ((w5.alloc (Obj.cells #[.slice paa pan pac, .int .i64 sn, .int .i64 0, .bool false] 43)).heap[w5.heap.size]? = some (Obj.cells #[.slice paa pan pac, .int .i64 sn, .int .i64 0, .bool false] 43)) := heap_alloc_new _ _
        obtain ⟨kp, HKE6⟩ : ∃ kp, Hid (w5.heap.size = kp) := ⟨_, (rfl : w5.heap.size = _)⟩
        clear hdq hdn
        go_upto_region 13 with fail
        generalize w5.alloc (Obj.cells #[.slice paa pan pac, .int .i64 sn, .int .i64 0, .bool false] 43) = w6 at HQ6 HV6 HB6 HG6 HK6 ⊢
        rw [HKE6.out] at HK6 ⊢
        clear HBN6
        have hcall := End_err t n (.slice ga gm gc) ps (.slice ra rm rc) rows (.slice la ln lc) l sn 0 false w6 (HP.out.below HB6.out) (HR.out.below HB6.out) (HT.out.below HB6.out) (by have := HZ.out; omega) ce (chkD_chkC HCE.out HCN.out) HCN.out
        have k0 := tcell_blk HG6.out.1 0
        have k1 := tcell_blk HG6.out.1 1
        have k2 := tcell_blk HG6.out.1 2
        have c0 := tcell_blk HG6.out.2 0
        have c1 := tcell_blk HG6.out.2 1
        have c2 := tcell_blk HG6.out.2 2
        have c3 := tcell_blk HG6.out.2 3
        simp only [List.getElem?_toArray, List.getElem?_cons_zero, List.getElem?_cons_succ] at k0 k1 k2 c0 c1 c2 c3
        go_wp2_with fail
        refine hcall.mono ?_
        rintro _ w7 hres
        obtain ⟨pba, pbn, pbc, pbea, pben, pbec, rfl, hdq, hdn⟩ := ResP.out hres
        clear hres hcall k0 k1 k2 c0 c1 c2 c3
        obtain ⟨_, _, e8⟩ := own_len hdn.own
        simp only [Value.slice.injEq, List.length_nil] at e8
        obtain ⟨-, e9, -⟩ := e8
        subst e9
        have HBN8 : Hid (Below w7.heap.size w7 (w7.alloc (Obj.cells #[.slice pba pbn pbc, .int .i64 sn, .int .i64 0, .bool false] 43))) := below_alloc _ _
        have HQ8 : Hid (Tds (w7.alloc (Obj.cells #[.slice pba pbn pbc, .int .i64 sn, .int .i64 0, .bool false] 43)) (.slice pba pbn pbc) l) := (Dq_tds hdq).below HBN8.out
        have HV8 : Hid (Evs (w7.alloc (Obj.cells #[.slice pba pbn pbc, .int .i64 sn, .int .i64 0, .bool false] 43)) (.slice pbea 0 pbec) []) := (Dn_evs hdn).below HBN8.out
        have HB8 : Hid (Below w.heap.size w (w7.alloc (Obj.cells #[.slice pba pbn pbc, .int .i64 sn, .int .i64 0, .bool false] 43))) := HB6.out.trans ((hdq.bel.trans (HBN8.out.mono hdq.bel.size)).mono HB6.out.size)
        have HG8 : Hid ((w7.alloc (Obj.cells #[.slice pba pbn pbc, .int .i64 sn, .int .i64 0, .bool false] 43)).heap[g]? = some (Obj.cells #[.int .i64 t, .int .i64 n, .slice ga gm gc] 24) ∧ (w7.alloc (Obj.cells #[.slice pba pbn pbc, .int .i64 sn, .int .i64 0, .bool false] 43)).heap[g + 1]? = some (Obj.cells #[.slice la ln lc, .int .i64 sn, .int .i64 0, .bool false] 43)) := ⟨tbox_next (tbox_next HG6.out.1 hdq.bel) HBN8.out, tbox_next (tbox_next HG6.out.2 hdq.bel) HBN8.out⟩
        have HK8 : Hid ((w7.alloc (Obj.cells #[.slice pba pbn pbc, .int .i64 sn, .int .i64 0, .bool false] 43)).heap[w7.heap.size]? = some (Obj.cells #[.slice pba pbn pbc, .int .i64 sn, .int .i64 0, .bool false] 43)) := heap_alloc_new _ _
        obtain ⟨ke, HKE8⟩ : ∃ ke, Hid (w7.heap.size = ke) := ⟨_, (rfl : w7.heap.size = _)⟩
        have HKP8 : Hid ((w7.alloc (Obj.cells #[.slice pba pbn pbc, .int .i64 sn, .int .i64 0, .bool false] 43)).heap[kp]? = some (Obj.cells #[.slice paa pan pac, .int .i64 sn, .int .i64 0, .bool false] 43)) := tbox_next (tbox_next HK6.out hdq.bel) HBN8.out
        have HQP8 : Hid (Tds (w7.alloc (Obj.cells #[.slice pba pbn pbc, .int .i64 sn, .int .i64 0, .bool false] 43)) (.slice paa pan pac) l) := (HQ6.out.below hdq.bel).below HBN8.out
        have HVP8 : Hid (Evs (w7.alloc (Obj.cells #[.slice pba pbn pbc, .int .i64 sn, .int .i64 0, .bool false] 43)) (.slice paea 0 paec) []) := (HV6.out.below hdq.bel).below HBN8.out
        clear hdq hdn
        go_upto_region 14 with fail
        generalize w7.alloc (Obj.cells #[.slice pba pbn pbc, .int .i64 sn, .int .i64 0, .bool false] 43) = w8 at HQ8 HV8 HB8 HG8 HK8 HKP8 HQP8 HVP8 ⊢
        rw [HKE8.out] at HK8 ⊢
        clear HBN8
        have k0 := tcell_blk HG8.out.1 0
        have k1 := tcell_blk HG8.out.1 1
        have k2 := tcell_blk HG8.out.1 2
        have c0 := tcell_blk HG8.out.2 0
        have c1 := tcell_blk HG8.out.2 1
        have c2 := tcell_blk HG8.out.2 2
        have c3 := tcell_blk HG8.out.2 3
        have d0 := tcell_blk HKP8.out 0
        have d1 := tcell_blk HKP8.out 1
        have d2 := tcell_blk HKP8.out 2
        have d3 := tcell_blk HKP8.out 3
        have f0 := tcell_blk HK8.out 0
        have f1 := tcell_blk HK8.out 1
        have f2 := tcell_blk HK8.out 2
        have f3 := tcell_blk HK8.out 3
        simp only [List.getElem?_toArray, List.getElem?_cons_zero, List.getElem?_cons_succ] at k0 k1 k2 c0 c1 c2 c3 d0 d1 d2 d3 f0 f1 f2 f3
        have hcall := clawed_err t n (.slice ga gm gc) ps (.slice ra rm rc) (.slice la ln lc) (.slice paa pan pac) l sn 0 false term ce paea paec w8 (HP.out.below HB8.out) ⟨_, _, _, rfl⟩ (HT.out.below HB8.out) HQP8.out HCN.out
        go_wp2_with fail
        refine hcall.mono ?_
        rintro _ w9 ⟨rfl, hb9⟩
        have HB9 : Hid (Below w.heap.size w w9) := HB8.out.trans (hb9.mono HB8.out.size)
        have HG9 : Hid (w9.heap[g]? = some (Obj.cells #[.int .i64 t, .int .i64 n, .slice ga gm gc] 24) ∧ w9.heap[g + 1]? = some (Obj.cells #[.slice la ln lc, .int .i64 sn, .int .i64 0, .bool false] 43)) := ⟨tbox_next HG8.out.1 hb9, tbox_next HG8.out.2 hb9⟩
        have HK9 := tbox_next HK8.out hb9
        have HQ9 : Hid (Tds w9 (.slice pba pbn pbc) l) := HQ8.out.below hb9
        have HV9 : Hid (Evs w9 (.slice pbea 0 pbec) []) := HV8.out.below hb9
        clear hcall hb9 k0 k1 k2 c0 c1 c2 c3 d0 d1 d2 d3 f0 f1 f2 f3
        have k0 := tcell_blk HG9.out.1 0
        have k1 := tcell_blk HG9.out.1 1
        have k2 := tcell_blk HG9.out.1 2
        have c0 := tcell_blk HG9.out.2 0
        have c1 := tcell_blk HG9.out.2 1
        have c2 := tcell_blk HG9.out.2 2
        have c3 := tcell_blk HG9.out.2 3
        have f0 := tcell_blk HK9 0
        have f1 := tcell_blk HK9 1
        have f2 := tcell_blk HK9 2
        have f3 := tcell_blk HK9 3
        simp only [List.getElem?_toArray, List.getElem?_cons_zero, List.getElem?_cons_succ] at k0 k1 k2 c0 c1 c2 c3 f0 f1 f2 f3
        clear HK9
        have hcall := clawed_err t n (.slice ga gm gc) ps (.slice ra rm rc) (.slice la ln lc) (.slice pba pbn pbc) l sn 0 false t ce pbea pbec w9 (HP.out.below HB9.out) ⟨_, _, _, rfl⟩ (HT.out.below HB9.out) HQ9.out HCN.out
        go_wp2_with fail
        refine hcall.mono ?_
        rintro _ w10 ⟨rfl, hb10⟩
        have HB10 : Hid (Below w.heap.size w w10) := HB9.out.trans (hb10.mono HB9.out.size)
        clear hcall hb10
        go_wp2_with fail
        go_ret
        exact ⟨rfl, HB10.out⟩
    · have hov1 : (ov != 0) = true := by simpa using hov
      have HOV : Hid (ov ≠ 0) := hov
      clear hov
      have hcall := Push_err t n (.slice ga gm gc) ps (.slice ra rm rc) rows (.slice la ln lc) l sn ov dn term w4 (HP.out.below HB4.out) (HR.out.below HB4.out) (HT.out.below HB4.out) (by have := HZ.out; omega) ce (chkD_chkC HCE.out HCN.out) HCN.out
      have k0 := tcell_blk HG4.out.1 0
      have k1 := tcell_blk HG4.out.1 1
      have k2 := tcell_blk HG4.out.1 2
      have c0 := tcell_blk HG4.out.2 0
      have c1 := tcell_blk HG4.out.2 1
      have c2 := tcell_blk HG4.out.2 2
      have c3 := tcell_blk HG4.out.2 3
      simp only [List.getElem?_toArray, List.getElem?_cons_zero, List.getElem?_cons_succ] at k0 k1 k2 c0 c1 c2 c3
      go_wp2_with fail
      refine hcall.mono ?_
      rintro _ w5 hres
      obtain ⟨paa, pan, pac, paea, paen, paec, rfl, hdq, hdn⟩ := ResP.out hres
      clear hres hcall k0 k1 k2 c0 c1 c2 c3
      obtain ⟨_, _, e8⟩ := own_len hdn.own
      simp only [Value.slice.injEq, List.length_nil] at e8
      obtain ⟨-, e9, -⟩ := e8
      subst e9
      have HBN6 : Hid (Below w5.heap.size w5 (w5.alloc (Obj.cells #[.slice paa pan pac, .int .i64 sn, .int .i64 ov, .bool dn] 43))) := below_alloc _ _
      have HQ6 : Hid (Tds (w5.alloc (Obj.cells #[.slice paa pan pac, .int .i64 sn, .int .i64 ov, .bool dn] 43)) (.slice paa pan pac) l) := (Dq_tds hdq).below HBN6.out
      have HV6 : Hid (Evs (w5.alloc (Obj.cells #[.slice paa pan pac, .int .i64 sn, .int .i64 ov, .bool dn] 43)) (.slice paea 0 paec) []) := (Dn_evs hdn).below HBN6.out
      have HB6 : Hid (Below w.heap.size w (w5.alloc (Obj.cells #[.slice paa pan pac, .int .i64 sn, .int .i64 ov, .bool dn] 43))) := HB4.out.trans ((hdq.bel.trans (HBN6.out.mono hdq.bel.size)).mono HB4.out.size)
      have HG6 : Hid ((w5.alloc (Obj.cells #[.slice paa pan pac, .int .i64 sn, .int .i64 ov, .bool dn] 43)).heap[g]? = some (Obj.cells #[.int .i64 t, .int .i64 n, .slice ga gm gc] 24) ∧ (w5.alloc (Obj.cells #[.slice paa pan pac, .int .i64 sn, .int .i64 ov, .bool dn] 43)).heap[g + 1]? = some (Obj.cells #[.slice la ln lc, .int .i64 sn, .int .i64 ov, .bool dn] 43)) := ⟨tbox_next (tbox_next HG4.out.1 hdq.bel) HBN6.out, tbox_next (tbox_next HG4.out.2 hdq.bel) HBN6.out⟩
      have HK6 : Hid ((w5.alloc (Obj.cells #[.slice paa pan pac, .int .i64 sn, .int .i64 ov, .bool dn] 43)).heap[w5.heap.size]? = some (Obj.cells #[.slice paa pan pac, .int .i64 sn, .int .i64 ov, .bool dn] 43)) := heap_alloc_new _ _
      obtain ⟨kp, HKE6⟩ : ∃ kp, Hid (w5.heap.size = kp) := ⟨_, (rfl : w5.heap.size = _)⟩
      clear hdq hdn
      go_upto_region 13 with fail
      generalize w5.alloc (Obj.cells #[.slice paa pan pac, .int .i64 sn, .int .i64 ov, .bool dn] 43) = w6 at HQ6 HV6 HB6 HG6 HK6 ⊢
      rw [HKE6.out] at HK6 ⊢
      clear HBN6
      have hcall := End_err t n (.slice ga gm gc) ps (.slice ra rm rc) rows (.slice la ln lc) l sn ov dn w6 (HP.out.below HB6.out) (HR.out.below HB6.out) (HT.out.below HB6.out) (by have := HZ.out; omega) ce (chkD_chkC HCE.out HCN.out) HCN.out
      have k0 := tcell_blk HG6.out.1 0
      have k1 := tcell_blk HG6.out.1 1
      have k2 := tcell_blk HG6.out.1 2
      have c0 := tcell_blk HG6.out.2 0
      have c1 := tcell_blk HG6.out.2 1
      have c2 := tcell_blk HG6.out.2 2
      have c3 := tcell_blk HG6.out.2 3
      simp only [List.getElem?_toArray, List.getElem?_cons_zero, List.getElem?_cons_succ] at k0 k1 k2 c0 c1 c2 c3
      go_wp2_with fail
      refine hcall.mono ?_
      rintro _ w7 hres
      obtain ⟨pba, pbn, pbc, pbea, pben, pbec, rfl, hdq, hdn⟩ := ResP.out hres
      clear hres hcall k0 k1 k2 c0 c1 c2 c3
      obtain ⟨_, _, e8⟩ := own_len hdn.own
      simp only [Value.slice.injEq, List.length_nil] at e8
      obtain ⟨-, e9, -⟩ := e8
      subst e9
      have HBN8 : Hid (Below w7.heap.size w7 (w7.alloc (Obj.cells #[.slice pba pbn pbc, .int .i64 sn, .int .i64 ov, .bool dn] 43))) := below_alloc _ _
      have HQ8 : Hid (Tds (w7.alloc (Obj.cells #[.slice pba pbn pbc, .int .i64 sn, .int .i64 ov, .bool dn] 43)) (.slice pba pbn pbc) l) := (Dq_tds hdq).below HBN8.out
      have HV8 : Hid (Evs (w7.alloc (Obj.cells #[.slice pba pbn pbc, .int .i64 sn, .int .i64 ov, .bool dn] 43)) (.slice pbea 0 pbec) []) := (Dn_evs hdn).below HBN8.out
      have HB8 : Hid (Below w.heap.size w (w7.alloc (Obj.cells #[.slice pba pbn pbc, .int .i64 sn, .int .i64 ov, .bool dn] 43))) := HB6.out.trans ((hdq.bel.trans (HBN8.out.mono hdq.bel.size)).mono HB6.out.size)
      have HG8 : Hid ((w7.alloc (Obj.cells #[.slice pba pbn pbc, .int .i64 sn, .int .i64 ov, .bool dn] 43)).heap[g]? = some (Obj.cells #[.int .i64 t, .int .i64 n, .slice ga gm gc] 24) ∧ (w7.alloc (Obj.cells #[.slice pba pbn pbc, .int .i64 sn, .int .i64 ov, .bool dn] 43)).heap[g + 1]? = some (Obj.cells #[.slice la ln lc, .int .i64 sn, .int .i64 ov, .bool dn] 43)) := ⟨tbox_next (tbox_next HG6.out.1 hdq.bel) HBN8.out, tbox_next (tbox_next HG6.out.2 hdq.bel) HBN8.out⟩
      have HK8 : Hid ((w7.alloc (Obj.cells #[.slice pba pbn pbc, .int .i64 sn, .int .i64 ov, .bool dn] 43)).heap[w7.heap.size]? = some (Obj.cells #[.slice pba pbn pbc, .int .i64 sn, .int .i64 ov, .bool dn] 43)) := heap_alloc_new _ _
      obtain ⟨ke, HKE8⟩ : ∃ ke, Hid (w7.heap.size = ke) := ⟨_, (rfl : w7.heap.size = _)⟩
      have HKP8 : Hid ((w7.alloc (Obj.cells #[.slice pba pbn pbc, .int .i64 sn, .int .i64 ov, .bool dn] 43)).heap[kp]? = some (Obj.cells #[.slice paa pan pac, .int .i64 sn, .int .i64 ov, .bool dn] 43)) := tbox_next (tbox_next HK6.out hdq.bel) HBN8.out
      have HQP8 : Hid (Tds (w7.alloc (Obj.cells #[.slice pba pbn pbc, .int .i64 sn, .int .i64 ov, .bool dn] 43)) (.slice paa pan pac) l) := (HQ6.out.below hdq.bel).below HBN8.out
      have HVP8 : Hid (Evs (w7.alloc (Obj.cells #[.slice pba pbn pbc, .int .i64 sn, .int .i64 ov, .bool dn] 43)) (.slice paea 0 paec) []) := (HV6.out.below hdq.bel).below HBN8.out
      clear hdq hdn
      go_upto_region 14 with fail
      generalize w7.alloc (Obj.cells #[.slice pba pbn pbc, .int .i64 sn, .int .i64 ov, .bool dn] 43) = w8 at HQ8 HV8 HB8 HG8 HK8 HKP8 HQP8 HVP8 ⊢
      rw [HKE8.out] at HK8 ⊢
      clear HBN8
      have k0 := tcell_blk HG8.out.1 0
      have k1 := tcell_blk HG8.out.1 1
      have k2 := tcell_blk HG8.out.1 2
      have c0 := tcell_blk HG8.out.2 0
      have c1 := tcell_blk HG8.out.2 1
      have c2 := tcell_blk HG8.out.2 2
      have c3 := tcell_blk HG8.out.2 3
      have d0 := tcell_blk HKP8.out 0
      have d1 := tcell_blk HKP8.out 1
      have d2 := tcell_blk HKP8.out 2
      have d3 := tcell_blk HKP8.out 3
      have f0 := tcell_blk HK8.out 0
      have f1 := tcell_blk HK8.out 1
      have f2 := tcell_blk HK8.out 2
      have f3 := tcell_blk HK8.out 3
      simp only [List.getElem?_toArray, List.getElem?_cons_zero, List.getElem?_cons_succ] at k0 k1 k2 c0 c1 c2 c3 d0 d1 d2 d3 f0 f1 f2 f3
      have hcall := clawed_err t n (.slice ga gm gc) ps (.slice ra rm rc) (.slice la ln lc) (.slice paa pan pac) l sn ov dn term ce paea paec w8 (HP.out.below HB8.out) ⟨_, _, _, rfl⟩ (HT.out.below HB8.out) HQP8.out HCN.out
      go_wp2_with fail
      refine hcall.mono ?_
      rintro _ w9 ⟨rfl, hb9⟩
      have HB9 : Hid (Below w.heap.size w w9) := HB8.out.trans (hb9.mono HB8.out.size)
      have HG9 : Hid (w9.heap[g]? = some (Obj.cells #[.int .i64 t, .int .i64 n, .slice ga gm gc] 24) ∧ w9.heap[g + 1]? = some (Obj.cells #[.slice la ln lc, .int .i64 sn, .int .i64 ov, .bool dn] 43)) := ⟨tbox_next HG8.out.1 hb9, tbox_next HG8.out.2 hb9⟩
      have HK9 := tbox_next HK8.out hb9
      have HQ9 : Hid (Tds w9 (.slice pba pbn pbc) l) := HQ8.out.below hb9
      have HV9 : Hid (Evs w9 (.slice pbea 0 pbec) []) := HV8.out.below hb9
      clear hcall hb9 k0 k1 k2 c0 c1 c2 c3 d0 d1 d2 d3 f0 f1 f2 f3
      have k0 := tcell_blk HG9.out.1 0
      have k1 := tcell_blk HG9.out.1 1
      have k2 := tcell_blk HG9.out.1 2
      have c0 := tcell_blk HG9.out.2 0
      have c1 := tcell_blk HG9.out.2 1
      have c2 := tcell_blk HG9.out.2 2
      have c3 := tcell_blk HG9.out.2 3
      have f0 := tcell_blk HK9 0
      have f1 := tcell_blk HK9 1
      have f2 := tcell_blk HK9 2
      have f3 := tcell_blk HK9 3
      simp only [List.getElem?_toArray, List.getElem?_cons_zero, List.getElem?_cons_succ] at k0 k1 k2 c0 c1 c2 c3 f0 f1 f2 f3
      clear HK9
      have hcall := clawed_err t n (.slice ga gm gc) ps (.slice ra rm rc) (.slice la ln lc) (.slice pba pbn pbc) l sn ov dn t ce pbea pbec w9 (HP.out.below HB9.out) ⟨_, _, _, rfl⟩ (HT.out.below HB9.out) HQ9.out HCN.out
      go_wp2_with fail
      refine hcall.mono ?_
      rintro _ w10 ⟨rfl, hb10⟩
      have HB10 : Hid (Below w.heap.size w w10) := HB9.out.trans (hb10.mono HB9.out.size)
      clear hcall hb10
      go_wp2_with fail
      go_ret
      exact ⟨rfl, HB10.out⟩

/-! ### What the walk gives, for every argument -/
set_option maxRecDepth 100000 in
theorem contract (H : Type) (enc : TypeId × Value → H) (W : World) (base : Nat) (args : Array Value) (ds gs : List (DataW H)) (before : List MemPlace)
    (hval : ∀ (j : Nat) t v, Try.f4.params[j]? = some t → args[j]? = some v → Value.okWide Try.prog W .any base t v)
    (hW : DataW.Whole enc Try.prog Try.f4.params.toList Rows.climbSaysSpec.vars false W args.toList ds gs before) (hsz : (DataW.weightsEach Try.prog (Try.f4.params.toList ++ Rows.climbSaysSpec.plain.varTypes Try.prog) (ds ++ gs)).all (· ≤ reachBytes) = true) :
    Calls Try.prog 4 args W fun e W' => ∃ v, e = .returned v ∧ Rows.climbSaysSpec.post enc Try.prog Try.f4 false true false false W args v W' := by
  have hW' := hW
  obtain ⟨p, q, hA0, hV, rfl, hfz, hnd⟩ := hW
  have hA : DataW.TrodAll enc Try.prog W 0 (fun _ => true) true Try.f4.params.toList args.toList ds p := hA0
  rw [Try.params4] at hA hval hsz
  obtain ⟨v0, vs0, d0, ds0, p0, q0, hargs, rfl, rfl, h0, r0⟩ := trodAll_cons hA
  obtain ⟨v1, vs1, d1, ds1, p1, q1, rfl, rfl, rfl, h1, r1⟩ := trodAll_cons r0
  obtain ⟨v2, vs2, d2, ds2, p2, q2, rfl, rfl, rfl, h2, r2⟩ := trodAll_cons r1
  obtain ⟨v3, vs3, d3, ds3, p3, q3, rfl, rfl, rfl, h3, r3⟩ := trodAll_cons r2
  obtain ⟨rfl, rfl, rfl⟩ := trodAll_nil r3
  obtain rfl : args = #[v0, v1, v2, v3] := by cases args; simp_all
  obtain ⟨rfl, rfl⟩ := trodVars_none hV
  have k0 := h0
  have lt0 : ∀ x ∈ p0, x.block < W.heap.size := by obtain ⟨m, hm⟩ := k0; exact DataW.trod_lt m _ _ _ hm
  obtain ⟨a0t, a0n, a0s, a0p, rfl, w0s⟩ := open_gram (hval 0 24 v0 rfl rfl) h0
  have k1 := h1
  have lt1 : ∀ x ∈ p1, x.block < W.heap.size := by obtain ⟨m, hm⟩ := k1; exact DataW.trod_lt m _ _ _ hm
  obtain ⟨a1l, w1s⟩ := open_rwsv (hval 1 40 v1 rfl rfl) h1
  have k2 := h2
  have lt2 : ∀ x ∈ p2, x.block < W.heap.size := by obtain ⟨m, hm⟩ := k2; exact DataW.trod_lt m _ _ _ hm
  obtain ⟨a2s, a2l, a2n, a2o, a2d, rfl, w2s, w2y⟩ := open_climber (hval 2 43 v2 rfl rfl) h2
  obtain ⟨a3, rfl, rfl, rfl, w3⟩ := open_int Try.underlying3 (hval 3 3 v3 rfl rfl) h3
  have r2z : a2l.length ≤ 4398046510976 := by
    rcases w2y with h | ⟨el, sp, rest, rfl, h⟩
    · rw [h]; simp
    · have := List.all_eq_true.1 hsz _ (DataW.weights_mem_each (j := 2) (t := 43) rfl rfl ((el.length + sp.length) * Try.prog.bytesOf 49) (by simp [DataW.weights, Try.underlying43, DataW.weightsEach, Try.underlying41]))
      rw [bytes49] at this
      have h9 : (el.length + sp.length) * 32 ≤ 140737488351232 := of_decide_eq_true this
      omega
  clear hA0
  refine (walk a0t a0n a0s a0p _ a1l a2s a2l a2n a2o a2d a3 W w0s w1s w2s r2z w3).mono fun e W' ⟨he, bel⟩ => ?_
  subst he
  exact ⟨_, rfl, _, _, _, [], _, [], hW', trodAll_mk1 (shut_bool Try.underlying4 _), (trodAll_cons_mk (Below.trod laidOut (by kernel_rfl) (of_decide_eq_true (by kernel_rfl)) k0 bel lt0) (trodAll_cons_mk (Below.trod laidOut (by kernel_rfl) (of_decide_eq_true (by kernel_rfl)) k1 bel lt1) (trodAll_cons_mk (Below.trod laidOut (by kernel_rfl) (of_decide_eq_true (by kernel_rfl)) k2 bel lt2) (trodAll_cons_mk (shut_int Try.underlying3 w3) trodAll_mk0)))), rfl, bel.frame _, fun h => by cases h⟩

/-! ### The row's step -/
set_option maxRecDepth 100000 in
theorem lifted (os : Os) (started : os.Started) (H : Type) (enc : TypeId × Value → H) :
    ReturnsInHanded {} Try.checked os 4 .any (Rows.climbSaysSpec.pre6 enc Try.prog Try.f4 Rows.climbSaysRow.domain false) (Rows.climbSaysSpec.post enc Try.prog Try.f4 false true false false) := by
  refine returnsInHanded_of_change_sized (C := Try.checked) own started (by kernel_rfl) Try.func4
    (ChangeSpec.witness6 (enc := enc) (C := Try.checked) false ⟨#[], #[.agg #[.int .i64 0, .int .i64 0, .slice none 0 0], .slice none 0 0, .agg #[.slice none 0 0, .int .i64 0, .int .i64 0, .bool false], .int .i64 0], []⟩ 8 (by kernel_rfl) (by kernel_rfl) (by kernel_rfl) (by kernel_rfl)) ?_
  intro W base args ds gs before hval hW hcnd hsz _
  exact contract H enc W base args ds gs before hval hW hsz

theorem over : Rows.climbSaysRow.holds Try.pinned (OpenSpec.ofChange Rows.climbSaysSpec) :=
  OpenClaim.holds_of_wide 4 Try.f4 rfl rfl rfl rfl rfl rfl rfl ⟨rfl, rfl, rfl, rfl, rfl⟩ rfl rfl rfl rfl rfl (by kernel_rfl) Try.func4 (by kernel_rfl)
    (of_decide_eq_true (by kernel_rfl)) (by unfold Func.isWrapper; first | (rw [if_pos (by decide +kernel)]; kernel_rfl) | (rw [if_neg (by decide +kernel)]; exact ⟨rfl, rfl⟩))
    (fun os started H enc _ => lifted os started H enc)

end Go.Proofs.Ytpfehghicaaghaa.climbSays
namespace Go.Proofs.Ytpfehghicaaghaa
/-- The given statement. -/
theorem climbSays_holds : Rows.ClimbSaysSaid := climbSays.over
#print axioms climbSays_holds
end Go.Proofs.Ytpfehghicaaghaa
