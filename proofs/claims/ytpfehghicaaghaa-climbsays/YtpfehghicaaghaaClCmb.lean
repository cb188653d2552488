/-
  The contract of pushref.Climb.
-/
import Derived.Test.YtpfehghicaaghaaClCm0
namespace Go.Proofs.Ytpfehghicaaghaa
open Go.RowKit
open Cg

structure REd (wr : World) (B q vn vc b2 o2 al ac j : Nat) (va : Option Addr) (s0 : Bool) (s1 s2 s3 : Int) (xs : List Value) (gb2 : Nat) (gr : Nat) (cr : Nat) (d : Nat → Bool) (x176 x177 x178 x179 x180 x181 x182 x183 x184 : Value) (W : World) : Prop where
  f0 : d 0 = true → x176 = (.pointer (some ⟨q, 0, none⟩))
  f1 : d 1 = true → x177 = (.slice va vn vc)
  f2 : d 2 = true → x178 = (.slice (some ⟨b2, o2, none⟩) al ac)
  f3 : d 3 = true → x179 = (.int .i64 (j : Int))
  f4 : d 4 = true → x180 = (.pointer (some ⟨b2, o2 + j * 4, none⟩))
  f5 : d 5 = true → x181 = (.agg #[.bool s0, .int .i64 s1, .int .i64 s2, .int .i64 s3])
  f6 : d 6 = true → x182 = (.slice (some ⟨gb2, 0, none⟩) 1 1)
  f7 : d 7 = true → x183 = (.slice (some ⟨gr, 0, none⟩) (vn + 1) cr)
  f8 : d 8 = true → x184 = (.pointer (some ⟨q, 0, none⟩))
  f9 : d 9 = true → True
  ol : ∀ i, i < 9 → d 9 = true → d i = true
  cA : d 7 = true → d 6 = true
  kp : d 9 = false → wr.grownBy W (Value.ownBlock (.slice va vn vc))
  r0 : d 7 = false → W.ownsRow B 49 4 (.slice va vn vc) vn xs
  b0 : d 6 = true → d 7 = false → W.heap[gb2]? = some (.cells #[.bool s0, .int .i64 s1, .int .i64 s2, .int .i64 s3] 49)
  r1 : d 7 = true → d 9 = false → W.ownsRow B 49 4 (.slice (some ⟨gr, 0, none⟩) (vn + 1) cr) (vn + 1) (xs ++ [.bool s0, .int .i64 s1, .int .i64 s2, .int .i64 s3])
  fin : d 9 = true → ∃ V, wr.grownBy V (Value.ownBlock (.slice va vn vc)) ∧ V.ownsRow B 49 4 (.slice (some ⟨gr, 0, none⟩) (vn + 1) cr) (vn + 1) (xs ++ [.bool s0, .int .i64 s1, .int .i64 s2, .int .i64 s3]) ∧ W = V.setCell ⟨q, 0, none⟩ (.slice (some ⟨gr, 0, none⟩) (vn + 1) cr)

theorem Tdb.tail_one {w : World} {b o n : Nat} {x : Td} {r : List Td} (h : Tdb w (.slice (some ⟨b, o, none⟩) n 1) (x :: r)) : Tdb w (.slice (some ⟨b, o, none⟩) 0 0) r := by
  obtain ⟨b', o', -, h1, h2, -⟩ := h.top
  have := h.tail.2 rfl
  rwa [show r.length = 0 by omega] at this
theorem Tdb.tail_ne {w : World} {b o n c : Nat} {x : Td} {r : List Td} (h : Tdb w (.slice (some ⟨b, o, none⟩) n c) (x :: r)) (hc : c ≠ 1) : Tdb w (.slice (some ⟨b, o + 4, none⟩) (n - 1) (c - 1)) r := by
  obtain ⟨b', o', -, h1, h2, -⟩ := h.top
  have := h.tail.1 hc
  rwa [show n - 1 = r.length by omega]
/-- What Climb answers of a right climber. -/
def clmR (t : Int) (ps : List Pd) (rows : List (List Int)) (l : List Td) (sn : Int) (col : Nat) : Cres :=
  if (clm ps (rwF rows col) t (col : Int) sn l.reverse [] false).1 = 0 then
    (if (clm ps (rwF rows col) t (col : Int) sn l.reverse [] false).2.2.2 = true then ⟨(clm ps (rwF rows col) t (col : Int) sn l.reverse [] false).2.1.reverse, sn + 1, 0, false, (clm ps (rwF rows col) t (col : Int) sn l.reverse [] false).2.2.1, 0⟩ else ⟨[], sn, 0, true, (clm ps (rwF rows col) t (col : Int) sn l.reverse [] false).2.2.1, 0⟩)
  else ⟨[], sn, (clm ps (rwF rows col) t (col : Int) sn l.reverse [] false).1, false, [], (clm ps (rwF rows col) t (col : Int) sn l.reverse [] false).1⟩
/-- The boxes of Climb: a grammar's, a climber's, the answer's. -/
structure Cx (w : World) (g : Nat) (t n : Int) (pv : Value) (tv : Value) (sn ov : Int) (dn : Bool) (W : World) : Prop where
  gk : W.heap[g]? = some (.cells #[.int .i64 t, .int .i64 n, pv] 24)
  ck : W.heap[g + 1]? = some (.cells #[tv, .int .i64 sn, .int .i64 ov, .bool dn] 43)
  rk : W.heap[g + 1 + 1]? = some (.cells #[.slice none 0 0, .int .i64 0, .int .i64 0, .bool false] 43)
  ge : w.heap.size ≤ g
  bel : Below w.heap.size w W
section
variable {w : World} {g : Nat} {t n : Int} {pv tv : Value} {sn ov : Int} {dn : Bool} {W W' : World}
theorem Cx.next (h : Cx w g t n pv tv sn ov dn W) (hb : Below W.heap.size W W') : Cx w g t n pv tv sn ov dn W' := ⟨tbox_next h.gk hb, tbox_next h.ck hb, tbox_next h.rk hb, h.ge, h.bel.trans (hb.mono h.bel.size)⟩
theorem Cx.fy {Z : Nat → Prop} (h : Cx w g t n pv tv sn ov dn W) (hf : Fy Z W W') (h1 : ¬ Z 24) (h2 : ¬ Z 43) (hb : Below w.heap.size w W') : Cx w g t n pv tv sn ov dn W' := ⟨hf.2 _ _ _ _ h.gk h1, hf.2 _ _ _ _ h.ck h2, hf.2 _ _ _ _ h.rk h2, h.ge, hb⟩
end
/-- The main loop: m is how many acts may still come. -/
def CMq (w : World) (g : Nat) (t : Int) (n : Nat) (pv tv : Value) (sn ov : Int) (dn : Bool) (ps : List Pd) (rows : List (List Int)) (col : Nat) (R : Clr) (xv yv zv : Value) (wr : World) (m : Nat) : Prop :=
  ∃ aa an ac oa on oc td ev had, xv = .slice aa an ac ∧ yv = .slice oa on oc ∧ zv = .bool had ∧ Cx w g t (n : Int) pv tv sn ov dn wr ∧ Tdb wr (.slice aa an ac) td ∧ Dn w (.slice oa on oc) ev wr ∧ m + ev.length = 2002 ∧ ev.length ≤ 2001 ∧ td.length ≤ 70 ∧ (∀ y ∈ td, okT t (n : Int) ps y = true) ∧ clm ps (rwF rows col) t (col : Int) sn td ev had = R
set_option maxHeartbeats 24000000 in
set_option maxRecDepth 20000 in
theorem Climb_any (t : Int) (n : Nat) (pv : Value) (ps : List Pd) (rv : Value) (rows : List (List Int)) (tv : Value) (l : List Td) (sn ov : Int) (dn : Bool) (col : Nat) (w : World) (ht : Tds w tv l) (ho : Ok w t n pv rv ps rows col) (htd : ∀ y ∈ l, okT t (n : Int) ps y = true) (hlen : l.length ≤ 60) (hsn : 0 ≤ sn ∧ sn ≤ 1099511627776) :
    Calls Try.prog 52 #[.agg #[.int .i64 t, .int .i64 (n : Int), pv], rv, .agg #[tv, .int .i64 sn, .int .i64 ov, .bool dn], .int .i64 (col : Int)] w fun e w' => ResP w (clmR t ps rows l sn col) e w' := by
  have hcx : Cx w w.heap.size t (n : Int) pv tv sn ov dn (((w.alloc (Obj.cells #[.int .i64 t, .int .i64 (n : Int), pv] 24)).alloc (Obj.cells #[tv, .int .i64 sn, .int .i64 ov, .bool dn] 43)).alloc (Obj.cells #[.slice none 0 0, .int .i64 0, .int .i64 0, .bool false] 43)) := by
    refine ⟨?_, ?_, ?_, Nat.le_refl _, (below_alloc2 _ _ _).trans ((below_alloc _ _).mono (below_alloc2 _ _ _).size)⟩
    · exact tbox_next (tbox_next (heap_alloc_new _ _) (below_alloc _ _)) (below_alloc _ _)
    · have := heap_alloc2_new w (Obj.cells #[.int .i64 t, .int .i64 (n : Int), pv] 24) (Obj.cells #[tv, .int .i64 sn, .int .i64 ov, .bool dn] 43)
      exact tbox_next this (below_alloc _ _)
    · have := heap_alloc_new ((w.alloc (Obj.cells #[.int .i64 t, .int .i64 (n : Int), pv] 24)).alloc (Obj.cells #[tv, .int .i64 sn, .int .i64 ov, .bool dn] 43)) (Obj.cells #[.slice none 0 0, .int .i64 0, .int .i64 0, .bool false] 43)
      simpa using this
  have HX : Hid _ := hcx
  have HO : Hid _ := ho
  have HTV : Hid (Tds w tv l) := ht
  have HOK : Hid ((∀ y ∈ l, okT t (n : Int) ps y = true) ∧ l.length ≤ 60 ∧ (0 ≤ sn ∧ sn ≤ 1099511627776)) := ⟨htd, hlen, hsn⟩
  obtain ⟨ao, c, rfl, hm, -⟩ := ht
  obtain ⟨po, pc, hpe, hpm, -⟩ := ho.pd
  subst hpe
  obtain ⟨ro, rc, hre, hrm, -⟩ := ho.rw
  subst hre
  obtain ⟨i1, hi1, hy0, hy1, hy2⟩ := info_parts info49
  obtain ⟨i2, hi2, hx0, hx1, hx2⟩ := info_parts info66
  have hmf : ∀ (fn : Fn) (first cap : Array Value) (w : World), (Instr.makeFunc fn first cap).run Try.prog w = .ok (.func fn first cap) w := fun _ _ _ _ => rfl
  obtain ⟨R, HR⟩ : ∃ R, Hid (clm ps (rwF rows col) t (col : Int) sn l.reverse [] false = R) := ⟨_, rfl⟩
  obtain ⟨X, HXX⟩ : ∃ X, Hid ((if R.1 = 0 then (if R.2.2.2 = true then (⟨R.2.1.reverse, sn + 1, 0, false, R.2.2.1, 0⟩ : Cres) else ⟨[], sn, 0, true, R.2.2.1, 0⟩) else ⟨[], sn, R.1, false, [], R.1⟩) = X) := ⟨_, rfl⟩
  have hXX : clmR t ps rows l sn col = X := by unfold clmR; rw [HR.out]; exact HXX.out
  rw [hXX]
  clear hcx ho htd hlen hsn hXX
  go_enter Try.func52, Try.ntmps52
  go_upto_region 1 with fail
  generalize ((w.alloc (Obj.cells #[.int .i64 t, .int .i64 (n : Int), .slice po ps.length pc] 24)).alloc (Obj.cells #[.slice ao l.length c, .int .i64 sn, .int .i64 ov, .bool dn] 43)).alloc (Obj.cells #[.slice none 0 0, .int .i64 0, .int .i64 0, .bool false] 43) = w1 at HX ⊢
  obtain ⟨g, HG⟩ : ∃ g, Hid (w.heap.size = g) := ⟨_, (rfl : w.heap.size = w.heap.size)⟩
  rw [HG.out] at HX ⊢
  have k0 := tcell_blk HX.out.ck 0
  simp only [List.getElem?_toArray, List.getElem?_cons_zero] at k0
  have hl60 : (l.length : Int) ≤ 60 := by have := HOK.out.2.1; omega
  go_upto_region 3 with fail
  clear k0
  go_loopw [11, 12] (fun x y wr => ∃ (j : Nat) (i : Int) (va : Option Addr) (vn vc : Nat), j ≤ l.length ∧ x = .slice va vn vc ∧ y = .int .i64 i ∧ Hid (i = (j : Int) - 1) ∧ Hid (Cx w g t (n : Int) (.slice po ps.length pc) (.slice ao l.length c) sn ov dn wr ∧ Dq w (.slice va vn vc) (l.drop j).reverse wr)) (fun _ y _ => (intOf y + 1).toNat)
  case atStart =>
    refine ⟨l.length, (l.length : Int) - 1, none, 0, 0, Nat.le_refl _, rfl, by first | rfl | (simp; done) | go_num, (rfl : _ = _), HX.out, ?_⟩
    rw [List.drop_length]; exact Dq.nil _ HX.out.bel
  case round =>
    obtain ⟨j', i, va, vn, vc, hj, rfl, rfl, HIJ, HI⟩ := hrel
    clear HX
    by_cases hj0 : j' = 0
    · subst hj0
      obtain rfl : i = -1 := by have := HIJ.out; omega
      clear HIJ
      have HX : Hid _ := HI.out.1
      have HD0 : Hid (Tdb wr (.slice va vn vc) l.reverse) := by
        have h1 := HI.out.2
        rw [List.drop_zero] at h1
        exact Tdb.own h1.own
      clear HI
      go_upto_region 9 with fail
      obtain ⟨w5, rfl⟩ : ∃ w5, w5 = wr := ⟨_, rfl⟩
      have HM0 : Hid (CMq w g t n (.slice po ps.length pc) (.slice ao l.length c) sn ov dn ps rows col R (.slice va vn vc) (.slice none 0 0) (.bool false) w5 2002) := ⟨va, vn, vc, none, 0, 0, l.reverse, [], false, rfl, rfl, rfl, HX.out, HD0.out, Dn.nil _ HX.out.bel, rfl, by simp, by rw [List.length_reverse]; have := HOK.out.2.1; omega, fun y hy => HOK.out.1 y (List.mem_reverse.1 hy), HR.out⟩
      clear HX HD0 HR
      go_loopw [11, 13, 15] (fun x y z wr => ∃ m, CMq w g t n (.slice po ps.length pc) (.slice ao l.length c) sn ov dn ps rows col R x y z wr m) (fun x y z wr => leastOf (CMq w g t n (.slice po ps.length pc) (.slice ao l.length c) sn ov dn ps rows col R x y z wr))
      case atStart => exact ⟨_, HM0.out⟩
      case round =>
        obtain ⟨aa, an, ac, oa, on, oc, td, ev, had, rfl, rfl, rfl, hx, hd, hn, hmm, hev, htd, hok, hcl⟩ := leastOf_holds hrel
        obtain ⟨mm, HMN⟩ : ∃ mm, Hid (leastOf (CMq w g t n (.slice po ps.length pc) (.slice ao l.length c) sn ov dn ps rows col R (.slice aa an ac) (.slice oa on oc) (.bool had) wr) = mm) := ⟨_, rfl⟩
        have HM : Hid (mm + ev.length = 2002) := by show _ = _; rw [← HMN.out]; exact hmm
        have HX : Hid _ := hx
        have HTB : Hid (Tdb wr (.slice aa an ac) td) := hd
        have HN0 : Hid _ := hn
        have HA : Hid (ev.length ≤ 2001 ∧ td.length ≤ 70 ∧ (∀ y ∈ td, okT t (n : Int) ps y = true)) := ⟨hev, htd, hok⟩
        have HCL : Hid (clm ps (rwF rows col) t (col : Int) sn td ev had = R) := hcl
        obtain ⟨_, _, e8⟩ := own_len hn.own
        simp only [Value.slice.injEq] at e8
        obtain ⟨-, hon, -⟩ := e8
        obtain ⟨_, _, e7, -, -⟩ := hd
        simp only [Value.slice.injEq] at e7
        obtain ⟨-, han, -⟩ := e7
        obtain ⟨el, HEQ⟩ : ∃ el, Hid (ev.length = el) := ⟨_, rfl⟩
        have hel : el = on := by rw [hon]; exact HEQ.out.symm
        subst hel
        have HN : Hid (Dn w (.slice oa el oc) ev wr) := HN0.out
        have HEL : Hid (el ≤ 2001) := by show _ ≤ _; have := HEQ.out; have := HA.out.1; omega
        have hel1 : (el : Int) ≤ 2001 := by have := HEL.out; omega
        have HAN : Hid (an = td.length) := han
        have HSZ : Hid (w.heap.size ≤ wr.heap.size) := HX.out.bel.size
        clear hrel HM0 hx hn hmm hev htd hok hcl HN0 hon han
        by_cases hbig : 2000 < ev.length ∨ 60 < td.length
        · have HR1 : Hid (R.1 = 14) := by show _ = _; rw [← HCL.out, clm_big hbig]
          have HRES : Hid (X = ⟨[], sn, 14, false, [], 14⟩) := by show _ = _; rw [← HXX.out, HR1.out, if_neg (by decide)]
          by_cases h1 : 2000 < ev.length
          · have hc1 : ¬ (el : Int) ≤ 2000 := by have := HEQ.out; omega
            clear hbig h1
            have HXW : Hid (Cx w g t (n : Int) (.slice po ps.length pc) (.slice ao l.length c) sn ov dn wr) := HX.out
            have hov := over_any 14 (g + 1) (.slice ao l.length c) sn ov dn wr HXW.out.ck
            have he79 := enters_of Try.func79 (by kernel_rfl) rfl
            go_wp2_with fail
            refine hov.mono ?_
            rintro _ wo ⟨rfl, hbo⟩
            have BN : wo.heap[g + 1 + 1]? = _ := tbox_next HXW.out.rk hbo
            have HBO : Hid (Below w.heap.size w wo) := HXW.out.bel.trans (hbo.mono HXW.out.bel.size)
            clear hov hbo he79
            have p0 := tcell_blk BN 0
            have p1 := tcell_blk BN 1
            have p2 := tcell_blk BN 2
            have p3 := tcell_blk BN 3
            have f0 := tfrozen_blk BN 0
            have f1 := tfrozen_blk BN 1
            have f2 := tfrozen_blk BN 2
            have f3 := tfrozen_blk BN 3
            simp only [List.getElem?_toArray, List.getElem?_cons_zero, List.getElem?_cons_succ] at p0 p1 p2 p3
            go_wp2_with fail
            rw [← set4_eq]
            have z := set4_blk BN (.slice none 0 0) (.int .i64 sn) (.int .i64 14) (.bool false)
            have z0 := tcell_blk z 0
            have z1 := tcell_blk z 1
            have z2 := tcell_blk z 2
            have z3 := tcell_blk z 3
            simp only [List.getElem?_toArray, List.getElem?_cons_zero, List.getElem?_cons_succ] at z0 z1 z2 z3
            have HFB : Hid (Below w.heap.size w (set4 wo (g + 1 + 1) (.slice none 0 0) (.int .i64 sn) (.int .i64 14) (.bool false))) := set4_bel HBO.out (by have := HXW.out.ge; omega)
            exact bodyPost_ret (v := .tuple #[.agg #[.slice none 0 0, .int .i64 sn, .int .i64 14, .bool false], .slice none 0 0, .int .i64 14]) (by simp [results, Try.results52, go_sem, z0, z1, z2, z3]) rfl ⟨_, _, _, _, _, _, by rw [HRES.out], by rw [HRES.out]; exact Dq.nil _ HFB.out, by rw [HRES.out]; exact Dn.nil _ HFB.out⟩
          · have hc1 : (el : Int) ≤ 2000 := by have := HEQ.out; omega
            have hc2 : ¬ (an : Int) ≤ 60 := by have := HAN.out; omega
            clear hbig h1
            have HXW : Hid (Cx w g t (n : Int) (.slice po ps.length pc) (.slice ao l.length c) sn ov dn wr) := HX.out
            have hov := over_any 14 (g + 1) (.slice ao l.length c) sn ov dn wr HXW.out.ck
            have he79 := enters_of Try.func79 (by kernel_rfl) rfl
            go_wp2_with fail
            refine hov.mono ?_
            rintro _ wo ⟨rfl, hbo⟩
            have BN : wo.heap[g + 1 + 1]? = _ := tbox_next HXW.out.rk hbo
            have HBO : Hid (Below w.heap.size w wo) := HXW.out.bel.trans (hbo.mono HXW.out.bel.size)
            clear hov hbo he79
            have p0 := tcell_blk BN 0
            have p1 := tcell_blk BN 1
            have p2 := tcell_blk BN 2
            have p3 := tcell_blk BN 3
            have f0 := tfrozen_blk BN 0
            have f1 := tfrozen_blk BN 1
            have f2 := tfrozen_blk BN 2
            have f3 := tfrozen_blk BN 3
            simp only [List.getElem?_toArray, List.getElem?_cons_zero, List.getElem?_cons_succ] at p0 p1 p2 p3
            go_wp2_with fail
            rw [← set4_eq]
            have z := set4_blk BN (.slice none 0 0) (.int .i64 sn) (.int .i64 14) (.bool false)
            have z0 := tcell_blk z 0
            have z1 := tcell_blk z 1
            have z2 := tcell_blk z 2
            have z3 := tcell_blk z 3
            simp only [List.getElem?_toArray, List.getElem?_cons_zero, List.getElem?_cons_succ] at z0 z1 z2 z3
            have HFB : Hid (Below w.heap.size w (set4 wo (g + 1 + 1) (.slice none 0 0) (.int .i64 sn) (.int .i64 14) (.bool false))) := set4_bel HBO.out (by have := HXW.out.ge; omega)
            exact bodyPost_ret (v := .tuple #[.agg #[.slice none 0 0, .int .i64 sn, .int .i64 14, .bool false], .slice none 0 0, .int .i64 14]) (by simp [results, Try.results52, go_sem, z0, z1, z2, z3]) rfl ⟨_, _, _, _, _, _, by rw [HRES.out], by rw [HRES.out]; exact Dq.nil _ HFB.out, by rw [HRES.out]; exact Dn.nil _ HFB.out⟩
        · have HNB : Hid (¬ (2000 < ev.length ∨ 60 < td.length)) := hbig
          have hc1 : (el : Int) ≤ 2000 := by have := HEQ.out; omega
          have hc2 : (an : Int) ≤ 60 := by have := HAN.out; omega
          have hbl : ev.length ≤ 2000 := by omega
          have htl : td.length ≤ 60 := by omega
          clear hbig
          match td, HTB, HA, HCL, HAN, HNB, htl with
          | [], HTB, HA, HCL, HAN, HNB, htl =>
            have HT : Hid (R = if had = true then (0, [], ev, true) else if (col : Int) = t then (0, [], ev, false) else (13, [], ev, false)) := by show _ = _; rw [← HCL.out, clm_nil hbl]
            have ha0 : (an : Int) = 0 := by have := HAN.out; simp at this; omega
            have ha1 : ((an : Int) == 0) = true := by simp [ha0]
            have ha2 : ¬ (0 : Int) < (an : Int) := by omega
            clear ha0
            clear HCL hbl htl
            cases had with
            | true =>
              have HRR : Hid (R = (0, [], ev, true)) := by show _ = _; rw [HT.out, if_pos rfl]
              obtain ⟨td0, HTD0⟩ : ∃ td0 : List Td, Hid (td0 = []) := ⟨_, rfl⟩
              rw [← HTD0.out] at HTB HRR
              have HTD60 : Hid (td0.length ≤ 60) := by show _ ≤ _; rw [HTD0.out]; simp
              have HTL0 : Hid (an = td0.length) := by show _ = _; rw [HTD0.out]; exact HAN.out
              clear HT
              have HRES : Hid (X = ⟨td0.reverse, sn + 1, 0, false, ev, 0⟩) := by show _ = _; rw [← HXX.out, HRR.out]; rfl
              have hsn1 : IntKind.i64.wrap (sn + 1) = sn + 1 := by have := HOK.out.2.2; simp [IntKind.wrap, IntKind.bits, IntKind.signed]; omega
              have hs1 : -9223372036854775808 ≤ sn + 1 := by have := HOK.out.2.2; omega
              have hs2 : sn + 1 ≤ 9223372036854775807 := by have := HOK.out.2.2; omega
              have k1 := tcell_blk HX.out.ck 1
              simp only [List.getElem?_toArray, List.getElem?_cons_zero, List.getElem?_cons_succ] at k1
              obtain ⟨tl, HTL⟩ : ∃ tl, Hid (td0.length = tl) := ⟨_, rfl⟩
              have HTL60 : Hid (tl ≤ 70) := by show _ ≤ _; have := HTL.out; have := HTD60.out; omega
              have htl60 : (tl : Int) ≤ 70 := by have := HTL60.out; omega
              have HTA : Hid (an = tl) := by show _ = _; have h1 := HTL0.out; have h2 := HTL.out; omega
              go_upto_region 38 with fail
              clear k1
              first | rw [hsn1] | skip
              obtain ⟨w6, rfl⟩ : ∃ w6, w6 = wr := ⟨_, rfl⟩
              have HQB : Hid ((w6.alloc (Obj.cells #[.slice none 0 0, .int .i64 (sn + 1), .int .i64 0, .bool false] 43)).heap[w6.heap.size]? = some (.cells #[.slice none 0 0, .int .i64 (sn + 1), .int .i64 0, .bool false] 43) ∧ Dq w6 (.slice none 0 0) [] (w6.alloc (Obj.cells #[.slice none 0 0, .int .i64 (sn + 1), .int .i64 0, .bool false] 43))) := ⟨heap_alloc_new _ _, Dq.nil _ (below_alloc _ _)⟩
              obtain ⟨q, HQQ⟩ : ∃ q, Hid (w6.heap.size = q) := ⟨_, (rfl : w6.heap.size = _)⟩
              generalize w6.alloc (Obj.cells #[.slice none 0 0, .int .i64 (sn + 1), .int .i64 0, .bool false] 43) = w7 at HQB ⊢
              rw [HQQ.out] at HQB ⊢
              go_loopw [21] (fun x wr => ∃ (j : Nat) (i : Int) (va : Option Addr) (vn vc : Nat), j ≤ tl ∧ x = .int .i64 i ∧ Hid (i = (j : Int) - 1) ∧ Hid (wr.heap[q]? = some (.cells #[.slice va vn vc, .int .i64 (sn + 1), .int .i64 0, .bool false] 43) ∧ Dq w6 (.slice va vn vc) (td0.drop j).reverse wr)) (fun x _ => (intOf x + 1).toNat)
              case atStart =>
                refine ⟨tl, (an : Int) - 1, none, 0, 0, Nat.le_refl _, by first | rfl | (simp; done) | go_num, by show _ = _; have := HTA.out; omega, HQB.out.1, ?_⟩
                rw [← HTL.out, List.drop_length]; exact HQB.out.2
              case round =>
                obtain ⟨j', i, va, vn, vc, hj, rfl, HIJ, HI⟩ := hrel
                clear HQB
                by_cases hj0 : j' = 0
                · subst hj0
                  obtain rfl : i = -1 := by have := HIJ.out; omega
                  clear HIJ
                  have HQN : Hid (wr.heap[q]? = some (.cells #[.slice va vn vc, .int .i64 (sn + 1), .int .i64 0, .bool false] 43)) := HI.out.1
                  have HDF : Hid (Dq w6 (.slice va vn vc) td0.reverse wr) := by have := HI.out.2; rw [List.drop_zero] at this; exact this
                  clear HI
                  have BN : wr.heap[g + 1 + 1]? = _ := tbox_next HX.out.rk HDF.out.bel
                  have p0 := tcell_blk BN 0
                  have p1 := tcell_blk BN 1
                  have p2 := tcell_blk BN 2
                  have p3 := tcell_blk BN 3
                  have f0 := tfrozen_blk BN 0
                  have f1 := tfrozen_blk BN 1
                  have f2 := tfrozen_blk BN 2
                  have f3 := tfrozen_blk BN 3
                  have q0 := tcell_blk HQN.out 0
                  have q1 := tcell_blk HQN.out 1
                  have q2 := tcell_blk HQN.out 2
                  have q3 := tcell_blk HQN.out 3
                  simp only [List.getElem?_toArray, List.getElem?_cons_zero, List.getElem?_cons_succ] at p0 p1 p2 p3 q0 q1 q2 q3
                  have hge : ¬ ((-1 : Int) ≥ 0) := by omega
                  go_wp2_with fail
                  rw [← set4_eq]
                  have z := set4_blk BN (.slice va vn vc) (.int .i64 (sn + 1)) (.int .i64 0) (.bool false)
                  have z0 := tcell_blk z 0
                  have z1 := tcell_blk z 1
                  have z2 := tcell_blk z 2
                  have z3 := tcell_blk z 3
                  simp only [List.getElem?_toArray, List.getElem?_cons_zero, List.getElem?_cons_succ] at z0 z1 z2 z3
                  have HFB : Hid (Below w.heap.size w (set4 wr (g + 1 + 1) (.slice va vn vc) (.int .i64 (sn + 1)) (.int .i64 0) (.bool false))) := set4_bel (HX.out.bel.trans (HDF.out.bel.mono HX.out.bel.size)) (by have := HX.out.ge; omega)
                  have hrl : g + 1 + 1 < w6.heap.size := heap_lt3 HX.out.rk
                  have HDQ : Hid (Dq w (.slice va vn vc) td0.reverse (set4 wr (g + 1 + 1) (.slice va vn vc) (.int .i64 (sn + 1)) (.int .i64 0) (.bool false))) :=
                    ⟨own_less (town_keep HDF.out.own fun b hb => set4_other (own_ne HDF.out.own hrl b hb)) HX.out.bel.size, HFB.out⟩
                  have HDE : Hid (Dn w (.slice oa el oc) ev (set4 wr (g + 1 + 1) (.slice va vn vc) (.int .i64 (sn + 1)) (.int .i64 0) (.bool false))) := by
                    have h1 := HN.out.next HDF.out.bel
                    refine ⟨town_keep h1.own fun b hb => set4_other fun e => ?_, HFB.out⟩
                    subst e
                    obtain ⟨cur, hc⟩ := own_blk h1.own hb
                    rw [BN] at hc
                    simp at hc
                  exact bodyPost_ret (v := .tuple #[.agg #[.slice va vn vc, .int .i64 (sn + 1), .int .i64 0, .bool false], .slice oa el oc, .int .i64 0]) (by simp [results, Try.results52, go_sem, z0, z1, z2, z3]) rfl ⟨_, _, _, _, _, _, by rw [HRES.out], by rw [HRES.out]; exact HDQ.out, by rw [HRES.out]; exact HDE.out⟩
                · obtain ⟨j, rfl⟩ : ∃ j, j' = j + 1 := ⟨j' - 1, by omega⟩
                  have hjl : j < td0.length := by have := HTL.out; omega
                  obtain rfl : i = (j : Int) := by have := HIJ.out; omega
                  clear HIJ
                  obtain ⟨a9, c9, e9, -, hcs⟩ := HTB.out.tds
                  simp only [Value.slice.injEq] at e9
                  obtain ⟨rfl, -, rfl⟩ := e9
                  obtain ⟨b2, o2, e10, hb2, hc2⟩ := hcs.resolve_left (by intro e; subst e; simp at hjl)
                  first
                    | subst e10
                    | (injection e10 with e10
                       injection e10 with e11 e12
                       have e13 := e11.symm
                       have e14 := e12.symm
                       clear e11 e12
                       subst e13
                       subst e14)
                  have HCW := hc2 j hjl
                  have HDR : Hid ((td0.drop j).reverse = (td0.drop (j + 1)).reverse ++ [td0[j]]) := by
                    show _ = _
                    rw [List.drop_eq_getElem_cons hjl, List.reverse_cons]
                  rcases hs : td0[j] with ⟨s0, s1, s2, s3⟩
                  rw [hs] at HDR HCW
                  simp only at HCW
                  obtain ⟨xl, HXL⟩ : ∃ xl, Hid ((td0.drop (j + 1)).reverse = xl) := ⟨_, rfl⟩
                  have HXLL : Hid (xl.length ≤ 70) := by
                    show _ ≤ _
                    rw [← HXL.out, List.length_reverse, List.length_drop]; have := HTD60.out; omega
                  rw [HXL.out] at HI HDR
                  have HJ : Hid ((j : Int) < (an : Int)) := by show (j : Int) < (an : Int); have := HTA.out; omega
                  obtain ⟨_, _, e8⟩ := own_len HI.out.2.own
                  simp only [Value.slice.injEq] at e8
                  obtain ⟨-, hvn, -⟩ := e8
                  subst hvn
                  have HQL : Hid (q < wr.heap.size) := heap_lt3 HI.out.1
                  have HLQ : Hid (q < wr.heap.size ∧ some q ≠ Value.ownBlock (.slice va xl.length vc)) := ⟨HQL.out, own_ne_blk HI.out.2.own HI.out.1 (by decide)⟩
                  have HLB : Hid (b2 < wr.heap.size ∧ some b2 ≠ Value.ownBlock (.slice va xl.length vc)) := ⟨Nat.lt_of_lt_of_le hb2 HI.out.2.bel.size, fun e => by have := own_ge HI.out.2.own b2 e.symm; omega⟩
                  have q5 := tcell_blk HI.out.1 0
                  simp only [List.getElem?_toArray, List.getElem?_cons_zero] at q5
                  have HC5 : Hid (wr.cell? ⟨q, 0, none⟩ = some (.slice va xl.length vc)) := q5
                  have HBQ : Hid _ := HI.out.1
                  have HOWN : Hid _ := HI.out.2.own
                  have HCS : Hid (wr.cell? ⟨b2, o2 + j * 4, none⟩ = some (.bool s0) ∧ wr.cell? ⟨b2, o2 + j * 4 + 1, none⟩ = some (.int .i64 s1) ∧ wr.cell? ⟨b2, o2 + j * 4 + 2, none⟩ = some (.int .i64 s2) ∧ wr.cell? ⟨b2, o2 + j * 4 + 3, none⟩ = some (.int .i64 s3)) := ⟨(HI.out.2.bel.cell (p := ⟨b2, o2 + j * 4, none⟩) hb2).trans HCW.1, (HI.out.2.bel.cell (p := ⟨b2, o2 + j * 4 + 1, none⟩) hb2).trans HCW.2.1, (HI.out.2.bel.cell (p := ⟨b2, o2 + j * 4 + 2, none⟩) hb2).trans HCW.2.2.1, (HI.out.2.bel.cell (p := ⟨b2, o2 + j * 4 + 3, none⟩) hb2).trans HCW.2.2.2⟩
                  obtain ⟨vn, HVN⟩ : ∃ vn, Hid (xl.length = vn) := ⟨_, (rfl : xl.length = _)⟩
                  obtain ⟨xs, HXS⟩ : ∃ xs, Hid (tcd xl = xs) := ⟨_, (rfl : tcd xl = _)⟩
                  obtain ⟨B, HBE⟩ : ∃ B, Hid (w6.heap.size = B) := ⟨_, (rfl : w6.heap.size = _)⟩
                  have HK1 : Hid (vn + 1 ≤ 100000) := by show _ ≤ _; have := HXLL.out; have := HVN.out; omega
                  have HBW : Hid (B ≤ wr.heap.size) := by show _ ≤ _; rw [← HBE.out]; exact HI.out.2.bel.size
                  have HIO : Hid _ := HI.out
                  rw [HVN.out] at HLQ HLB HC5 HBQ HOWN HIO
                  rw [HXS.out, HBE.out] at HOWN
                  have hge2 : (0 : Int) ≤ (j : Int) := by omega
                  clear q5 HI HCW hc2 hcs hs
                  go_upto_region 40 with fail
                  refine wp_region_free mixed (fun a0 d a W => ∃ (gb2 : Nat) (gr : Nat) (cr : Nat) (x176 x177 x178 x179 x180 x181 x182 x183 x184 : Value), a = (((((((((a0.put (some 176) x176).put (some 177) x177).put (some 178) x178).put (some 179) x179).put (some 180) x180).put (some 181) x181).put (some 182) x182).put (some 183) x183).put (some 184) x184) ∧ Hid (REd wr B q vn vc b2 o2 an ac j va s0 s1 s2 s3 xs gb2 gr cr d x176 x177 x178 x179 x180 x181 x182 x183 x184 W)) (by kernel_rfl) ⟨0, 0, 0, u176, u177, u178, u179, u180, u181, u182, u183, u184, by first | (simp only [Act.put, List.setIfInBounds_toArray, List.set_cons_zero, List.set_cons_succ]; done) | (simp only [Act.put, List.setIfInBounds_toArray, List.set_cons_zero, List.set_cons_succ]; rfl), ?_⟩ ?_ ?_
                  · exact ⟨fun h => no_way h, fun h => no_way h, fun h => no_way h, fun h => no_way h, fun h => no_way h, fun h => no_way h, fun h => no_way h, fun h => no_way h, fun h => no_way h, fun _ => trivial, fun _ _ h => no_way h, fun h => no_way h, fun _ => tgb_drew (World.grownBy.refl _ _), fun _ => HOWN.out, fun h => no_way h, fun h => no_way h, fun h => no_way h⟩
                  · simp only [StepAll, and_true]
                    refine ⟨?_, ?_, ?_, ?_, ?_, ?_, ?_, ?_, ?_, ?_⟩
                    · intro d a W hI hd hdep
                      obtain ⟨gb2, gr, cr, x176, x177, x178, x179, x180, x181, x182, x183, x184, rfl, hF⟩ := hI
                      clear hdep hd
                      intro K hK
                      simp only [Act.put, List.setIfInBounds_toArray, List.set_cons_zero, List.set_cons_succ]
                      go_simp
                      refine hK.out _ _ ⟨gb2, gr, cr, (.pointer (some ⟨q, 0, none⟩)), x177, x178, x179, x180, x181, x182, x183, x184, by first | (simp only [Act.put, List.setIfInBounds_toArray, List.set_cons_zero, List.set_cons_succ]; done) | (simp only [Act.put, List.setIfInBounds_toArray, List.set_cons_zero, List.set_cons_succ]; rfl), ?_⟩
                      exact ⟨fun _ => rfl, fun h => hF.out.f1 (by simpa using h), fun h => hF.out.f2 (by simpa using h), fun h => hF.out.f3 (by simpa using h), fun h => hF.out.f4 (by simpa using h), fun h => hF.out.f5 (by simpa using h), fun h => hF.out.f6 (by simpa using h), fun h => hF.out.f7 (by simpa using h), fun h => hF.out.f8 (by simpa using h), fun h => hF.out.f9 (by simpa using h), fun i hi h => by have := hF.out.ol i hi (by simpa using h); simp [this], fun h => by have := hF.out.cA (by simpa using h); simpa using this, fun h => hF.out.kp (by simpa using h), fun h => hF.out.r0 (by simpa using h), fun h h2 => hF.out.b0 (by simpa using h) (by simpa using h2), fun h h2 => hF.out.r1 (by simpa using h) (by simpa using h2), fun h => hF.out.fin (by simpa using h)⟩
                    · intro d a W hI hd hdep
                      obtain ⟨gb2, gr, cr, x176, x177, x178, x179, x180, x181, x182, x183, x184, rfl, hF⟩ := hI
                      have hd0 : d 0 = true := dep_of hdep 0 (by kernel_rfl)
                      obtain rfl := hF.out.f0 hd0
                      have HNL : Hid (d 9 = false) := no_later (hF.out.ol 1 (by omega)) hd
                      have ya : W.cell? ⟨q, 0, none⟩ = some (.slice va vn vc) := (tgb_old (hF.out.kp HNL.out) (p := ⟨q, 0, none⟩) HLQ.out.1 HLQ.out.2).trans HC5.out
                      clear hdep hd hd0
                      intro K hK
                      simp only [Act.put, List.setIfInBounds_toArray, List.set_cons_zero, List.set_cons_succ]
                      go_simp
                      refine hK.out _ _ ⟨gb2, gr, cr, (.pointer (some ⟨q, 0, none⟩)), (.slice va vn vc), x178, x179, x180, x181, x182, x183, x184, by first | (simp only [Act.put, List.setIfInBounds_toArray, List.set_cons_zero, List.set_cons_succ]; done) | (simp only [Act.put, List.setIfInBounds_toArray, List.set_cons_zero, List.set_cons_succ]; rfl), ?_⟩
                      exact ⟨fun h => hF.out.f0 (by simpa using h), fun _ => rfl, fun h => hF.out.f2 (by simpa using h), fun h => hF.out.f3 (by simpa using h), fun h => hF.out.f4 (by simpa using h), fun h => hF.out.f5 (by simpa using h), fun h => hF.out.f6 (by simpa using h), fun h => hF.out.f7 (by simpa using h), fun h => hF.out.f8 (by simpa using h), fun h => hF.out.f9 (by simpa using h), fun i hi h => by have := hF.out.ol i hi (by simpa using h); simp [this], fun h => by have := hF.out.cA (by simpa using h); simpa using this, fun h => hF.out.kp (by simpa using h), fun h => hF.out.r0 (by simpa using h), fun h h2 => hF.out.b0 (by simpa using h) (by simpa using h2), fun h h2 => hF.out.r1 (by simpa using h) (by simpa using h2), fun h => hF.out.fin (by simpa using h)⟩
                    · intro d a W hI hd hdep
                      obtain ⟨gb2, gr, cr, x176, x177, x178, x179, x180, x181, x182, x183, x184, rfl, hF⟩ := hI
                      clear hdep hd
                      intro K hK
                      simp only [Act.put, List.setIfInBounds_toArray, List.set_cons_zero, List.set_cons_succ]
                      go_simp
                      refine hK.out _ _ ⟨gb2, gr, cr, x176, x177, (.slice (some ⟨b2, o2, none⟩) an ac), x179, x180, x181, x182, x183, x184, by first | (simp only [Act.put, List.setIfInBounds_toArray, List.set_cons_zero, List.set_cons_succ]; done) | (simp only [Act.put, List.setIfInBounds_toArray, List.set_cons_zero, List.set_cons_succ]; rfl), ?_⟩
                      exact ⟨fun h => hF.out.f0 (by simpa using h), fun h => hF.out.f1 (by simpa using h), fun _ => rfl, fun h => hF.out.f3 (by simpa using h), fun h => hF.out.f4 (by simpa using h), fun h => hF.out.f5 (by simpa using h), fun h => hF.out.f6 (by simpa using h), fun h => hF.out.f7 (by simpa using h), fun h => hF.out.f8 (by simpa using h), fun h => hF.out.f9 (by simpa using h), fun i hi h => by have := hF.out.ol i hi (by simpa using h); simp [this], fun h => by have := hF.out.cA (by simpa using h); simpa using this, fun h => hF.out.kp (by simpa using h), fun h => hF.out.r0 (by simpa using h), fun h h2 => hF.out.b0 (by simpa using h) (by simpa using h2), fun h h2 => hF.out.r1 (by simpa using h) (by simpa using h2), fun h => hF.out.fin (by simpa using h)⟩
                    · intro d a W hI hd hdep
                      obtain ⟨gb2, gr, cr, x176, x177, x178, x179, x180, x181, x182, x183, x184, rfl, hF⟩ := hI
                      clear hdep hd
                      intro K hK
                      simp only [Act.put, List.setIfInBounds_toArray, List.set_cons_zero, List.set_cons_succ]
                      go_simp
                      refine hK.out _ _ ⟨gb2, gr, cr, x176, x177, x178, (.int .i64 (j : Int)), x180, x181, x182, x183, x184, by first | (simp only [Act.put, List.setIfInBounds_toArray, List.set_cons_zero, List.set_cons_succ]; done) | (simp only [Act.put, List.setIfInBounds_toArray, List.set_cons_zero, List.set_cons_succ]; rfl), ?_⟩
                      exact ⟨fun h => hF.out.f0 (by simpa using h), fun h => hF.out.f1 (by simpa using h), fun h => hF.out.f2 (by simpa using h), fun _ => rfl, fun h => hF.out.f4 (by simpa using h), fun h => hF.out.f5 (by simpa using h), fun h => hF.out.f6 (by simpa using h), fun h => hF.out.f7 (by simpa using h), fun h => hF.out.f8 (by simpa using h), fun h => hF.out.f9 (by simpa using h), fun i hi h => by have := hF.out.ol i hi (by simpa using h); simp [this], fun h => by have := hF.out.cA (by simpa using h); simpa using this, fun h => hF.out.kp (by simpa using h), fun h => hF.out.r0 (by simpa using h), fun h h2 => hF.out.b0 (by simpa using h) (by simpa using h2), fun h h2 => hF.out.r1 (by simpa using h) (by simpa using h2), fun h => hF.out.fin (by simpa using h)⟩
                    · intro d a W hI hd hdep
                      obtain ⟨gb2, gr, cr, x176, x177, x178, x179, x180, x181, x182, x183, x184, rfl, hF⟩ := hI
                      have hd2 : d 2 = true := dep_of hdep 2 (by kernel_rfl)
                      have hd3 : d 3 = true := dep_of hdep 3 (by kernel_rfl)
                      obtain rfl := hF.out.f2 hd2
                      obtain rfl := hF.out.f3 hd3
                      have hk0 : (0 : Int) ≤ (j : Int) := by omega
                      have hk1 : (j : Int) < (an : Int) := HJ.out
                      clear hdep hd hd2 hd3
                      intro K hK
                      simp only [Act.put, List.setIfInBounds_toArray, List.set_cons_zero, List.set_cons_succ]
                      go_simp
                      refine hK.out _ _ ⟨gb2, gr, cr, x176, x177, (.slice (some ⟨b2, o2, none⟩) an ac), (.int .i64 (j : Int)), (.pointer (some ⟨b2, o2 + j * 4, none⟩)), x181, x182, x183, x184, by first | (simp only [Act.put, List.setIfInBounds_toArray, List.set_cons_zero, List.set_cons_succ]; done) | (simp only [Act.put, List.setIfInBounds_toArray, List.set_cons_zero, List.set_cons_succ]; rfl), ?_⟩
                      exact ⟨fun h => hF.out.f0 (by simpa using h), fun h => hF.out.f1 (by simpa using h), fun h => hF.out.f2 (by simpa using h), fun h => hF.out.f3 (by simpa using h), fun _ => rfl, fun h => hF.out.f5 (by simpa using h), fun h => hF.out.f6 (by simpa using h), fun h => hF.out.f7 (by simpa using h), fun h => hF.out.f8 (by simpa using h), fun h => hF.out.f9 (by simpa using h), fun i hi h => by have := hF.out.ol i hi (by simpa using h); simp [this], fun h => by have := hF.out.cA (by simpa using h); simpa using this, fun h => hF.out.kp (by simpa using h), fun h => hF.out.r0 (by simpa using h), fun h h2 => hF.out.b0 (by simpa using h) (by simpa using h2), fun h h2 => hF.out.r1 (by simpa using h) (by simpa using h2), fun h => hF.out.fin (by simpa using h)⟩
                    · intro d a W hI hd hdep
                      obtain ⟨gb2, gr, cr, x176, x177, x178, x179, x180, x181, x182, x183, x184, rfl, hF⟩ := hI
                      have hd4 : d 4 = true := dep_of hdep 4 (by kernel_rfl)
                      obtain rfl := hF.out.f4 hd4
                      have HNL : Hid (d 9 = false) := no_later (hF.out.ol 5 (by omega)) hd
                      have ya : W.cell? ⟨b2, o2 + j * 4, none⟩ = some (.bool s0) := (tgb_old (hF.out.kp HNL.out) (p := ⟨b2, o2 + j * 4, none⟩) HLB.out.1 HLB.out.2).trans HCS.out.1
                      have yb : W.cell? ⟨b2, o2 + j * 4 + 1, none⟩ = some (.int .i64 s1) := (tgb_old (hF.out.kp HNL.out) (p := ⟨b2, o2 + j * 4 + 1, none⟩) HLB.out.1 HLB.out.2).trans HCS.out.2.1
                      have yc : W.cell? ⟨b2, o2 + j * 4 + 2, none⟩ = some (.int .i64 s2) := (tgb_old (hF.out.kp HNL.out) (p := ⟨b2, o2 + j * 4 + 2, none⟩) HLB.out.1 HLB.out.2).trans HCS.out.2.2.1
                      have yd : W.cell? ⟨b2, o2 + j * 4 + 3, none⟩ = some (.int .i64 s3) := (tgb_old (hF.out.kp HNL.out) (p := ⟨b2, o2 + j * 4 + 3, none⟩) HLB.out.1 HLB.out.2).trans HCS.out.2.2.2
                      clear hdep hd hd4
                      intro K hK
                      simp only [Act.put, List.setIfInBounds_toArray, List.set_cons_zero, List.set_cons_succ]
                      go_simp
                      refine hK.out _ _ ⟨gb2, gr, cr, x176, x177, x178, x179, (.pointer (some ⟨b2, o2 + j * 4, none⟩)), (.agg #[.bool s0, .int .i64 s1, .int .i64 s2, .int .i64 s3]), x182, x183, x184, by first | (simp only [Act.put, List.setIfInBounds_toArray, List.set_cons_zero, List.set_cons_succ]; done) | (simp only [Act.put, List.setIfInBounds_toArray, List.set_cons_zero, List.set_cons_succ]; rfl), ?_⟩
                      exact ⟨fun h => hF.out.f0 (by simpa using h), fun h => hF.out.f1 (by simpa using h), fun h => hF.out.f2 (by simpa using h), fun h => hF.out.f3 (by simpa using h), fun h => hF.out.f4 (by simpa using h), fun _ => rfl, fun h => hF.out.f6 (by simpa using h), fun h => hF.out.f7 (by simpa using h), fun h => hF.out.f8 (by simpa using h), fun h => hF.out.f9 (by simpa using h), fun i hi h => by have := hF.out.ol i hi (by simpa using h); simp [this], fun h => by have := hF.out.cA (by simpa using h); simpa using this, fun h => hF.out.kp (by simpa using h), fun h => hF.out.r0 (by simpa using h), fun h h2 => hF.out.b0 (by simpa using h) (by simpa using h2), fun h h2 => hF.out.r1 (by simpa using h) (by simpa using h2), fun h => hF.out.fin (by simpa using h)⟩
                    · intro d a W hI hd hdep
                      obtain ⟨gb2, gr, cr, x176, x177, x178, x179, x180, x181, x182, x183, x184, rfl, hF⟩ := hI
                      have hd5 : d 5 = true := dep_of hdep 5 (by kernel_rfl)
                      obtain rfl := hF.out.f5 hd5
                      have HNL : Hid (d 9 = false) := no_later (hF.out.ol 6 (by omega)) hd
                      have HN8 : Hid (d 7 = false) := no_later hF.out.cA hd
                      clear hdep hd hd5
                      intro K hK
                      simp only [Act.put, List.setIfInBounds_toArray, List.set_cons_zero, List.set_cons_succ]
                      go_simp
                      refine hK.out _ _ ⟨W.heap.size, gr, cr, x176, x177, x178, x179, x180, (.agg #[.bool s0, .int .i64 s1, .int .i64 s2, .int .i64 s3]), (.slice (some ⟨W.heap.size, 0, none⟩) 1 1), x183, x184, by first | (simp only [Act.put, List.setIfInBounds_toArray, List.set_cons_zero, List.set_cons_succ]; done) | (simp only [Act.put, List.setIfInBounds_toArray, List.set_cons_zero, List.set_cons_succ]; rfl), ?_⟩
                      exact ⟨fun h => hF.out.f0 (by simpa using h), fun h => hF.out.f1 (by simpa using h), fun h => hF.out.f2 (by simpa using h), fun h => hF.out.f3 (by simpa using h), fun h => hF.out.f4 (by simpa using h), fun h => hF.out.f5 (by simpa using h), fun _ => rfl, fun h => by have := HN8.out; simp [this] at h, fun h => hF.out.f8 (by simpa using h), fun h => hF.out.f9 (by simpa using h), fun i hi h => by have := hF.out.ol i hi (by simpa using h); simp [this], fun _ => by simp, fun _ => tgb_alloc (hF.out.kp HNL.out) _, fun _ => (hF.out.r0 HN8.out).alloc _, fun _ _ => heap_alloc_new _ _, fun h => by have := HN8.out; simp [this] at h, fun h => by have := HNL.out; simp [this] at h⟩
                    · intro d a W hI hd hdep
                      obtain ⟨gb2, gr, cr, x176, x177, x178, x179, x180, x181, x182, x183, x184, rfl, hF⟩ := hI
                      have hd1 : d 1 = true := dep_of hdep 1 (by kernel_rfl)
                      have hd6 : d 6 = true := dep_of hdep 6 (by kernel_rfl)
                      obtain rfl := hF.out.f1 hd1
                      obtain rfl := hF.out.f6 hd6
                      have HNL : Hid (d 9 = false) := no_later (hF.out.ol 7 (by omega)) hd
                      have HD7 : Hid (d 6 = true) := hd6
                      have hm := run_append_lies (P := Try.prog) W 41 41 B 49 i1 _ 4 32 Try.underlying41 hi1 hy0 hy1 hy2 rfl (by omega) (.slice va vn vc) vn xs (hF.out.r0 hd) ⟨gb2, 0, none⟩ 1 1 [.bool s0, .int .i64 s1, .int .i64 s2, .int .i64 s3] rfl (World.news_of_block (t := 49) (fr := (0, 0)) (hF.out.b0 hd6 hd)) (by simp [Value.oneCell']) (by omega) (by unfold maxLen; have := HK1.out; omega) (by have := HK1.out; omega) (Nat.le_trans HBW.out (hF.out.kp HNL.out).size) W.heap.size rfl
                      have hmm := hm.choose_spec.choose_spec.choose_spec
                      generalize hm.choose_spec.choose_spec.choose = W1 at hmm
                      generalize hm.choose_spec.choose = cr1 at hmm
                      generalize hm.choose = gr1 at hmm
                      have hrun := hmm.1
                      have HM : Hid (W1.ownsRow B 49 4 (.slice (some ⟨gr1, 0, none⟩) (vn + 1) cr1) (vn + 1) (xs ++ [.bool s0, .int .i64 s1, .int .i64 s2, .int .i64 s3]) ∧ W.grownBy W1 (Value.ownBlock (.slice va vn vc))) := ⟨hmm.2.1, hmm.2.2.1⟩
                      clear hmm hm
                      clear hdep hd hd1 hd6
                      intro K hK
                      refine tstep_call_append (sv := (.slice va vn vc)) (xv := (.slice (some ⟨gb2, 0, none⟩) 1 1)) (v := (.slice (some ⟨gr1, 0, none⟩) (vn + 1) cr1)) (W1 := W1) (by rfl) _ _ 41 (by rfl) (by first | (simp only [Act.put, List.setIfInBounds_toArray, List.set_cons_zero, List.set_cons_succ]; done) | (simp only [Act.put, List.setIfInBounds_toArray, List.set_cons_zero, List.set_cons_succ]; rfl)) (by first | (simp only [Act.put, List.setIfInBounds_toArray, List.set_cons_zero, List.set_cons_succ]; done) | (simp only [Act.put, List.setIfInBounds_toArray, List.set_cons_zero, List.set_cons_succ]; rfl)) (by exact hrun) ?_
                      simp only [Act.put, List.setIfInBounds_toArray, List.set_cons_zero, List.set_cons_succ]
                      refine hK.out _ _ ⟨gb2, gr1, cr1, x176, (.slice va vn vc), x178, x179, x180, x181, (.slice (some ⟨gb2, 0, none⟩) 1 1), (.slice (some ⟨gr1, 0, none⟩) (vn + 1) cr1), x184, by first | (simp only [Act.put, List.setIfInBounds_toArray, List.set_cons_zero, List.set_cons_succ]; done) | (simp only [Act.put, List.setIfInBounds_toArray, List.set_cons_zero, List.set_cons_succ]; rfl), ?_⟩
                      exact ⟨fun h => hF.out.f0 (by simpa using h), fun h => hF.out.f1 (by simpa using h), fun h => hF.out.f2 (by simpa using h), fun h => hF.out.f3 (by simpa using h), fun h => hF.out.f4 (by simpa using h), fun h => hF.out.f5 (by simpa using h), fun h => hF.out.f6 (by simpa using h), fun _ => rfl, fun h => hF.out.f8 (by simpa using h), fun h => hF.out.f9 (by simpa using h), fun i hi h => by have := hF.out.ol i hi (by simpa using h); simp [this], fun _ => by simpa using HD7.out, fun _ => tgb_then (hF.out.kp HNL.out) HM.out.2, fun h => by simp at h, fun _ h => by simp at h, fun _ _ => HM.out.1, fun h => by have := HNL.out; simp [this] at h⟩
                    · intro d a W hI hd hdep
                      obtain ⟨gb2, gr, cr, x176, x177, x178, x179, x180, x181, x182, x183, x184, rfl, hF⟩ := hI
                      have hd0 : d 0 = true := dep_of hdep 0 (by kernel_rfl)
                      obtain rfl := hF.out.f0 hd0
                      clear hdep hd hd0
                      intro K hK
                      simp only [Act.put, List.setIfInBounds_toArray, List.set_cons_zero, List.set_cons_succ]
                      go_simp
                      refine hK.out _ _ ⟨gb2, gr, cr, (.pointer (some ⟨q, 0, none⟩)), x177, x178, x179, x180, x181, x182, x183, (.pointer (some ⟨q, 0, none⟩)), by first | (simp only [Act.put, List.setIfInBounds_toArray, List.set_cons_zero, List.set_cons_succ]; done) | (simp only [Act.put, List.setIfInBounds_toArray, List.set_cons_zero, List.set_cons_succ]; rfl), ?_⟩
                      exact ⟨fun h => hF.out.f0 (by simpa using h), fun h => hF.out.f1 (by simpa using h), fun h => hF.out.f2 (by simpa using h), fun h => hF.out.f3 (by simpa using h), fun h => hF.out.f4 (by simpa using h), fun h => hF.out.f5 (by simpa using h), fun h => hF.out.f6 (by simpa using h), fun h => hF.out.f7 (by simpa using h), fun _ => rfl, fun h => hF.out.f9 (by simpa using h), fun i hi h => by have := hF.out.ol i hi (by simpa using h); simp [this], fun h => by have := hF.out.cA (by simpa using h); simpa using this, fun h => hF.out.kp (by simpa using h), fun h => hF.out.r0 (by simpa using h), fun h h2 => hF.out.b0 (by simpa using h) (by simpa using h2), fun h h2 => hF.out.r1 (by simpa using h) (by simpa using h2), fun h => hF.out.fin (by simpa using h)⟩
                    · intro d a W hI hd hdep
                      obtain ⟨gb2, gr, cr, x176, x177, x178, x179, x180, x181, x182, x183, x184, rfl, hF⟩ := hI
                      have hd0 : d 0 = true := dep_of hdep 0 (by kernel_rfl)
                      have hd1 : d 1 = true := dep_of hdep 1 (by kernel_rfl)
                      have hd2 : d 2 = true := dep_of hdep 2 (by kernel_rfl)
                      have hd3 : d 3 = true := dep_of hdep 3 (by kernel_rfl)
                      have hd4 : d 4 = true := dep_of hdep 4 (by kernel_rfl)
                      have hd5 : d 5 = true := dep_of hdep 5 (by kernel_rfl)
                      have hd6 : d 6 = true := dep_of hdep 6 (by kernel_rfl)
                      have hd7 : d 7 = true := dep_of hdep 7 (by kernel_rfl)
                      have hd8 : d 8 = true := dep_of hdep 8 (by kernel_rfl)
                      obtain rfl := hF.out.f0 hd0
                      obtain rfl := hF.out.f1 hd1
                      obtain rfl := hF.out.f2 hd2
                      obtain rfl := hF.out.f3 hd3
                      obtain rfl := hF.out.f4 hd4
                      obtain rfl := hF.out.f5 hd5
                      obtain rfl := hF.out.f6 hd6
                      obtain rfl := hF.out.f7 hd7
                      obtain rfl := hF.out.f8 hd8
                      have HD : Hid (∀ i, i < 9 → d i = true) := fun i hi => by
                        have : i = 0 ∨ i = 1 ∨ i = 2 ∨ i = 3 ∨ i = 4 ∨ i = 5 ∨ i = 6 ∨ i = 7 ∨ i = 8 := by omega
                        rcases this with rfl | rfl | rfl | rfl | rfl | rfl | rfl | rfl | rfl <;> assumption
                      have HKP : Hid (wr.grownBy W (Value.ownBlock (.slice va vn vc))) := hF.out.kp hd
                      have HR1 : Hid (W.ownsRow B 49 4 (.slice (some ⟨gr, 0, none⟩) (vn + 1) cr) (vn + 1) (xs ++ [.bool s0, .int .i64 s1, .int .i64 s2, .int .i64 s3])) := hF.out.r1 hd7 hd
                      have hblk := (HKP.out.block q HLQ.out.1 HLQ.out.2).trans HBQ.out
                      have ya := tcell_blk hblk 0
                      have yb := tfrozen_blk hblk 0
                      clear hblk
                      simp only [List.getElem?_toArray, List.getElem?_cons_zero] at ya
                      clear hdep hd hd0 hd1 hd2 hd3 hd4 hd5 hd6 hd7 hd8
                      intro K hK
                      simp only [Act.put, List.setIfInBounds_toArray, List.set_cons_zero, List.set_cons_succ]
                      go_simp
                      refine hK.out _ _ ⟨gb2, gr, cr, (.pointer (some ⟨q, 0, none⟩)), (.slice va vn vc), (.slice (some ⟨b2, o2, none⟩) an ac), (.int .i64 (j : Int)), (.pointer (some ⟨b2, o2 + j * 4, none⟩)), (.agg #[.bool s0, .int .i64 s1, .int .i64 s2, .int .i64 s3]), (.slice (some ⟨gb2, 0, none⟩) 1 1), (.slice (some ⟨gr, 0, none⟩) (vn + 1) cr), (.pointer (some ⟨q, 0, none⟩)), by first | (simp only [Act.put, List.setIfInBounds_toArray, List.set_cons_zero, List.set_cons_succ]; done) | (simp only [Act.put, List.setIfInBounds_toArray, List.set_cons_zero, List.set_cons_succ]; rfl), ?_⟩
                      exact ⟨fun h => hF.out.f0 (by simpa using h), fun h => hF.out.f1 (by simpa using h), fun h => hF.out.f2 (by simpa using h), fun h => hF.out.f3 (by simpa using h), fun h => hF.out.f4 (by simpa using h), fun h => hF.out.f5 (by simpa using h), fun h => hF.out.f6 (by simpa using h), fun h => hF.out.f7 (by simpa using h), fun h => hF.out.f8 (by simpa using h), fun _ => trivial, fun i hi _ => by have := HD.out i hi; simp [this], fun h => by have := hF.out.cA (by simpa using h); simpa using this, fun h => by simp at h, fun h => by have := HD.out 7 (by omega); simp [this] at h, fun _ h => by have := HD.out 7 (by omega); simp [this] at h, fun _ h => by simp at h, fun _ => ⟨W, HKP.out, HR1.out, rfl⟩⟩
                  · intro d a W hI hall
                    obtain ⟨gb2, gr, cr, x176, x177, x178, x179, x180, x181, x182, x183, x184, rfl, hF⟩ := hI
                    simp only [List.length_cons, List.length_nil] at hall
                    obtain rfl := hF.out.f0 (hall 0 (by omega))
                    obtain rfl := hF.out.f1 (hall 1 (by omega))
                    obtain rfl := hF.out.f2 (hall 2 (by omega))
                    obtain rfl := hF.out.f3 (hall 3 (by omega))
                    obtain rfl := hF.out.f4 (hall 4 (by omega))
                    obtain rfl := hF.out.f5 (hall 5 (by omega))
                    obtain rfl := hF.out.f6 (hall 6 (by omega))
                    obtain rfl := hF.out.f7 (hall 7 (by omega))
                    obtain rfl := hF.out.f8 (hall 8 (by omega))
                    obtain ⟨V, v1, v2, rfl⟩ := hF.out.fin (hall 9 (by omega))
                    have HFN : Hid ((V.setCell ⟨q, 0, none⟩ (.slice (some ⟨gr, 0, none⟩) (vn + 1) cr)).heap[q]? = some (.cells #[.slice (some ⟨gr, 0, none⟩) (vn + 1) cr, .int .i64 (sn + 1), .int .i64 0, .bool false] 43) ∧ Dq w6 (.slice (some ⟨gr, 0, none⟩) (vn + 1) cr) (td0.drop j).reverse (V.setCell ⟨q, 0, none⟩ (.slice (some ⟨gr, 0, none⟩) (vn + 1) cr))) := by
                      have hgb := (v1.block q HLQ.out.1 HLQ.out.2).trans HBQ.out
                      refine ⟨by simpa using tblock_store (i := 0) hgb (.slice (some ⟨gr, 0, none⟩) (vn + 1) cr), ?_, ?_⟩
                      · rw [HDR.out, List.length_append, tcd_append, HXS.out, HVN.out, HBE.out]
                        exact town_keep v2 fun b hb => Below.heap_setCell _ _ _ _ (by have := own_ne_blk v2 hgb (by decide); intro e; simp at e; subst e; exact this hb.symm)
                      · refine bel_set (grown_bel HIO.out.2.bel HIO.out.2.own v1 HIO.out.2.bel.size) (by have := HQQ.out; omega) _ _
                    clear hF hall v1 v2
                    simp only [Act.put, List.setIfInBounds_toArray, List.set_cons_zero, List.set_cons_succ]
                    generalize V.setCell ⟨q, 0, none⟩ (.slice (some ⟨gr, 0, none⟩) (vn + 1) cr) = WN at HFN ⊢
                    go_wp2_with fail
                    go_roundw
                    case rel => exact ⟨j, (j : Int) - 1, _, _, _, by omega, by go_num, (rfl : _ = _), HFN.out⟩
                    case measure => first | (simp [intOf]; done) | (simp [intOf]; omega)
            | false =>
              by_cases hct : (col : Int) = t
              · have HRR : Hid (R = (0, [], ev, false)) := by show _ = _; rw [HT.out, if_neg (by decide), if_pos hct]
                have HRES : Hid (X = ⟨[], sn, 0, true, ev, 0⟩) := by show _ = _; rw [← HXX.out, HRR.out]; rfl
                have hcb : ((col : Int) == t) = true := by simp [hct]
                have BN := HX.out.rk
                have p0 := tcell_blk BN 0
                have p1 := tcell_blk BN 1
                have p2 := tcell_blk BN 2
                have p3 := tcell_blk BN 3
                have f0 := tfrozen_blk BN 0
                have f1 := tfrozen_blk BN 1
                have f2 := tfrozen_blk BN 2
                have f3 := tfrozen_blk BN 3
                have z0 := tcell_blk HX.out.gk 0
                have k1 := tcell_blk HX.out.ck 1
                simp only [List.getElem?_toArray, List.getElem?_cons_zero, List.getElem?_cons_succ] at p0 p1 p2 p3 z0 k1
                clear hct
                go_wp2_with fail
                rw [← set4_eq]
                have z := set4_blk BN (.slice none 0 0) (.int .i64 sn) (.int .i64 0) (.bool true)
                clear z0
                have z0 := tcell_blk z 0
                have z1 := tcell_blk z 1
                have z2 := tcell_blk z 2
                have z3 := tcell_blk z 3
                simp only [List.getElem?_toArray, List.getElem?_cons_zero, List.getElem?_cons_succ] at z0 z1 z2 z3
                have HFB : Hid (Below w.heap.size w (set4 wr (g + 1 + 1) (.slice none 0 0) (.int .i64 sn) (.int .i64 0) (.bool true))) := set4_bel HX.out.bel (by have := HX.out.ge; omega)
                have HDE : Hid (Dn w (.slice oa el oc) ev (set4 wr (g + 1 + 1) (.slice none 0 0) (.int .i64 sn) (.int .i64 0) (.bool true))) := by
                  refine ⟨town_keep HN.out.own fun b hb => set4_other fun e => ?_, HFB.out⟩
                  subst e
                  obtain ⟨cur, hc⟩ := own_blk HN.out.own hb
                  rw [BN] at hc
                  simp at hc
                exact bodyPost_ret (v := .tuple #[.agg #[.slice none 0 0, .int .i64 sn, .int .i64 0, .bool true], .slice oa el oc, .int .i64 0]) (by simp [results, Try.results52, go_sem, z0, z1, z2, z3]) rfl ⟨_, _, _, _, _, _, by rw [HRES.out], by rw [HRES.out]; exact Dq.nil _ HFB.out, by rw [HRES.out]; exact HDE.out⟩
              · have HRR : Hid (R = (13, [], ev, false)) := by show _ = _; rw [HT.out, if_neg (by decide), if_neg hct]
                have HRES : Hid (X = ⟨[], sn, 13, false, [], 13⟩) := by show _ = _; rw [← HXX.out, HRR.out]; rfl
                have hcb : ((col : Int) == t) = false := by simpa using hct
                have z0 := tcell_blk HX.out.gk 0
                simp only [List.getElem?_toArray, List.getElem?_cons_zero] at z0
                clear hct
                clear HT HRR
                have HXW : Hid (Cx w g t (n : Int) (.slice po ps.length pc) (.slice ao l.length c) sn ov dn wr) := HX.out
                have hov := over_any 13 (g + 1) (.slice ao l.length c) sn ov dn wr HXW.out.ck
                have he79 := enters_of Try.func79 (by kernel_rfl) rfl
                go_wp2_with fail
                refine hov.mono ?_
                rintro _ wo ⟨rfl, hbo⟩
                have BN : wo.heap[g + 1 + 1]? = _ := tbox_next HXW.out.rk hbo
                have HBO : Hid (Below w.heap.size w wo) := HXW.out.bel.trans (hbo.mono HXW.out.bel.size)
                clear hov hbo he79
                have p0 := tcell_blk BN 0
                have p1 := tcell_blk BN 1
                have p2 := tcell_blk BN 2
                have p3 := tcell_blk BN 3
                have f0 := tfrozen_blk BN 0
                have f1 := tfrozen_blk BN 1
                have f2 := tfrozen_blk BN 2
                have f3 := tfrozen_blk BN 3
                simp only [List.getElem?_toArray, List.getElem?_cons_zero, List.getElem?_cons_succ] at p0 p1 p2 p3
                go_wp2_with fail
                rw [← set4_eq]
                have z := set4_blk BN (.slice none 0 0) (.int .i64 sn) (.int .i64 13) (.bool false)
                have z0 := tcell_blk z 0
                have z1 := tcell_blk z 1
                have z2 := tcell_blk z 2
                have z3 := tcell_blk z 3
                simp only [List.getElem?_toArray, List.getElem?_cons_zero, List.getElem?_cons_succ] at z0 z1 z2 z3
                have HFB : Hid (Below w.heap.size w (set4 wo (g + 1 + 1) (.slice none 0 0) (.int .i64 sn) (.int .i64 13) (.bool false))) := set4_bel HBO.out (by have := HXW.out.ge; omega)
                exact bodyPost_ret (v := .tuple #[.agg #[.slice none 0 0, .int .i64 sn, .int .i64 13, .bool false], .slice none 0 0, .int .i64 13]) (by simp [results, Try.results52, go_sem, z0, z1, z2, z3]) rfl ⟨_, _, _, _, _, _, by rw [HRES.out], by rw [HRES.out]; exact Dq.nil _ HFB.out, by rw [HRES.out]; exact Dn.nil _ HFB.out⟩
          | (true, p, s) :: r, HTB, HA, HCL, HAN, HNB, htl =>
            have HC2 : Hid (clm ps (rwF rows col) t (col : Int) sn r (ev ++ [(3, p)]) had = R) := by show _ = _; rw [← HCL.out, clm_end hbl htl]
            obtain ⟨b, o, rfl, han9, hnc, hcm, hbb, c0, c1, c2, c3⟩ := HTB.out.top
            simp only at c0 c1 c2 c3
            have ha2 : (0 : Int) < (an : Int) := by omega
            have ha3 : (1 : Int) ≤ (an : Int) := by omega
            have hna : (an : Int) ≤ (ac : Int) := by omega
            have hown := HN.out.own
            rw [HEQ.out] at hown
            clear han9 hbl htl
            go_wp2_with (at_builtin; refine wpList_append_lies _ rfl _ _ 51 rfl w.heap.size 66 i2 (.agg #[.int .i64 0, .int .i64 0]) 2 16 Try.underlying51 hi2 hx0 hx1 hx2 rfl (by decide) _ _ _ rfl (hown.alloc _) ⟨(wr).heap.size, 0, none⟩ 1 1 [.int .i64 3, .int .i64 p] rfl rfl (World.news_of_block (t := 66) (fr := (0, 0)) (heap_alloc_new (wr) _)) (by simp [Value.oneCell']) (by omega) (by unfold maxLen; have := HEL.out; omega) (by have := HEL.out; omega) (by have := HSZ.out; simp; omega) _ rfl ?_)
            intro gr cr V hown' hgrow hor hlt
            have HGE : Hid (Dn w (.slice (some ⟨gr, 0, none⟩) (el + 1) cr) (ev ++ [(3, p)]) V ∧ Fy Z66 wr V) := by
              have h1 := HN.out.grow (x := (3, p)) (rv := .slice (some ⟨gr, 0, none⟩) (el + 1) cr) (V := V) hgrow (by rw [HEQ.out]; exact hown')
              exact h1
            clear hown' hgrow hor hlt hown
            have HXV : Hid _ := HX.out.fy HGE.out.2 (by unfold Z66; decide) (by unfold Z66; decide) HGE.out.1.bel
            have HTV2 : Hid _ := Tdb.fy HTB.out HGE.out.2
            clear c0 c1 c2 c3
            by_cases hac : ac = 1
            · subst hac
              have HTN : Hid (Tdb V (.slice (some ⟨b, o, none⟩) 0 0) r) := Tdb.tail_one HTV2.out
              go_wp2_with fail
              have HCN : Hid (∃ m, m < mm ∧ CMq w g t n (.slice po ps.length pc) (.slice ao l.length c) sn ov dn ps rows col R (.slice (some ⟨b, o, none⟩) 0 0) (.slice (some ⟨gr, 0, none⟩) (el + 1) cr) (.bool had) V m) := by
                have h1 := HM.out
                exact ⟨mm - 1, by have := HA.out.1; omega, _, _, _, _, _, _, r, (ev ++ [(3, p)]), had, rfl, rfl, rfl, HXV.out, HTN.out, HGE.out.1, by rw [List.length_append]; simp; have := HA.out.1; omega, by rw [List.length_append]; simp; have := HNB.out; omega, (by have := HA.out.2.1; simp at this; omega), (fun y hy => HA.out.2.2 y (List.mem_cons_of_mem _ hy)), HC2.out⟩
              go_roundw
              case rel => obtain ⟨m', -, h⟩ := HCN.out; exact ⟨_, h⟩
              case measure =>
                obtain ⟨m', h1, h⟩ := HCN.out
                have h2 := leastOf_le h
                have h3 := HMN.out
                omega
            · have HTN : Hid (Tdb V (.slice (some ⟨b, o + 4, none⟩) (an - 1) (ac - 1)) r) := Tdb.tail_ne HTV2.out hac
              have hac1 : ((ac : Int) == 1) = false := by simp; omega
              go_wp2_with fail
              have HCN : Hid (∃ m, m < mm ∧ CMq w g t n (.slice po ps.length pc) (.slice ao l.length c) sn ov dn ps rows col R (.slice (some ⟨b, o + 4, none⟩) (an - 1) (ac - 1)) (.slice (some ⟨gr, 0, none⟩) (el + 1) cr) (.bool had) V m) := by
                have h1 := HM.out
                exact ⟨mm - 1, by have := HA.out.1; omega, _, _, _, _, _, _, r, (ev ++ [(3, p)]), had, rfl, rfl, rfl, HXV.out, HTN.out, HGE.out.1, by rw [List.length_append]; simp; have := HA.out.1; omega, by rw [List.length_append]; simp; have := HNB.out; omega, (by have := HA.out.2.1; simp at this; omega), (fun y hy => HA.out.2.2 y (List.mem_cons_of_mem _ hy)), HC2.out⟩
              go_roundw
              case rel => obtain ⟨m', -, h⟩ := HCN.out; exact ⟨_, h⟩
              case measure =>
                obtain ⟨m', h1, h⟩ := HCN.out
                have h2 := leastOf_le h
                have h3 := HMN.out
                omega
          | (false, q, s) :: r, HTB, HA, HCL, HAN, HNB, htl =>
            obtain ⟨b, o, rfl, han9, hnc, hcm, hbb, c0, c1, c2, c3⟩ := HTB.out.top
            simp only at c0 c1 c2 c3
            have ha1 : ((an : Int) == 0) = false := by simp; omega
            have ha2 : (0 : Int) < (an : Int) := by omega
            have ha3 : (1 : Int) ≤ (an : Int) := by omega
            have hna : (an : Int) ≤ (ac : Int) := by omega
            clear han9
            cases had with
            | true =>
              have HRR : Hid (R = (0, (false, q, s) :: r, ev, true)) := by show _ = _; rw [← HCL.out, clm_stop hbl htl]
              obtain ⟨td0, HTD0⟩ : ∃ td0 : List Td, Hid (td0 = (false, q, s) :: r) := ⟨_, rfl⟩
              have HTB9 : Hid (Tdb wr (.slice (some ⟨b, o, none⟩) an ac) td0) := by rw [HTD0.out]; exact HTB.out
              clear HTB
              have HTB : Hid (Tdb wr (.slice (some ⟨b, o, none⟩) an ac) td0) := HTB9.out
              clear HTB9
              rw [← HTD0.out] at HRR
              have HTD60 : Hid (td0.length ≤ 60) := by show _ ≤ _; rw [HTD0.out]; exact htl
              have HTL0 : Hid (an = td0.length) := by show _ = _; rw [HTD0.out]; exact HAN.out
              clear hbl htl HCL
              have HRES : Hid (X = ⟨td0.reverse, sn + 1, 0, false, ev, 0⟩) := by show _ = _; rw [← HXX.out, HRR.out]; rfl
              have hsn1 : IntKind.i64.wrap (sn + 1) = sn + 1 := by have := HOK.out.2.2; simp [IntKind.wrap, IntKind.bits, IntKind.signed]; omega
              have hs1 : -9223372036854775808 ≤ sn + 1 := by have := HOK.out.2.2; omega
              have hs2 : sn + 1 ≤ 9223372036854775807 := by have := HOK.out.2.2; omega
              have k1 := tcell_blk HX.out.ck 1
              simp only [List.getElem?_toArray, List.getElem?_cons_zero, List.getElem?_cons_succ] at k1
              obtain ⟨tl, HTL⟩ : ∃ tl, Hid (td0.length = tl) := ⟨_, rfl⟩
              have HTL60 : Hid (tl ≤ 70) := by show _ ≤ _; have := HTL.out; have := HTD60.out; omega
              have htl60 : (tl : Int) ≤ 70 := by have := HTL60.out; omega
              have HTA : Hid (an = tl) := by show _ = _; have h1 := HTL0.out; have h2 := HTL.out; omega
              go_upto_region 38 with fail
              clear k1
              first | rw [hsn1] | skip
              obtain ⟨w6, rfl⟩ : ∃ w6, w6 = wr := ⟨_, rfl⟩
              have HQB : Hid ((w6.alloc (Obj.cells #[.slice none 0 0, .int .i64 (sn + 1), .int .i64 0, .bool false] 43)).heap[w6.heap.size]? = some (.cells #[.slice none 0 0, .int .i64 (sn + 1), .int .i64 0, .bool false] 43) ∧ Dq w6 (.slice none 0 0) [] (w6.alloc (Obj.cells #[.slice none 0 0, .int .i64 (sn + 1), .int .i64 0, .bool false] 43))) := ⟨heap_alloc_new _ _, Dq.nil _ (below_alloc _ _)⟩
              obtain ⟨q, HQQ⟩ : ∃ q, Hid (w6.heap.size = q) := ⟨_, (rfl : w6.heap.size = _)⟩
              generalize w6.alloc (Obj.cells #[.slice none 0 0, .int .i64 (sn + 1), .int .i64 0, .bool false] 43) = w7 at HQB ⊢
              rw [HQQ.out] at HQB ⊢
              go_loopw [21] (fun x wr => ∃ (j : Nat) (i : Int) (va : Option Addr) (vn vc : Nat), j ≤ tl ∧ x = .int .i64 i ∧ Hid (i = (j : Int) - 1) ∧ Hid (wr.heap[q]? = some (.cells #[.slice va vn vc, .int .i64 (sn + 1), .int .i64 0, .bool false] 43) ∧ Dq w6 (.slice va vn vc) (td0.drop j).reverse wr)) (fun x _ => (intOf x + 1).toNat)
              case atStart =>
                refine ⟨tl, (an : Int) - 1, none, 0, 0, Nat.le_refl _, by first | rfl | (simp; done) | go_num, by show _ = _; have := HTA.out; omega, HQB.out.1, ?_⟩
                rw [← HTL.out, List.drop_length]; exact HQB.out.2
              case round =>
                obtain ⟨j', i, va, vn, vc, hj, rfl, HIJ, HI⟩ := hrel
                clear HQB
                by_cases hj0 : j' = 0
                · subst hj0
                  obtain rfl : i = -1 := by have := HIJ.out; omega
                  clear HIJ
                  have HQN : Hid (wr.heap[q]? = some (.cells #[.slice va vn vc, .int .i64 (sn + 1), .int .i64 0, .bool false] 43)) := HI.out.1
                  have HDF : Hid (Dq w6 (.slice va vn vc) td0.reverse wr) := by have := HI.out.2; rw [List.drop_zero] at this; exact this
                  clear HI
                  have BN : wr.heap[g + 1 + 1]? = _ := tbox_next HX.out.rk HDF.out.bel
                  have p0 := tcell_blk BN 0
                  have p1 := tcell_blk BN 1
                  have p2 := tcell_blk BN 2
                  have p3 := tcell_blk BN 3
                  have f0 := tfrozen_blk BN 0
                  have f1 := tfrozen_blk BN 1
                  have f2 := tfrozen_blk BN 2
                  have f3 := tfrozen_blk BN 3
                  have q0 := tcell_blk HQN.out 0
                  have q1 := tcell_blk HQN.out 1
                  have q2 := tcell_blk HQN.out 2
                  have q3 := tcell_blk HQN.out 3
                  simp only [List.getElem?_toArray, List.getElem?_cons_zero, List.getElem?_cons_succ] at p0 p1 p2 p3 q0 q1 q2 q3
                  have hge : ¬ ((-1 : Int) ≥ 0) := by omega
                  go_wp2_with fail
                  rw [← set4_eq]
                  have z := set4_blk BN (.slice va vn vc) (.int .i64 (sn + 1)) (.int .i64 0) (.bool false)
                  have z0 := tcell_blk z 0
                  have z1 := tcell_blk z 1
                  have z2 := tcell_blk z 2
                  have z3 := tcell_blk z 3
                  simp only [List.getElem?_toArray, List.getElem?_cons_zero, List.getElem?_cons_succ] at z0 z1 z2 z3
                  have HFB : Hid (Below w.heap.size w (set4 wr (g + 1 + 1) (.slice va vn vc) (.int .i64 (sn + 1)) (.int .i64 0) (.bool false))) := set4_bel (HX.out.bel.trans (HDF.out.bel.mono HX.out.bel.size)) (by have := HX.out.ge; omega)
                  have hrl : g + 1 + 1 < w6.heap.size := heap_lt3 HX.out.rk
                  have HDQ : Hid (Dq w (.slice va vn vc) td0.reverse (set4 wr (g + 1 + 1) (.slice va vn vc) (.int .i64 (sn + 1)) (.int .i64 0) (.bool false))) :=
                    ⟨own_less (town_keep HDF.out.own fun b hb => set4_other (own_ne HDF.out.own hrl b hb)) HX.out.bel.size, HFB.out⟩
                  have HDE : Hid (Dn w (.slice oa el oc) ev (set4 wr (g + 1 + 1) (.slice va vn vc) (.int .i64 (sn + 1)) (.int .i64 0) (.bool false))) := by
                    have h1 := HN.out.next HDF.out.bel
                    refine ⟨town_keep h1.own fun b hb => set4_other fun e => ?_, HFB.out⟩
                    subst e
                    obtain ⟨cur, hc⟩ := own_blk h1.own hb
                    rw [BN] at hc
                    simp at hc
                  exact bodyPost_ret (v := .tuple #[.agg #[.slice va vn vc, .int .i64 (sn + 1), .int .i64 0, .bool false], .slice oa el oc, .int .i64 0]) (by simp [results, Try.results52, go_sem, z0, z1, z2, z3]) rfl ⟨_, _, _, _, _, _, by rw [HRES.out], by rw [HRES.out]; exact HDQ.out, by rw [HRES.out]; exact HDE.out⟩
                · obtain ⟨j, rfl⟩ : ∃ j, j' = j + 1 := ⟨j' - 1, by omega⟩
                  have hjl : j < td0.length := by have := HTL.out; omega
                  obtain rfl : i = (j : Int) := by have := HIJ.out; omega
                  clear HIJ
                  obtain ⟨a9, c9, e9, -, hcs⟩ := HTB.out.tds
                  simp only [Value.slice.injEq] at e9
                  obtain ⟨rfl, -, rfl⟩ := e9
                  obtain ⟨b2, o2, e10, hb2, hc2⟩ := hcs.resolve_left (by intro e; subst e; simp at hjl)
                  first
                    | subst e10
                    | (injection e10 with e10
                       injection e10 with e11 e12
                       have e13 := e11.symm
                       have e14 := e12.symm
                       clear e11 e12
                       subst e13
                       subst e14)
                  have HCW := hc2 j hjl
                  have HDR : Hid ((td0.drop j).reverse = (td0.drop (j + 1)).reverse ++ [td0[j]]) := by
                    show _ = _
                    rw [List.drop_eq_getElem_cons hjl, List.reverse_cons]
                  rcases hs : td0[j] with ⟨s0, s1, s2, s3⟩
                  rw [hs] at HDR HCW
                  simp only at HCW
                  obtain ⟨xl, HXL⟩ : ∃ xl, Hid ((td0.drop (j + 1)).reverse = xl) := ⟨_, rfl⟩
                  have HXLL : Hid (xl.length ≤ 70) := by
                    show _ ≤ _
                    rw [← HXL.out, List.length_reverse, List.length_drop]; have := HTD60.out; omega
                  rw [HXL.out] at HI HDR
                  have HJ : Hid ((j : Int) < (an : Int)) := by show (j : Int) < (an : Int); have := HTA.out; omega
                  obtain ⟨_, _, e8⟩ := own_len HI.out.2.own
                  simp only [Value.slice.injEq] at e8
                  obtain ⟨-, hvn, -⟩ := e8
                  subst hvn
                  have HQL : Hid (q < wr.heap.size) := heap_lt3 HI.out.1
                  have HLQ : Hid (q < wr.heap.size ∧ some q ≠ Value.ownBlock (.slice va xl.length vc)) := ⟨HQL.out, own_ne_blk HI.out.2.own HI.out.1 (by decide)⟩
                  have HLB : Hid (b2 < wr.heap.size ∧ some b2 ≠ Value.ownBlock (.slice va xl.length vc)) := ⟨Nat.lt_of_lt_of_le hb2 HI.out.2.bel.size, fun e => by have := own_ge HI.out.2.own b2 e.symm; omega⟩
                  have q5 := tcell_blk HI.out.1 0
                  simp only [List.getElem?_toArray, List.getElem?_cons_zero] at q5
                  have HC5 : Hid (wr.cell? ⟨q, 0, none⟩ = some (.slice va xl.length vc)) := q5
                  have HBQ : Hid _ := HI.out.1
                  have HOWN : Hid _ := HI.out.2.own
                  have HCS : Hid (wr.cell? ⟨b2, o2 + j * 4, none⟩ = some (.bool s0) ∧ wr.cell? ⟨b2, o2 + j * 4 + 1, none⟩ = some (.int .i64 s1) ∧ wr.cell? ⟨b2, o2 + j * 4 + 2, none⟩ = some (.int .i64 s2) ∧ wr.cell? ⟨b2, o2 + j * 4 + 3, none⟩ = some (.int .i64 s3)) := ⟨(HI.out.2.bel.cell (p := ⟨b2, o2 + j * 4, none⟩) hb2).trans HCW.1, (HI.out.2.bel.cell (p := ⟨b2, o2 + j * 4 + 1, none⟩) hb2).trans HCW.2.1, (HI.out.2.bel.cell (p := ⟨b2, o2 + j * 4 + 2, none⟩) hb2).trans HCW.2.2.1, (HI.out.2.bel.cell (p := ⟨b2, o2 + j * 4 + 3, none⟩) hb2).trans HCW.2.2.2⟩
                  obtain ⟨vn, HVN⟩ : ∃ vn, Hid (xl.length = vn) := ⟨_, (rfl : xl.length = _)⟩
                  obtain ⟨xs, HXS⟩ : ∃ xs, Hid (tcd xl = xs) := ⟨_, (rfl : tcd xl = _)⟩
                  obtain ⟨B, HBE⟩ : ∃ B, Hid (w6.heap.size = B) := ⟨_, (rfl : w6.heap.size = _)⟩
                  have HK1 : Hid (vn + 1 ≤ 100000) := by show _ ≤ _; have := HXLL.out; have := HVN.out; omega
                  have HBW : Hid (B ≤ wr.heap.size) := by show _ ≤ _; rw [← HBE.out]; exact HI.out.2.bel.size
                  have HIO : Hid _ := HI.out
                  rw [HVN.out] at HLQ HLB HC5 HBQ HOWN HIO
                  rw [HXS.out, HBE.out] at HOWN
                  have hge2 : (0 : Int) ≤ (j : Int) := by omega
                  clear q5 HI HCW hc2 hcs hs
                  go_upto_region 40 with fail
                  refine wp_region_free mixed (fun a0 d a W => ∃ (gb2 : Nat) (gr : Nat) (cr : Nat) (x176 x177 x178 x179 x180 x181 x182 x183 x184 : Value), a = (((((((((a0.put (some 176) x176).put (some 177) x177).put (some 178) x178).put (some 179) x179).put (some 180) x180).put (some 181) x181).put (some 182) x182).put (some 183) x183).put (some 184) x184) ∧ Hid (REd wr B q vn vc b2 o2 an ac j va s0 s1 s2 s3 xs gb2 gr cr d x176 x177 x178 x179 x180 x181 x182 x183 x184 W)) (by kernel_rfl) ⟨0, 0, 0, u176, u177, u178, u179, u180, u181, u182, u183, u184, by first | (simp only [Act.put, List.setIfInBounds_toArray, List.set_cons_zero, List.set_cons_succ]; done) | (simp only [Act.put, List.setIfInBounds_toArray, List.set_cons_zero, List.set_cons_succ]; rfl), ?_⟩ ?_ ?_
                  · exact ⟨fun h => no_way h, fun h => no_way h, fun h => no_way h, fun h => no_way h, fun h => no_way h, fun h => no_way h, fun h => no_way h, fun h => no_way h, fun h => no_way h, fun _ => trivial, fun _ _ h => no_way h, fun h => no_way h, fun _ => tgb_drew (World.grownBy.refl _ _), fun _ => HOWN.out, fun h => no_way h, fun h => no_way h, fun h => no_way h⟩
                  · simp only [StepAll, and_true]
                    refine ⟨?_, ?_, ?_, ?_, ?_, ?_, ?_, ?_, ?_, ?_⟩
                    · intro d a W hI hd hdep
                      obtain ⟨gb2, gr, cr, x176, x177, x178, x179, x180, x181, x182, x183, x184, rfl, hF⟩ := hI
                      clear hdep hd
                      intro K hK
                      simp only [Act.put, List.setIfInBounds_toArray, List.set_cons_zero, List.set_cons_succ]
                      go_simp
                      refine hK.out _ _ ⟨gb2, gr, cr, (.pointer (some ⟨q, 0, none⟩)), x177, x178, x179, x180, x181, x182, x183, x184, by first | (simp only [Act.put, List.setIfInBounds_toArray, List.set_cons_zero, List.set_cons_succ]; done) | (simp only [Act.put, List.setIfInBounds_toArray, List.set_cons_zero, List.set_cons_succ]; rfl), ?_⟩
                      exact ⟨fun _ => rfl, fun h => hF.out.f1 (by simpa using h), fun h => hF.out.f2 (by simpa using h), fun h => hF.out.f3 (by simpa using h), fun h => hF.out.f4 (by simpa using h), fun h => hF.out.f5 (by simpa using h), fun h => hF.out.f6 (by simpa using h), fun h => hF.out.f7 (by simpa using h), fun h => hF.out.f8 (by simpa using h), fun h => hF.out.f9 (by simpa using h), fun i hi h => by have := hF.out.ol i hi (by simpa using h); simp [this], fun h => by have := hF.out.cA (by simpa using h); simpa using this, fun h => hF.out.kp (by simpa using h), fun h => hF.out.r0 (by simpa using h), fun h h2 => hF.out.b0 (by simpa using h) (by simpa using h2), fun h h2 => hF.out.r1 (by simpa using h) (by simpa using h2), fun h => hF.out.fin (by simpa using h)⟩
                    · intro d a W hI hd hdep
                      obtain ⟨gb2, gr, cr, x176, x177, x178, x179, x180, x181, x182, x183, x184, rfl, hF⟩ := hI
                      have hd0 : d 0 = true := dep_of hdep 0 (by kernel_rfl)
                      obtain rfl := hF.out.f0 hd0
                      have HNL : Hid (d 9 = false) := no_later (hF.out.ol 1 (by omega)) hd
                      have ya : W.cell? ⟨q, 0, none⟩ = some (.slice va vn vc) := (tgb_old (hF.out.kp HNL.out) (p := ⟨q, 0, none⟩) HLQ.out.1 HLQ.out.2).trans HC5.out
                      clear hdep hd hd0
                      intro K hK
                      simp only [Act.put, List.setIfInBounds_toArray, List.set_cons_zero, List.set_cons_succ]
                      go_simp
                      refine hK.out _ _ ⟨gb2, gr, cr, (.pointer (some ⟨q, 0, none⟩)), (.slice va vn vc), x178, x179, x180, x181, x182, x183, x184, by first | (simp only [Act.put, List.setIfInBounds_toArray, List.set_cons_zero, List.set_cons_succ]; done) | (simp only [Act.put, List.setIfInBounds_toArray, List.set_cons_zero, List.set_cons_succ]; rfl), ?_⟩
                      exact ⟨fun h => hF.out.f0 (by simpa using h), fun _ => rfl, fun h => hF.out.f2 (by simpa using h), fun h => hF.out.f3 (by simpa using h), fun h => hF.out.f4 (by simpa using h), fun h => hF.out.f5 (by simpa using h), fun h => hF.out.f6 (by simpa using h), fun h => hF.out.f7 (by simpa using h), fun h => hF.out.f8 (by simpa using h), fun h => hF.out.f9 (by simpa using h), fun i hi h => by have := hF.out.ol i hi (by simpa using h); simp [this], fun h => by have := hF.out.cA (by simpa using h); simpa using this, fun h => hF.out.kp (by simpa using h), fun h => hF.out.r0 (by simpa using h), fun h h2 => hF.out.b0 (by simpa using h) (by simpa using h2), fun h h2 => hF.out.r1 (by simpa using h) (by simpa using h2), fun h => hF.out.fin (by simpa using h)⟩
                    · intro d a W hI hd hdep
                      obtain ⟨gb2, gr, cr, x176, x177, x178, x179, x180, x181, x182, x183, x184, rfl, hF⟩ := hI
                      clear hdep hd
                      intro K hK
                      simp only [Act.put, List.setIfInBounds_toArray, List.set_cons_zero, List.set_cons_succ]
                      go_simp
                      refine hK.out _ _ ⟨gb2, gr, cr, x176, x177, (.slice (some ⟨b2, o2, none⟩) an ac), x179, x180, x181, x182, x183, x184, by first | (simp only [Act.put, List.setIfInBounds_toArray, List.set_cons_zero, List.set_cons_succ]; done) | (simp only [Act.put, List.setIfInBounds_toArray, List.set_cons_zero, List.set_cons_succ]; rfl), ?_⟩
                      exact ⟨fun h => hF.out.f0 (by simpa using h), fun h => hF.out.f1 (by simpa using h), fun _ => rfl, fun h => hF.out.f3 (by simpa using h), fun h => hF.out.f4 (by simpa using h), fun h => hF.out.f5 (by simpa using h), fun h => hF.out.f6 (by simpa using h), fun h => hF.out.f7 (by simpa using h), fun h => hF.out.f8 (by simpa using h), fun h => hF.out.f9 (by simpa using h), fun i hi h => by have := hF.out.ol i hi (by simpa using h); simp [this], fun h => by have := hF.out.cA (by simpa using h); simpa using this, fun h => hF.out.kp (by simpa using h), fun h => hF.out.r0 (by simpa using h), fun h h2 => hF.out.b0 (by simpa using h) (by simpa using h2), fun h h2 => hF.out.r1 (by simpa using h) (by simpa using h2), fun h => hF.out.fin (by simpa using h)⟩
                    · intro d a W hI hd hdep
                      obtain ⟨gb2, gr, cr, x176, x177, x178, x179, x180, x181, x182, x183, x184, rfl, hF⟩ := hI
                      clear hdep hd
                      intro K hK
                      simp only [Act.put, List.setIfInBounds_toArray, List.set_cons_zero, List.set_cons_succ]
                      go_simp
                      refine hK.out _ _ ⟨gb2, gr, cr, x176, x177, x178, (.int .i64 (j : Int)), x180, x181, x182, x183, x184, by first | (simp only [Act.put, List.setIfInBounds_toArray, List.set_cons_zero, List.set_cons_succ]; done) | (simp only [Act.put, List.setIfInBounds_toArray, List.set_cons_zero, List.set_cons_succ]; rfl), ?_⟩
                      exact ⟨fun h => hF.out.f0 (by simpa using h), fun h => hF.out.f1 (by simpa using h), fun h => hF.out.f2 (by simpa using h), fun _ => rfl, fun h => hF.out.f4 (by simpa using h), fun h => hF.out.f5 (by simpa using h), fun h => hF.out.f6 (by simpa using h), fun h => hF.out.f7 (by simpa using h), fun h => hF.out.f8 (by simpa using h), fun h => hF.out.f9 (by simpa using h), fun i hi h => by have := hF.out.ol i hi (by simpa using h); simp [this], fun h => by have := hF.out.cA (by simpa using h); simpa using this, fun h => hF.out.kp (by simpa using h), fun h => hF.out.r0 (by simpa using h), fun h h2 => hF.out.b0 (by simpa using h) (by simpa using h2), fun h h2 => hF.out.r1 (by simpa using h) (by simpa using h2), fun h => hF.out.fin (by simpa using h)⟩
                    · intro d a W hI hd hdep
                      obtain ⟨gb2, gr, cr, x176, x177, x178, x179, x180, x181, x182, x183, x184, rfl, hF⟩ := hI
                      have hd2 : d 2 = true := dep_of hdep 2 (by kernel_rfl)
                      have hd3 : d 3 = true := dep_of hdep 3 (by kernel_rfl)
                      obtain rfl := hF.out.f2 hd2
                      obtain rfl := hF.out.f3 hd3
                      have hk0 : (0 : Int) ≤ (j : Int) := by omega
                      have hk1 : (j : Int) < (an : Int) := HJ.out
                      clear hdep hd hd2 hd3
                      intro K hK
                      simp only [Act.put, List.setIfInBounds_toArray, List.set_cons_zero, List.set_cons_succ]
                      go_simp
                      refine hK.out _ _ ⟨gb2, gr, cr, x176, x177, (.slice (some ⟨b2, o2, none⟩) an ac), (.int .i64 (j : Int)), (.pointer (some ⟨b2, o2 + j * 4, none⟩)), x181, x182, x183, x184, by first | (simp only [Act.put, List.setIfInBounds_toArray, List.set_cons_zero, List.set_cons_succ]; done) | (simp only [Act.put, List.setIfInBounds_toArray, List.set_cons_zero, List.set_cons_succ]; rfl), ?_⟩
                      exact ⟨fun h => hF.out.f0 (by simpa using h), fun h => hF.out.f1 (by simpa using h), fun h => hF.out.f2 (by simpa using h), fun h => hF.out.f3 (by simpa using h), fun _ => rfl, fun h => hF.out.f5 (by simpa using h), fun h => hF.out.f6 (by simpa using h), fun h => hF.out.f7 (by simpa using h), fun h => hF.out.f8 (by simpa using h), fun h => hF.out.f9 (by simpa using h), fun i hi h => by have := hF.out.ol i hi (by simpa using h); simp [this], fun h => by have := hF.out.cA (by simpa using h); simpa using this, fun h => hF.out.kp (by simpa using h), fun h => hF.out.r0 (by simpa using h), fun h h2 => hF.out.b0 (by simpa using h) (by simpa using h2), fun h h2 => hF.out.r1 (by simpa using h) (by simpa using h2), fun h => hF.out.fin (by simpa using h)⟩
                    · intro d a W hI hd hdep
                      obtain ⟨gb2, gr, cr, x176, x177, x178, x179, x180, x181, x182, x183, x184, rfl, hF⟩ := hI
                      have hd4 : d 4 = true := dep_of hdep 4 (by kernel_rfl)
                      obtain rfl := hF.out.f4 hd4
                      have HNL : Hid (d 9 = false) := no_later (hF.out.ol 5 (by omega)) hd
                      have ya : W.cell? ⟨b2, o2 + j * 4, none⟩ = some (.bool s0) := (tgb_old (hF.out.kp HNL.out) (p := ⟨b2, o2 + j * 4, none⟩) HLB.out.1 HLB.out.2).trans HCS.out.1
                      have yb : W.cell? ⟨b2, o2 + j * 4 + 1, none⟩ = some (.int .i64 s1) := (tgb_old (hF.out.kp HNL.out) (p := ⟨b2, o2 + j * 4 + 1, none⟩) HLB.out.1 HLB.out.2).trans HCS.out.2.1
                      have yc : W.cell? ⟨b2, o2 + j * 4 + 2, none⟩ = some (.int .i64 s2) := (tgb_old (hF.out.kp HNL.out) (p := ⟨b2, o2 + j * 4 + 2, none⟩) HLB.out.1 HLB.out.2).trans HCS.out.2.2.1
                      have yd : W.cell? ⟨b2, o2 + j * 4 + 3, none⟩ = some (.int .i64 s3) := (tgb_old (hF.out.kp HNL.out) (p := ⟨b2, o2 + j * 4 + 3, none⟩) HLB.out.1 HLB.out.2).trans HCS.out.2.2.2
                      clear hdep hd hd4
                      intro K hK
                      simp only [Act.put, List.setIfInBounds_toArray, List.set_cons_zero, List.set_cons_succ]
                      go_simp
                      refine hK.out _ _ ⟨gb2, gr, cr, x176, x177, x178, x179, (.pointer (some ⟨b2, o2 + j * 4, none⟩)), (.agg #[.bool s0, .int .i64 s1, .int .i64 s2, .int .i64 s3]), x182, x183, x184, by first | (simp only [Act.put, List.setIfInBounds_toArray, List.set_cons_zero, List.set_cons_succ]; done) | (simp only [Act.put, List.setIfInBounds_toArray, List.set_cons_zero, List.set_cons_succ]; rfl), ?_⟩
                      exact ⟨fun h => hF.out.f0 (by simpa using h), fun h => hF.out.f1 (by simpa using h), fun h => hF.out.f2 (by simpa using h), fun h => hF.out.f3 (by simpa using h), fun h => hF.out.f4 (by simpa using h), fun _ => rfl, fun h => hF.out.f6 (by simpa using h), fun h => hF.out.f7 (by simpa using h), fun h => hF.out.f8 (by simpa using h), fun h => hF.out.f9 (by simpa using h), fun i hi h => by have := hF.out.ol i hi (by simpa using h); simp [this], fun h => by have := hF.out.cA (by simpa using h); simpa using this, fun h => hF.out.kp (by simpa using h), fun h => hF.out.r0 (by simpa using h), fun h h2 => hF.out.b0 (by simpa using h) (by simpa using h2), fun h h2 => hF.out.r1 (by simpa using h) (by simpa using h2), fun h => hF.out.fin (by simpa using h)⟩
                    · intro d a W hI hd hdep
                      obtain ⟨gb2, gr, cr, x176, x177, x178, x179, x180, x181, x182, x183, x184, rfl, hF⟩ := hI
                      have hd5 : d 5 = true := dep_of hdep 5 (by kernel_rfl)
                      obtain rfl := hF.out.f5 hd5
                      have HNL : Hid (d 9 = false) := no_later (hF.out.ol 6 (by omega)) hd
                      have HN8 : Hid (d 7 = false) := no_later hF.out.cA hd
                      clear hdep hd hd5
                      intro K hK
                      simp only [Act.put, List.setIfInBounds_toArray, List.set_cons_zero, List.set_cons_succ]
                      go_simp
                      refine hK.out _ _ ⟨W.heap.size, gr, cr, x176, x177, x178, x179, x180, (.agg #[.bool s0, .int .i64 s1, .int .i64 s2, .int .i64 s3]), (.slice (some ⟨W.heap.size, 0, none⟩) 1 1), x183, x184, by first | (simp only [Act.put, List.setIfInBounds_toArray, List.set_cons_zero, List.set_cons_succ]; done) | (simp only [Act.put, List.setIfInBounds_toArray, List.set_cons_zero, List.set_cons_succ]; rfl), ?_⟩
                      exact ⟨fun h => hF.out.f0 (by simpa using h), fun h => hF.out.f1 (by simpa using h), fun h => hF.out.f2 (by simpa using h), fun h => hF.out.f3 (by simpa using h), fun h => hF.out.f4 (by simpa using h), fun h => hF.out.f5 (by simpa using h), fun _ => rfl, fun h => by have := HN8.out; simp [this] at h, fun h => hF.out.f8 (by simpa using h), fun h => hF.out.f9 (by simpa using h), fun i hi h => by have := hF.out.ol i hi (by simpa using h); simp [this], fun _ => by simp, fun _ => tgb_alloc (hF.out.kp HNL.out) _, fun _ => (hF.out.r0 HN8.out).alloc _, fun _ _ => heap_alloc_new _ _, fun h => by have := HN8.out; simp [this] at h, fun h => by have := HNL.out; simp [this] at h⟩
                    · intro d a W hI hd hdep
                      obtain ⟨gb2, gr, cr, x176, x177, x178, x179, x180, x181, x182, x183, x184, rfl, hF⟩ := hI
                      have hd1 : d 1 = true := dep_of hdep 1 (by kernel_rfl)
                      have hd6 : d 6 = true := dep_of hdep 6 (by kernel_rfl)
                      obtain rfl := hF.out.f1 hd1
                      obtain rfl := hF.out.f6 hd6
                      have HNL : Hid (d 9 = false) := no_later (hF.out.ol 7 (by omega)) hd
                      have HD7 : Hid (d 6 = true) := hd6
                      have hm := run_append_lies (P := Try.prog) W 41 41 B 49 i1 _ 4 32 Try.underlying41 hi1 hy0 hy1 hy2 rfl (by omega) (.slice va vn vc) vn xs (hF.out.r0 hd) ⟨gb2, 0, none⟩ 1 1 [.bool s0, .int .i64 s1, .int .i64 s2, .int .i64 s3] rfl (World.news_of_block (t := 49) (fr := (0, 0)) (hF.out.b0 hd6 hd)) (by simp [Value.oneCell']) (by omega) (by unfold maxLen; have := HK1.out; omega) (by have := HK1.out; omega) (Nat.le_trans HBW.out (hF.out.kp HNL.out).size) W.heap.size rfl
                      have hmm := hm.choose_spec.choose_spec.choose_spec
                      generalize hm.choose_spec.choose_spec.choose = W1 at hmm
                      generalize hm.choose_spec.choose = cr1 at hmm
                      generalize hm.choose = gr1 at hmm
                      have hrun := hmm.1
                      have HM : Hid (W1.ownsRow B 49 4 (.slice (some ⟨gr1, 0, none⟩) (vn + 1) cr1) (vn + 1) (xs ++ [.bool s0, .int .i64 s1, .int .i64 s2, .int .i64 s3]) ∧ W.grownBy W1 (Value.ownBlock (.slice va vn vc))) := ⟨hmm.2.1, hmm.2.2.1⟩
                      clear hmm hm
                      clear hdep hd hd1 hd6
                      intro K hK
                      refine tstep_call_append (sv := (.slice va vn vc)) (xv := (.slice (some ⟨gb2, 0, none⟩) 1 1)) (v := (.slice (some ⟨gr1, 0, none⟩) (vn + 1) cr1)) (W1 := W1) (by rfl) _ _ 41 (by rfl) (by first | (simp only [Act.put, List.setIfInBounds_toArray, List.set_cons_zero, List.set_cons_succ]; done) | (simp only [Act.put, List.setIfInBounds_toArray, List.set_cons_zero, List.set_cons_succ]; rfl)) (by first | (simp only [Act.put, List.setIfInBounds_toArray, List.set_cons_zero, List.set_cons_succ]; done) | (simp only [Act.put, List.setIfInBounds_toArray, List.set_cons_zero, List.set_cons_succ]; rfl)) (by exact hrun) ?_
                      simp only [Act.put, List.setIfInBounds_toArray, List.set_cons_zero, List.set_cons_succ]
                      refine hK.out _ _ ⟨gb2, gr1, cr1, x176, (.slice va vn vc), x178, x179, x180, x181, (.slice (some ⟨gb2, 0, none⟩) 1 1), (.slice (some ⟨gr1, 0, none⟩) (vn + 1) cr1), x184, by first | (simp only [Act.put, List.setIfInBounds_toArray, List.set_cons_zero, List.set_cons_succ]; done) | (simp only [Act.put, List.setIfInBounds_toArray, List.set_cons_zero, List.set_cons_succ]; rfl), ?_⟩
                      exact ⟨fun h => hF.out.f0 (by simpa using h), fun h => hF.out.f1 (by simpa using h), fun h => hF.out.f2 (by simpa using h), fun h => hF.out.f3 (by simpa using h), fun h => hF.out.f4 (by simpa using h), fun h => hF.out.f5 (by simpa using h), fun h => hF.out.f6 (by simpa using h), fun _ => rfl, fun h => hF.out.f8 (by simpa using h), fun h => hF.out.f9 (by simpa using h), fun i hi h => by have := hF.out.ol i hi (by simpa using h); simp [this], fun _ => by simpa using HD7.out, fun _ => tgb_then (hF.out.kp HNL.out) HM.out.2, fun h => by simp at h, fun _ h => by simp at h, fun _ _ => HM.out.1, fun h => by have := HNL.out; simp [this] at h⟩
                    · intro d a W hI hd hdep
                      obtain ⟨gb2, gr, cr, x176, x177, x178, x179, x180, x181, x182, x183, x184, rfl, hF⟩ := hI
                      have hd0 : d 0 = true := dep_of hdep 0 (by kernel_rfl)
                      obtain rfl := hF.out.f0 hd0
                      clear hdep hd hd0
                      intro K hK
                      simp only [Act.put, List.setIfInBounds_toArray, List.set_cons_zero, List.set_cons_succ]
                      go_simp
                      refine hK.out _ _ ⟨gb2, gr, cr, (.pointer (some ⟨q, 0, none⟩)), x177, x178, x179, x180, x181, x182, x183, (.pointer (some ⟨q, 0, none⟩)), by first | (simp only [Act.put, List.setIfInBounds_toArray, List.set_cons_zero, List.set_cons_succ]; done) | (simp only [Act.put, List.setIfInBounds_toArray, List.set_cons_zero, List.set_cons_succ]; rfl), ?_⟩
                      exact ⟨fun h => hF.out.f0 (by simpa using h), fun h => hF.out.f1 (by simpa using h), fun h => hF.out.f2 (by simpa using h), fun h => hF.out.f3 (by simpa using h), fun h => hF.out.f4 (by simpa using h), fun h => hF.out.f5 (by simpa using h), fun h => hF.out.f6 (by simpa using h), fun h => hF.out.f7 (by simpa using h), fun _ => rfl, fun h => hF.out.f9 (by simpa using h), fun i hi h => by have := hF.out.ol i hi (by simpa using h); simp [this], fun h => by have := hF.out.cA (by simpa using h); simpa using this, fun h => hF.out.kp (by simpa using h), fun h => hF.out.r0 (by simpa using h), fun h h2 => hF.out.b0 (by simpa using h) (by simpa using h2), fun h h2 => hF.out.r1 (by simpa using h) (by simpa using h2), fun h => hF.out.fin (by simpa using h)⟩
                    · intro d a W hI hd hdep
                      obtain ⟨gb2, gr, cr, x176, x177, x178, x179, x180, x181, x182, x183, x184, rfl, hF⟩ := hI
                      have hd0 : d 0 = true := dep_of hdep 0 (by kernel_rfl)
                      have hd1 : d 1 = true := dep_of hdep 1 (by kernel_rfl)
                      have hd2 : d 2 = true := dep_of hdep 2 (by kernel_rfl)
                      have hd3 : d 3 = true := dep_of hdep 3 (by kernel_rfl)
                      have hd4 : d 4 = true := dep_of hdep 4 (by kernel_rfl)
                      have hd5 : d 5 = true := dep_of hdep 5 (by kernel_rfl)
                      have hd6 : d 6 = true := dep_of hdep 6 (by kernel_rfl)
                      have hd7 : d 7 = true := dep_of hdep 7 (by kernel_rfl)
                      have hd8 : d 8 = true := dep_of hdep 8 (by kernel_rfl)
                      obtain rfl := hF.out.f0 hd0
                      obtain rfl := hF.out.f1 hd1
                      obtain rfl := hF.out.f2 hd2
                      obtain rfl := hF.out.f3 hd3
                      obtain rfl := hF.out.f4 hd4
                      obtain rfl := hF.out.f5 hd5
                      obtain rfl := hF.out.f6 hd6
                      obtain rfl := hF.out.f7 hd7
                      obtain rfl := hF.out.f8 hd8
                      have HD : Hid (∀ i, i < 9 → d i = true) := fun i hi => by
                        have : i = 0 ∨ i = 1 ∨ i = 2 ∨ i = 3 ∨ i = 4 ∨ i = 5 ∨ i = 6 ∨ i = 7 ∨ i = 8 := by omega
                        rcases this with rfl | rfl | rfl | rfl | rfl | rfl | rfl | rfl | rfl <;> assumption
                      have HKP : Hid (wr.grownBy W (Value.ownBlock (.slice va vn vc))) := hF.out.kp hd
                      have HR1 : Hid (W.ownsRow B 49 4 (.slice (some ⟨gr, 0, none⟩) (vn + 1) cr) (vn + 1) (xs ++ [.bool s0, .int .i64 s1, .int .i64 s2, .int .i64 s3])) := hF.out.r1 hd7 hd
                      have hblk := (HKP.out.block q HLQ.out.1 HLQ.out.2).trans HBQ.out
                      have ya := tcell_blk hblk 0
                      have yb := tfrozen_blk hblk 0
                      clear hblk
                      simp only [List.getElem?_toArray, List.getElem?_cons_zero] at ya
                      clear hdep hd hd0 hd1 hd2 hd3 hd4 hd5 hd6 hd7 hd8
                      intro K hK
                      simp only [Act.put, List.setIfInBounds_toArray, List.set_cons_zero, List.set_cons_succ]
                      go_simp
                      refine hK.out _ _ ⟨gb2, gr, cr, (.pointer (some ⟨q, 0, none⟩)), (.slice va vn vc), (.slice (some ⟨b2, o2, none⟩) an ac), (.int .i64 (j : Int)), (.pointer (some ⟨b2, o2 + j * 4, none⟩)), (.agg #[.bool s0, .int .i64 s1, .int .i64 s2, .int .i64 s3]), (.slice (some ⟨gb2, 0, none⟩) 1 1), (.slice (some ⟨gr, 0, none⟩) (vn + 1) cr), (.pointer (some ⟨q, 0, none⟩)), by first | (simp only [Act.put, List.setIfInBounds_toArray, List.set_cons_zero, List.set_cons_succ]; done) | (simp only [Act.put, List.setIfInBounds_toArray, List.set_cons_zero, List.set_cons_succ]; rfl), ?_⟩
                      exact ⟨fun h => hF.out.f0 (by simpa using h), fun h => hF.out.f1 (by simpa using h), fun h => hF.out.f2 (by simpa using h), fun h => hF.out.f3 (by simpa using h), fun h => hF.out.f4 (by simpa using h), fun h => hF.out.f5 (by simpa using h), fun h => hF.out.f6 (by simpa using h), fun h => hF.out.f7 (by simpa using h), fun h => hF.out.f8 (by simpa using h), fun _ => trivial, fun i hi _ => by have := HD.out i hi; simp [this], fun h => by have := hF.out.cA (by simpa using h); simpa using this, fun h => by simp at h, fun h => by have := HD.out 7 (by omega); simp [this] at h, fun _ h => by have := HD.out 7 (by omega); simp [this] at h, fun _ h => by simp at h, fun _ => ⟨W, HKP.out, HR1.out, rfl⟩⟩
                  · intro d a W hI hall
                    obtain ⟨gb2, gr, cr, x176, x177, x178, x179, x180, x181, x182, x183, x184, rfl, hF⟩ := hI
                    simp only [List.length_cons, List.length_nil] at hall
                    obtain rfl := hF.out.f0 (hall 0 (by omega))
                    obtain rfl := hF.out.f1 (hall 1 (by omega))
                    obtain rfl := hF.out.f2 (hall 2 (by omega))
                    obtain rfl := hF.out.f3 (hall 3 (by omega))
                    obtain rfl := hF.out.f4 (hall 4 (by omega))
                    obtain rfl := hF.out.f5 (hall 5 (by omega))
                    obtain rfl := hF.out.f6 (hall 6 (by omega))
                    obtain rfl := hF.out.f7 (hall 7 (by omega))
                    obtain rfl := hF.out.f8 (hall 8 (by omega))
                    obtain ⟨V, v1, v2, rfl⟩ := hF.out.fin (hall 9 (by omega))
                    have HFN : Hid ((V.setCell ⟨q, 0, none⟩ (.slice (some ⟨gr, 0, none⟩) (vn + 1) cr)).heap[q]? = some (.cells #[.slice (some ⟨gr, 0, none⟩) (vn + 1) cr, .int .i64 (sn + 1), .int .i64 0, .bool false] 43) ∧ Dq w6 (.slice (some ⟨gr, 0, none⟩) (vn + 1) cr) (td0.drop j).reverse (V.setCell ⟨q, 0, none⟩ (.slice (some ⟨gr, 0, none⟩) (vn + 1) cr))) := by
                      have hgb := (v1.block q HLQ.out.1 HLQ.out.2).trans HBQ.out
                      refine ⟨by simpa using tblock_store (i := 0) hgb (.slice (some ⟨gr, 0, none⟩) (vn + 1) cr), ?_, ?_⟩
                      · rw [HDR.out, List.length_append, tcd_append, HXS.out, HVN.out, HBE.out]
                        exact town_keep v2 fun b hb => Below.heap_setCell _ _ _ _ (by have := own_ne_blk v2 hgb (by decide); intro e; simp at e; subst e; exact this hb.symm)
                      · refine bel_set (grown_bel HIO.out.2.bel HIO.out.2.own v1 HIO.out.2.bel.size) (by have := HQQ.out; omega) _ _
                    clear hF hall v1 v2
                    simp only [Act.put, List.setIfInBounds_toArray, List.set_cons_zero, List.set_cons_succ]
                    generalize V.setCell ⟨q, 0, none⟩ (.slice (some ⟨gr, 0, none⟩) (vn + 1) cr) = WN at HFN ⊢
                    go_wp2_with fail
                    go_roundw
                    case rel => exact ⟨j, (j : Int) - 1, _, _, _, by omega, by go_num, (rfl : _ = _), HFN.out⟩
                    case measure => first | (simp [intOf]; done) | (simp [intOf]; omega)
            | false =>
              have HX8 : Hid _ := HX.out.next (below_alloc wr (Obj.cells #[.int .i64 s.1, .int .i64 s.2] 47))
              have HT8 : Hid _ := HTB.out.below (below_alloc wr (Obj.cells #[.int .i64 s.1, .int .i64 s.2] 47))
              have HN8 : Hid _ := HN.out.next (below_alloc wr (Obj.cells #[.int .i64 s.1, .int .i64 s.2] 47))
              have HXB : Hid _ := heap_alloc_new wr (Obj.cells #[.int .i64 s.1, .int .i64 s.2] 47)
              go_upto_region 20 with fail
              clear c0 c1 c2 c3 ha1 HX HTB HN HSZ
              obtain ⟨xb, HXE⟩ : ∃ xb, Hid (wr.heap.size = xb) := ⟨_, (rfl : wr.heap.size = _)⟩
              generalize wr.alloc (Obj.cells #[.int .i64 s.1, .int .i64 s.2] 47) = w8 at HX8 HT8 HN8 HXB ⊢
              rw [HXE.out] at HXB ⊢
              have HSZ : Hid (w.heap.size ≤ w8.heap.size) := HX8.out.bel.size
              have x0 := tcell_blk HXB.out 0
              have x1 := tcell_blk HXB.out 1
              simp only [List.getElem?_toArray, List.getElem?_cons_zero, List.getElem?_cons_succ] at x0 x1
              have hokt := HA.out.2.2 (false, q, s) (by simp)
              obtain ⟨s0, s1⟩ := s
              simp only at x0 x1
              by_cases h4 : s0 = 1
              · subst h4
                by_cases h5 : s1 = (col : Int)
                · subst h5
                  have HC2 : Hid (clm ps (rwF rows col) t (col : Int) sn r (ev ++ [(2, sn)]) true = R) := by show _ = _; rw [← HCL.out, clm_tok hbl htl rfl, if_pos rfl]
                  have hcb : ((col : Int) != (col : Int)) = false := by simp
                  have k1 := tcell_blk HX8.out.ck 1
                  simp only [List.getElem?_toArray, List.getElem?_cons_zero, List.getElem?_cons_succ] at k1
                  have hown := HN8.out.own
                  rw [HEQ.out] at hown
                  clear hbl htl HCL hokt
                  go_wp2_with (at_builtin; refine wpList_append_lies _ rfl _ _ 51 rfl w.heap.size 66 i2 (.agg #[.int .i64 0, .int .i64 0]) 2 16 Try.underlying51 hi2 hx0 hx1 hx2 rfl (by decide) _ _ _ rfl (hown.alloc _) ⟨(w8).heap.size, 0, none⟩ 1 1 [.int .i64 2, .int .i64 sn] rfl rfl (World.news_of_block (t := 66) (fr := (0, 0)) (heap_alloc_new (w8) _)) (by simp [Value.oneCell']) (by omega) (by unfold maxLen; have := HEL.out; omega) (by have := HEL.out; omega) (by have := HSZ.out; simp; omega) _ rfl ?_)
                  intro gr cr V hown' hgrow hor hlt
                  have HGE : Hid (Dn w (.slice (some ⟨gr, 0, none⟩) (el + 1) cr) (ev ++ [(2, sn)]) V ∧ Fy Z66 w8 V) := by
                    have h1 := HN8.out.grow (x := (2, sn)) (rv := .slice (some ⟨gr, 0, none⟩) (el + 1) cr) (V := V) hgrow (by rw [HEQ.out]; exact hown')
                    exact h1
                  clear hown' hgrow hor hlt hown
                  have HXV : Hid _ := HX8.out.fy HGE.out.2 (by unfold Z66; decide) (by unfold Z66; decide) HGE.out.1.bel
                  have HTV2 : Hid _ := Tdb.fy HT8.out HGE.out.2
                  clear k1 x0 x1
                  by_cases hac : ac = 1
                  · subst hac
                    have HTN : Hid (Tdb V (.slice (some ⟨b, o, none⟩) 0 0) r) := Tdb.tail_one HTV2.out
                    go_wp2_with fail
                    have HCN : Hid (∃ m, m < mm ∧ CMq w g t n (.slice po ps.length pc) (.slice ao l.length c) sn ov dn ps rows col R (.slice (some ⟨b, o, none⟩) 0 0) (.slice (some ⟨gr, 0, none⟩) (el + 1) cr) (.bool true) V m) := by
                      have h1 := HM.out
                      exact ⟨mm - 1, by have := HA.out.1; omega, _, _, _, _, _, _, r, (ev ++ [(2, sn)]), true, rfl, rfl, rfl, HXV.out, HTN.out, HGE.out.1, by rw [List.length_append]; simp; have := HA.out.1; omega, by rw [List.length_append]; simp; have := HNB.out; omega, (by have := HA.out.2.1; simp at this; omega), (fun y hy => HA.out.2.2 y (List.mem_cons_of_mem _ hy)), HC2.out⟩
                    go_roundw
                    case rel => obtain ⟨m', -, h⟩ := HCN.out; exact ⟨_, h⟩
                    case measure =>
                      obtain ⟨m', h1, h⟩ := HCN.out
                      have h2 := leastOf_le h
                      have h3 := HMN.out
                      omega
                  · have HTN : Hid (Tdb V (.slice (some ⟨b, o + 4, none⟩) (an - 1) (ac - 1)) r) := Tdb.tail_ne HTV2.out hac
                    have hac1 : ((ac : Int) == 1) = false := by simp; omega
                    go_wp2_with fail
                    have HCN : Hid (∃ m, m < mm ∧ CMq w g t n (.slice po ps.length pc) (.slice ao l.length c) sn ov dn ps rows col R (.slice (some ⟨b, o + 4, none⟩) (an - 1) (ac - 1)) (.slice (some ⟨gr, 0, none⟩) (el + 1) cr) (.bool true) V m) := by
                      have h1 := HM.out
                      exact ⟨mm - 1, by have := HA.out.1; omega, _, _, _, _, _, _, r, (ev ++ [(2, sn)]), true, rfl, rfl, rfl, HXV.out, HTN.out, HGE.out.1, by rw [List.length_append]; simp; have := HA.out.1; omega, by rw [List.length_append]; simp; have := HNB.out; omega, (by have := HA.out.2.1; simp at this; omega), (fun y hy => HA.out.2.2 y (List.mem_cons_of_mem _ hy)), HC2.out⟩
                    go_roundw
                    case rel => obtain ⟨m', -, h⟩ := HCN.out; exact ⟨_, h⟩
                    case measure =>
                      obtain ⟨m', h1, h⟩ := HCN.out
                      have h2 := leastOf_le h
                      have h3 := HMN.out
                      omega
                · have HRR : Hid (R.1 = 13) := by show _ = _; rw [← HCL.out, clm_tok hbl htl rfl, if_neg h5]
                  have HRES : Hid (X = ⟨[], sn, 13, false, [], 13⟩) := by show _ = _; rw [← HXX.out, HRR.out, if_neg (by decide)]
                  have hcb : (s1 != (col : Int)) = true := by simpa using h5
                  clear h5 hbl htl HCL hokt
                  have HXW : Hid (Cx w g t (n : Int) (.slice po ps.length pc) (.slice ao l.length c) sn ov dn w8) := HX8.out
                  have hov := over_any 13 (g + 1) (.slice ao l.length c) sn ov dn w8 HXW.out.ck
                  have he79 := enters_of Try.func79 (by kernel_rfl) rfl
                  go_wp2_with fail
                  refine hov.mono ?_
                  rintro _ wo ⟨rfl, hbo⟩
                  have BN : wo.heap[g + 1 + 1]? = _ := tbox_next HXW.out.rk hbo
                  have HBO : Hid (Below w.heap.size w wo) := HXW.out.bel.trans (hbo.mono HXW.out.bel.size)
                  clear hov hbo he79
                  have p0 := tcell_blk BN 0
                  have p1 := tcell_blk BN 1
                  have p2 := tcell_blk BN 2
                  have p3 := tcell_blk BN 3
                  have f0 := tfrozen_blk BN 0
                  have f1 := tfrozen_blk BN 1
                  have f2 := tfrozen_blk BN 2
                  have f3 := tfrozen_blk BN 3
                  simp only [List.getElem?_toArray, List.getElem?_cons_zero, List.getElem?_cons_succ] at p0 p1 p2 p3
                  go_wp2_with fail
                  rw [← set4_eq]
                  have z := set4_blk BN (.slice none 0 0) (.int .i64 sn) (.int .i64 13) (.bool false)
                  have z0 := tcell_blk z 0
                  have z1 := tcell_blk z 1
                  have z2 := tcell_blk z 2
                  have z3 := tcell_blk z 3
                  simp only [List.getElem?_toArray, List.getElem?_cons_zero, List.getElem?_cons_succ] at z0 z1 z2 z3
                  have HFB : Hid (Below w.heap.size w (set4 wo (g + 1 + 1) (.slice none 0 0) (.int .i64 sn) (.int .i64 13) (.bool false))) := set4_bel HBO.out (by have := HXW.out.ge; omega)
                  exact bodyPost_ret (v := .tuple #[.agg #[.slice none 0 0, .int .i64 sn, .int .i64 13, .bool false], .slice none 0 0, .int .i64 13]) (by simp [results, Try.results52, go_sem, z0, z1, z2, z3]) rfl ⟨_, _, _, _, _, _, by rw [HRES.out], by rw [HRES.out]; exact Dq.nil _ HFB.out, by rw [HRES.out]; exact Dn.nil _ HFB.out⟩
              · have h4b : (s0 == 1) = false := by simpa using h4
                have hx2 := hokt
                unfold okT okSy okN at hx2
                simp [h4] at hx2
                obtain ⟨m, rfl⟩ : ∃ m : Nat, s1 = (m : Int) := ⟨s1.toNat, by omega⟩
                have HM2 : Hid (m < rows.length) := by show m < rows.length; have := HO.out.rl; omega
                have hxn := hx2
                clear hx2 hokt hxn
                obtain ⟨ro', rc', hro, hrm', hcs⟩ := (HO.out.rw.below HX8.out.bel)
                simp only [Value.slice.injEq] at hro
                obtain ⟨rfl, -, rfl⟩ := hro
                obtain ⟨b1, o1, rfl, hb1, hc1'⟩ := hcs.resolve_left (by intro e; have := HM2.out; simp [e] at this)
                obtain ⟨u, hu0, hu1⟩ := hc1' m HM2.out
                have HCL0 : Hid (col < (rows[m]'HM2.out).length) := HO.out.cl m HM2.out
                have HV0 : Hid (rwF rows col (m : Int) = (rows[m]'HM2.out)[col]'HCL0.out) := rwF_at HM2.out HCL0.out
                have HU : Hid (Ints w8 u (rows[m]'HM2.out) ∧ ∃ hl : col < (rows[m]'HM2.out).length, rwF rows col (m : Int) = (rows[m]'HM2.out)[col]'hl) := ⟨hu1, HCL0.out, HV0.out⟩
                clear hu1 HV0 HCL0
                generalize rows[m]'HM2.out = row at HU
                obtain ⟨uo, uc, rfl, hum, huc⟩ := HU.out.1
                obtain ⟨HCLx, HV9⟩ := HU.out.2
                obtain ⟨b2, o2, rfl, hb2, hc2'⟩ := huc.resolve_left (by intro e; subst e; simp at HCLx)
                have hv := hc2' col HCLx
                have HV : Hid (rwF rows col (m : Int) = row[col]'HCLx) := HV9
                generalize row[col]'HCLx = v at hv HV
                have HCL2 : Hid (col < row.length) := HCLx
                obtain ⟨rl2, HRL2⟩ : ∃ rl2, Hid (row.length = rl2) := ⟨_, (rfl : row.length = _)⟩
                rw [HRL2.out] at hu0 HCL2 hum
                have hm0 : (0 : Int) ≤ (m : Int) := by omega
                have hm1 : (m : Int) < (rows.length : Int) := by have := HM2.out; omega
                have hm2 : (0 : Int) ≤ (col : Int) := by omega
                have hm3 : (col : Int) < (rl2 : Int) := by have := HCL2.out; omega
                clear HU HV9 hc1' hc2' hcs huc HRL2 HCLx
                by_cases hv0 : v < 0
                · have HRR : Hid (R.1 = 13) := by show _ = _; rw [← HCL.out, clm_non hbl htl h4, if_pos (by show rwF rows col (m : Int) < 0; rw [HV.out]; exact hv0)]
                  have HRES : Hid (X = ⟨[], sn, 13, false, [], 13⟩) := by show _ = _; rw [← HXX.out, HRR.out, if_neg (by decide)]
                  clear hbl htl HCL h4
                  have HXW : Hid (Cx w g t (n : Int) (.slice po ps.length pc) (.slice ao l.length c) sn ov dn w8) := HX8.out
                  have hov := over_any 13 (g + 1) (.slice ao l.length c) sn ov dn w8 HXW.out.ck
                  have he79 := enters_of Try.func79 (by kernel_rfl) rfl
                  go_wp2_with fail
                  refine hov.mono ?_
                  rintro _ wo ⟨rfl, hbo⟩
                  have BN : wo.heap[g + 1 + 1]? = _ := tbox_next HXW.out.rk hbo
                  have HBO : Hid (Below w.heap.size w wo) := HXW.out.bel.trans (hbo.mono HXW.out.bel.size)
                  clear hov hbo he79
                  have p0 := tcell_blk BN 0
                  have p1 := tcell_blk BN 1
                  have p2 := tcell_blk BN 2
                  have p3 := tcell_blk BN 3
                  have f0 := tfrozen_blk BN 0
                  have f1 := tfrozen_blk BN 1
                  have f2 := tfrozen_blk BN 2
                  have f3 := tfrozen_blk BN 3
                  simp only [List.getElem?_toArray, List.getElem?_cons_zero, List.getElem?_cons_succ] at p0 p1 p2 p3
                  go_wp2_with fail
                  rw [← set4_eq]
                  have z := set4_blk BN (.slice none 0 0) (.int .i64 sn) (.int .i64 13) (.bool false)
                  have z0 := tcell_blk z 0
                  have z1 := tcell_blk z 1
                  have z2 := tcell_blk z 2
                  have z3 := tcell_blk z 3
                  simp only [List.getElem?_toArray, List.getElem?_cons_zero, List.getElem?_cons_succ] at z0 z1 z2 z3
                  have HFB : Hid (Below w.heap.size w (set4 wo (g + 1 + 1) (.slice none 0 0) (.int .i64 sn) (.int .i64 13) (.bool false))) := set4_bel HBO.out (by have := HXW.out.ge; omega)
                  exact bodyPost_ret (v := .tuple #[.agg #[.slice none 0 0, .int .i64 sn, .int .i64 13, .bool false], .slice none 0 0, .int .i64 13]) (by simp [results, Try.results52, go_sem, z0, z1, z2, z3]) rfl ⟨_, _, _, _, _, _, by rw [HRES.out], by rw [HRES.out]; exact Dq.nil _ HFB.out, by rw [HRES.out]; exact Dn.nil _ HFB.out⟩
                · have hzz := HO.out.ro m (by have := HO.out.rl; have := HM2.out; omega) (by rw [HV.out]; omega)
                  obtain ⟨z, hz, hzl⟩ := hzz
                  obtain rfl : v = (z : Int) := by rw [← HV.out, hz]
                  have HRW : Hid (rwF rows col (m : Int) = (z : Int)) := HV.out
                  obtain ⟨bd, HBD⟩ : ∃ bd, Hid ((ps[z]'hzl).2 = bd) := ⟨_, rfl⟩
                  have HC2 : Hid (clm ps (rwF rows col) t (col : Int) sn (bd.map symT ++ endT (z : Int) :: r) (ev ++ [(1, (z : Int))]) false = R) := by
                    show _ = _
                    rw [← HCL.out, clm_non hbl htl h4, if_neg (by show ¬ rwF rows col (m : Int) < 0; rw [HRW.out]; omega)]
                    show _ = clm ps (rwF rows col) t (col : Int) sn ((bodyOf ps (rwF rows col (m : Int))).map symT ++ endT (rwF rows col (m : Int)) :: r) (ev ++ [(1, rwF rows col (m : Int))]) false
                    rw [HRW.out, (bodyOf_nat hzl).1, HBD.out]
                  have HB8 : Hid (bd.length ≤ 8 ∧ (∀ y ∈ bd, okSy t (n : Int) y = true)) := by rw [← HBD.out]; exact ⟨HO.out.bl z hzl, HO.out.bo z hzl⟩
                  have HZL : Hid (z < ps.length) := hzl
                  obtain ⟨po', pc', hpe', -, hpcs⟩ := (HO.out.pd.below HX8.out.bel)
                  simp only [Value.slice.injEq] at hpe'
                  obtain ⟨rfl, -, rfl⟩ := hpe'
                  obtain ⟨pb, pq, rfl, hpb, hpc⟩ := hpcs.resolve_left (by intro e; have := HZL.out; simp [e] at this)
                  obtain ⟨-, u, hpu0, hpu1⟩ := hpc z hzl
                  rw [HBD.out] at hpu1
                  have HPU : Hid (pb < w8.heap.size ∧ w8.cell? ⟨pb, pq + z * 2 + 1, none⟩ = some u ∧ Syms w8 u bd) := ⟨hpb, hpu0, hpu1⟩
                  obtain ⟨uo2, uc2, rfl, hul2, -⟩ := hpu1
                  have hbd8 : (bd.length : Int) ≤ 8 := by have := HB8.out.1; omega
                  have hz0 : (0 : Int) ≤ (z : Int) := by omega
                  have hz1 : (z : Int) < (ps.length : Int) := by have := HZL.out; omega
                  clear hpcs hpc hpu0 HBD HV hz hbl htl HCL h4 hzl HRW
                  go_upto_region 30 with fail
                  clear hv hu0 x0 x1 hm0 hm1 hm2 hm3 hum hv0
                  have HQ0 : Hid (Dq w8 (.slice none 0 0) [] w8) := Dq.nil _ (Below.refl _ _)
                  go_loopw [18, 19] (fun x y wr => ∃ (k : Nat) (na : Option Addr) (nn nc : Nat), k ≤ bd.length ∧ x = .slice na nn nc ∧ y = .int .i64 (k : Int) ∧ Hid (Dq w8 (.slice na nn nc) ((bd.map symT).take k) wr)) (fun _ y _ => bd.length - (intOf y).toNat)
                  case atStart => exact ⟨0, none, 0, 0, Nat.zero_le _, rfl, rfl, by rw [List.take_zero]; exact HQ0⟩
                  case round =>
                    obtain ⟨k, na, nn, nc, hk, rfl, rfl, HI⟩ := hrel
                    clear HQ0
                    have HXR : Hid _ := HX8.out.next HI.out.bel
                    have z2 := tcell_blk HXR.out.gk 2
                    simp only [List.getElem?_toArray, List.getElem?_cons_zero, List.getElem?_cons_succ] at z2
                    have y3 : wr.cell? ⟨pb, pq + z * 2 + 1, none⟩ = _ := (HI.out.bel.cell (p := ⟨pb, pq + z * 2 + 1, none⟩) HPU.out.1).trans HPU.out.2.1
                    have hown := HI.out.own
                    obtain ⟨_, _, e8⟩ := own_len hown
                    simp only [Value.slice.injEq] at e8
                    obtain ⟨-, hnn, -⟩ := e8
                    have HNN : Hid (nn = k) := by show _ = _; rw [hnn, List.length_take, List.length_map]; omega
                    have hnk : ((bd.map symT).take k).length = nn := hnn.symm
                    rw [hnk] at hown
                    have HLN : Hid (nn ≤ 8) := by show _ ≤ _; have := HNN.out; have := HB8.out.1; omega
                    have HSW : Hid (w8.heap.size ≤ wr.heap.size) := HI.out.bel.size
                    have HNK : Hid (((bd.map symT).take k).length = nn) := hnk
                    clear hnk hnn
                    by_cases hlt : k < bd.length
                    · obtain ⟨uo3, uc3, he3, -, huc3⟩ := HPU.out.2.2
                      simp only [Value.slice.injEq] at he3
                      obtain ⟨rfl, -, rfl⟩ := he3
                      obtain ⟨b2', o2', rfl, hb2', hc2''⟩ := huc3.resolve_left (by intro e; subst e; simp at hlt)
                      have HCW := hc2'' k hlt
                      have HTK : Hid ((bd.map symT).take (k + 1) = (bd.map symT).take k ++ [symT bd[k]]) := by
                        show _ = _
                        rw [List.take_succ_eq_append_getElem (by rw [List.length_map]; exact hlt), List.getElem_map]
                      rcases hs : bd[k] with ⟨s2, s3⟩
                      rw [hs] at HTK HCW
                      simp only at HCW
                      have y4 : wr.cell? ⟨b2', o2' + k * 2, none⟩ = _ := (HI.out.bel.cell (p := ⟨b2', o2' + k * 2, none⟩) hb2').trans HCW.1
                      have y5 : wr.cell? ⟨b2', o2' + k * 2 + 1, none⟩ = _ := (HI.out.bel.cell (p := ⟨b2', o2' + k * 2 + 1, none⟩) hb2').trans HCW.2
                      have hk1 : (k : Int) < (bd.length : Int) := by omega
                      have hk0 : (0 : Int) ≤ (k : Int) := by omega
                      clear hs hc2'' huc3 HCW
                      go_wp2_with (at_builtin; refine wpList_append_lies _ rfl _ _ 41 rfl w8.heap.size 49 i1 (.agg #[.bool false, .int .i64 0, .int .i64 0, .int .i64 0]) 4 32 Try.underlying41 hi1 hy0 hy1 hy2 rfl (by decide) _ _ _ rfl (hown.alloc _) ⟨(wr).heap.size, 0, none⟩ 1 1 [.bool false, .int .i64 0, .int .i64 s2, .int .i64 s3] rfl rfl (World.news_of_block (t := 49) (fr := (0, 0)) (heap_alloc_new (wr) _)) (by simp [Value.oneCell']) (by omega) (by unfold maxLen; have := HLN.out; omega) (by have := HLN.out; omega) (by have := HSW.out; simp; omega) _ rfl ?_)
                      intro gr cr V hown' hgrow hor hlt
                      have HGN : Hid (Dq w8 (.slice (some ⟨gr, 0, none⟩) (nn + 1) cr) ((bd.map symT).take (k + 1)) V) := by
                        have h1 := (HI.out.grow (x := symT (s2, s3)) (rv := .slice (some ⟨gr, 0, none⟩) (nn + 1) cr) (V := V) hgrow (by rw [HNK.out]; exact hown')).1
                        rw [HTK.out]; exact h1
                      clear hown' hgrow hor hlt hown y3 y4 y5 z2
                      go_wp2_with fail
                      go_roundw
                      case rel => exact ⟨k + 1, _, _, _, by omega, rfl, by go_num, HGN⟩
                      case measure => first | (simp [intOf]; done) | (simp [intOf]; omega)
                    · obtain rfl : k = bd.length := by omega
                      have hk1 : ¬ ((bd.length : Int) < (bd.length : Int)) := by omega
                      have HTA9 : Hid ((bd.map symT).take bd.length = bd.map symT) := by show _ = _; exact List.take_of_length_le (by rw [List.length_map]; exact Nat.le_refl _)
                      rw [HTA9.out] at HI HNK
                      rw [HTA9.out] at hown
                      go_wp2_with (at_builtin; refine wpList_append_lies _ rfl _ _ 41 rfl w8.heap.size 49 i1 (.agg #[.bool false, .int .i64 0, .int .i64 0, .int .i64 0]) 4 32 Try.underlying41 hi1 hy0 hy1 hy2 rfl (by decide) _ _ _ rfl (hown.alloc _) ⟨(wr).heap.size, 0, none⟩ 1 1 [.bool true, .int .i64 (z : Int), .int .i64 0, .int .i64 0] rfl rfl (World.news_of_block (t := 49) (fr := (0, 0)) (heap_alloc_new (wr) _)) (by simp [Value.oneCell']) (by omega) (by unfold maxLen; have := HLN.out; omega) (by have := HLN.out; omega) (by have := HSW.out; simp; omega) _ rfl ?_)
                      intro gr cr V hown' hgrow hor hlt
                      have HGN : Hid (Dq w8 (.slice (some ⟨gr, 0, none⟩) (nn + 1) cr) (bd.map symT ++ [endT (z : Int)]) V) :=
                        (HI.out.grow (x := endT (z : Int)) (rv := .slice (some ⟨gr, 0, none⟩) (nn + 1) cr) (V := V) hgrow (by rw [HNK.out]; exact hown')).1
                      clear hown' hgrow hor hlt hown y3 z2 HXR
                      have HTV : Hid _ := Tdb.below HT8.out HGN.out.bel
                      have HRL9 : Hid (r.length ≤ 59) := by show _ ≤ _; have h1 := HAN.out; simp at h1; omega
                      obtain ⟨ta9, tn9, tc9, HTN9, HSLV⟩ : ∃ ta9 tn9 tc9, Hid (Tdb V (.slice ta9 tn9 tc9) r) ∧ Hid ((ac = 1 ∧ (Value.slice ta9 tn9 tc9) = .slice (some ⟨b, o, none⟩) 0 0) ∨ (ac ≠ 1 ∧ (Value.slice ta9 tn9 tc9) = .slice (some ⟨b, o + 4, none⟩) (an - 1) (ac - 1))) := by
                        by_cases hac : ac = 1
                        · subst hac; exact ⟨_, _, _, Tdb.tail_one HTV.out, Or.inl ⟨rfl, rfl⟩⟩
                        · exact ⟨_, _, _, Tdb.tail_ne HTV.out hac, Or.inr ⟨hac, rfl⟩⟩
                      obtain ⟨_, _, e10, -, -⟩ := HTN9.out.tds
                      simp only [Value.slice.injEq] at e10
                      obtain ⟨-, htn9, -⟩ := e10
                      have hoth := Oth.tds (ao := ta9) (cap := tc9) (by rw [← htn9]; exact HTN9.out.tds)
                      obtain ⟨ja, jc, V2, hrun, hown2, hgr2, -⟩ := append_any (W := V) (base := w8.heap.size) 41 49 i1 _ 4 32 Try.underlying41 hi1 hy0 hy1 hy2 rfl (by decide) (.slice (some ⟨gr, 0, none⟩) (nn + 1) cr) (nn + 1) (tcd (bd.map symT ++ [endT (z : Int)])) (by have := HGN.out.own; rw [List.length_append, HNK.out] at this; exact this) ta9 r.length tc9 (tcd r) (tcd_length r) hoth (tcd_one r) (by have := HLN.out; have := HRL9.out; omega) (by have := HLN.out; have := HRL9.out; omega) HGN.out.bel.size
                      rw [← htn9] at hrun
                      have HQ2 : Hid (Dq w8 (.slice ja (nn + 1 + tn9) jc) (bd.map symT ++ endT (z : Int) :: r) V2) := by
                        refine ⟨?_, grown_bel HGN.out.bel HGN.out.own hgr2 HGN.out.bel.size⟩
                        rw [← tcd_append, ← htn9] at hown2
                        have e1 : bd.map symT ++ [endT (z : Int)] ++ r = bd.map symT ++ endT (z : Int) :: r := by simp
                        rw [e1] at hown2
                        have e2 : (bd.map symT ++ endT (z : Int) :: r).length = nn + 1 + tn9 := by rw [List.length_append, HNK.out, List.length_cons, htn9]; omega
                        rw [e2]; exact hown2
                      have HXV2 : Hid _ := HX8.out.next HQ2.out.bel
                      have HNV2 : Hid _ := HN8.out.next HQ2.out.bel
                      clear hoth hown2 hgr2 htn9
                      obtain ⟨tl9, HTL9⟩ : ∃ tl9, Hid (nn + 1 + tn9 = tl9) := ⟨_, (rfl : nn + 1 + tn9 = _)⟩
                      rw [HTL9.out] at hrun HQ2
                      have hrun2 := hrun
                      have hown := HNV2.out.own
                      rw [HEQ.out] at hown
                      have HSV : Hid (w.heap.size ≤ V2.heap.size) := HXV2.out.bel.size
                      rcases HSLV.out with ⟨rfl, hsl⟩ | ⟨hac, hsl⟩
                      · rw [hsl] at hrun2
                        go_wp2_with (at_builtin; first | (refine wpList_append_run rfl _ _ 41 rfl _ _ rfl rfl hrun2 ?_) | (refine wpList_append_lies _ rfl _ _ 51 rfl w.heap.size 66 i2 (.agg #[.int .i64 0, .int .i64 0]) 2 16 Try.underlying51 hi2 hx0 hx1 hx2 rfl (by decide) _ _ _ rfl (hown.alloc _) ⟨(V2).heap.size, 0, none⟩ 1 1 [.int .i64 1, .int .i64 (z : Int)] rfl rfl (World.news_of_block (t := 66) (fr := (0, 0)) (heap_alloc_new (V2) _)) (by simp [Value.oneCell']) (by omega) (by unfold maxLen; have := HEL.out; omega) (by have := HEL.out; omega) (by have := HSV.out; simp; omega) _ rfl ?_))
                        intro gr cr V hown' hgrow hor hlt
                        have HGE : Hid (Dn w (.slice (some ⟨gr, 0, none⟩) (el + 1) cr) (ev ++ [(1, (z : Int))]) V ∧ Fy Z66 V2 V) := by
                          have h1 := HNV2.out.grow (x := (1, (z : Int))) (rv := .slice (some ⟨gr, 0, none⟩) (el + 1) cr) (V := V) hgrow (by rw [HEQ.out]; exact hown')
                          exact h1
                        clear hown' hgrow hor hlt hown
                        have HXV3 : Hid _ := HXV2.out.fy HGE.out.2 (by unfold Z66; decide) (by unfold Z66; decide) HGE.out.1.bel
                        have HTN3 : Hid (Tdb V (.slice ja tl9 jc) (bd.map symT ++ endT (z : Int) :: r)) := Tdb.fy (Tdb.own HQ2.out.own) HGE.out.2
                        go_wp2_with fail
                        have HCN : Hid (∃ m, m < mm ∧ CMq w g t n (.slice (some ⟨pb, pq, none⟩) ps.length pc) (.slice ao l.length c) sn ov dn ps rows col R (.slice ja tl9 jc) (.slice (some ⟨gr, 0, none⟩) (el + 1) cr) (.bool false) V m) := by
                          have h1 := HM.out
                          exact ⟨mm - 1, by have := HA.out.1; omega, _, _, _, _, _, _, (bd.map symT ++ endT (z : Int) :: r), (ev ++ [(1, (z : Int))]), false, rfl, rfl, rfl, HXV3.out, HTN3.out, HGE.out.1, by rw [List.length_append]; simp; have := HA.out.1; omega, by rw [List.length_append]; simp; have := HNB.out; omega, (by rw [List.length_append, List.length_map, List.length_cons]; have := HB8.out.1; have := HRL9.out; omega), (fun y hy => by
                            rcases List.mem_append.1 hy with hy | hy
                            · obtain ⟨s9, hs9, rfl⟩ := List.mem_map.1 hy
                              simp [okT, symT, HB8.out.2 s9 hs9]
                            · rcases List.mem_cons.1 hy with rfl | hy
                              · have := HZL.out; simp [okT, endT, isPr, this]
                              · exact HA.out.2.2 y (List.mem_cons_of_mem _ hy)), HC2.out⟩
                        go_roundw
                        case rel => obtain ⟨m', -, h⟩ := HCN.out; exact ⟨_, h⟩
                        case measure =>
                          obtain ⟨m', h1, h⟩ := HCN.out
                          have h2 := leastOf_le h
                          have h3 := HMN.out
                          omega
                      · rw [hsl] at hrun2
                        have hac1 : ((ac : Int) == 1) = false := by simp; omega
                        go_wp2_with (at_builtin; first | (refine wpList_append_run rfl _ _ 41 rfl _ _ rfl rfl hrun2 ?_) | (refine wpList_append_lies _ rfl _ _ 51 rfl w.heap.size 66 i2 (.agg #[.int .i64 0, .int .i64 0]) 2 16 Try.underlying51 hi2 hx0 hx1 hx2 rfl (by decide) _ _ _ rfl (hown.alloc _) ⟨(V2).heap.size, 0, none⟩ 1 1 [.int .i64 1, .int .i64 (z : Int)] rfl rfl (World.news_of_block (t := 66) (fr := (0, 0)) (heap_alloc_new (V2) _)) (by simp [Value.oneCell']) (by omega) (by unfold maxLen; have := HEL.out; omega) (by have := HEL.out; omega) (by have := HSV.out; simp; omega) _ rfl ?_))
                        intro gr cr V hown' hgrow hor hlt
                        have HGE : Hid (Dn w (.slice (some ⟨gr, 0, none⟩) (el + 1) cr) (ev ++ [(1, (z : Int))]) V ∧ Fy Z66 V2 V) := by
                          have h1 := HNV2.out.grow (x := (1, (z : Int))) (rv := .slice (some ⟨gr, 0, none⟩) (el + 1) cr) (V := V) hgrow (by rw [HEQ.out]; exact hown')
                          exact h1
                        clear hown' hgrow hor hlt hown
                        have HXV3 : Hid _ := HXV2.out.fy HGE.out.2 (by unfold Z66; decide) (by unfold Z66; decide) HGE.out.1.bel
                        have HTN3 : Hid (Tdb V (.slice ja tl9 jc) (bd.map symT ++ endT (z : Int) :: r)) := Tdb.fy (Tdb.own HQ2.out.own) HGE.out.2
                        go_wp2_with fail
                        have HCN : Hid (∃ m, m < mm ∧ CMq w g t n (.slice (some ⟨pb, pq, none⟩) ps.length pc) (.slice ao l.length c) sn ov dn ps rows col R (.slice ja tl9 jc) (.slice (some ⟨gr, 0, none⟩) (el + 1) cr) (.bool false) V m) := by
                          have h1 := HM.out
                          exact ⟨mm - 1, by have := HA.out.1; omega, _, _, _, _, _, _, (bd.map symT ++ endT (z : Int) :: r), (ev ++ [(1, (z : Int))]), false, rfl, rfl, rfl, HXV3.out, HTN3.out, HGE.out.1, by rw [List.length_append]; simp; have := HA.out.1; omega, by rw [List.length_append]; simp; have := HNB.out; omega, (by rw [List.length_append, List.length_map, List.length_cons]; have := HB8.out.1; have := HRL9.out; omega), (fun y hy => by
                            rcases List.mem_append.1 hy with hy | hy
                            · obtain ⟨s9, hs9, rfl⟩ := List.mem_map.1 hy
                              simp [okT, symT, HB8.out.2 s9 hs9]
                            · rcases List.mem_cons.1 hy with rfl | hy
                              · have := HZL.out; simp [okT, endT, isPr, this]
                              · exact HA.out.2.2 y (List.mem_cons_of_mem _ hy)), HC2.out⟩
                        go_roundw
                        case rel => obtain ⟨m', -, h⟩ := HCN.out; exact ⟨_, h⟩
                        case measure =>
                          obtain ⟨m', h1, h⟩ := HCN.out
                          have h2 := leastOf_le h
                          have h3 := HMN.out
                          omega
    · obtain ⟨j, rfl⟩ : ∃ j, j' = j + 1 := ⟨j' - 1, by omega⟩
      have hjl : j < l.length := by omega
      obtain rfl : i = (j : Int) := by have := HIJ.out; omega
      clear HIJ
      obtain ⟨a9, c9, e9, -, hcs⟩ := HTV.out
      simp only [Value.slice.injEq] at e9
      obtain ⟨rfl, -, rfl⟩ := e9
      obtain ⟨b2, o2, rfl, hb2, hc2⟩ := hcs.resolve_left (by intro e; subst e; simp at hjl)
      obtain ⟨d0, d1, d2, d3⟩ := hc2 j hjl
      have HDR : Hid ((l.drop j).reverse = (l.drop (j + 1)).reverse ++ [l[j]]) := by
        show _ = _
        rw [List.drop_eq_getElem_cons hjl, List.reverse_cons]
      have y0 : wr.cell? ⟨b2, o2 + j * 4, none⟩ = _ := (HI.out.1.bel.cell (p := ⟨b2, o2 + j * 4, none⟩) hb2).trans d0
      have y1 : wr.cell? ⟨b2, o2 + j * 4 + 1, none⟩ = _ := (HI.out.1.bel.cell (p := ⟨b2, o2 + j * 4 + 1, none⟩) hb2).trans d1
      have y2 : wr.cell? ⟨b2, o2 + j * 4 + 2, none⟩ = _ := (HI.out.1.bel.cell (p := ⟨b2, o2 + j * 4 + 2, none⟩) hb2).trans d2
      have y3 : wr.cell? ⟨b2, o2 + j * 4 + 3, none⟩ = _ := (HI.out.1.bel.cell (p := ⟨b2, o2 + j * 4 + 3, none⟩) hb2).trans d3
      generalize l[j] = x at y0 y1 y2 y3 HDR
      obtain ⟨s0, s1, s2, s3⟩ := x
      simp only at y0 y1 y2 y3
      have k0 := tcell_blk HI.out.1.ck 0
      simp only [List.getElem?_toArray, List.getElem?_cons_zero] at k0
      have hown := HI.out.2.own
      obtain ⟨_, _, e8⟩ := own_len hown
      simp only [Value.slice.injEq] at e8
      obtain ⟨-, rfl, -⟩ := e8
      obtain ⟨len9, HL9⟩ : ∃ n9, Hid ((l.drop (j + 1)).reverse.length = n9) := ⟨_, rfl⟩
      have HLN : Hid (len9 ≤ 60) := by show _ ≤ _; rw [← HL9.out, List.length_reverse, List.length_drop]; have := HOK.out.2.1; omega
      have HSZ : Hid (w.heap.size ≤ wr.heap.size) := HI.out.1.bel.size
      rw [HL9.out] at hown ⊢
      have hk1 : (j : Int) < (l.length : Int) := by omega
      have hk0 : (0 : Int) ≤ (j : Int) := by omega
      clear hc2 hcs d0 d1 d2 d3
      go_wp2_with (at_builtin; refine wpList_append_lies _ rfl _ _ 41 rfl w.heap.size 49 i1 (.agg #[.bool false, .int .i64 0, .int .i64 0, .int .i64 0]) 4 32 Try.underlying41 hi1 hy0 hy1 hy2 rfl (by decide) _ _ _ rfl (hown.alloc _) ⟨wr.heap.size, 0, none⟩ 1 1 [.bool s0, .int .i64 s1, .int .i64 s2, .int .i64 s3] rfl rfl (World.news_of_block (t := 49) (fr := (0, 0)) (heap_alloc_new wr _)) (by simp [Value.oneCell']) (by omega) (by unfold maxLen; have := HLN.out; omega) (by have := HLN.out; omega) (by have := HSZ.out; simp; omega) _ rfl ?_)
      intro gr cr V hown' hgrow hor hlt
      have HFIN : Hid (Cx w g t (n : Int) (.slice po ps.length pc) (.slice (some ⟨b2, o2, none⟩) l.length c) sn ov dn V ∧ Dq w (.slice (some ⟨gr, 0, none⟩) (len9 + 1) cr) (l.drop j).reverse V) := by
        have h1 := HI.out.2
        rw [HL9.out] at h1
        have h2 := h1.grow (x := (s0, s1, s2, s3)) (rv := .slice (some ⟨gr, 0, none⟩) (len9 + 1) cr) (V := V) hgrow (by rw [HL9.out]; exact hown')
        exact ⟨HI.out.1.fy h2.2 (by unfold Z49; decide) (by unfold Z49; decide) h2.1.bel, by rw [HDR.out]; exact h2.1⟩
      clear hown' hgrow hor hlt hown y0 y1 y2 y3 k0
      go_wp2_with fail
      go_roundw
      case rel => exact ⟨j, (j : Int) - 1, some ⟨gr, 0, none⟩, len9 + 1, cr, by omega, rfl, by go_num, (rfl : _ = _), HFIN.out⟩
      case measure => first | (simp [intOf]; done) | (simp [intOf]; omega)
end Go.Proofs.Ytpfehghicaaghaa
