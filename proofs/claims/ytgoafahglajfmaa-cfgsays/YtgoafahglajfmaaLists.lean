/-
  The contracts of slices.Equal at numbers and at symbols, of slices.IndexFunc and ContainsFunc at numbers, and of cfg.Of.
-/
import Derived.Test.YtgoafahglajfmaaCheck
import Derived.Laws.StructEq
import Derived.ChangeKeysEq
import Derived.Deep.Cut
namespace Go.Proofs.Ytgoafahglajfmaa
open Go.RowKit
open Cg

set_option maxHeartbeats 1600000 in
set_option maxRecDepth 20000 in
theorem equal_any (v u : Value) (l m : List Int) (w : World) (h : Ints w v l) (h' : Ints w u m) :
    Calls Try.prog 11 #[v, u] w fun e w' => e = .returned (.bool (decide (l = m))) ∧ Below w.heap.size w w' := by
  obtain ⟨ao, cap, rfl, hm, hcs⟩ := h
  obtain ⟨ao', cap', rfl, hm', hcs'⟩ := h'
  go_enter Try.func11, Try.ntmps11
  by_cases hlen : l.length = m.length
  · have HL : Hid (l.length = m.length) := hlen
    obtain ⟨n, HN⟩ : ∃ n, Hid (l.length = n) := ⟨_, (rfl : l.length = l.length)⟩
    rw [← hlen, HN.out]
    have HM : Hid (m.length = n) := by show _ = _; rw [← hlen, HN.out]
    have hnm : n ≤ 9223372036854775807 := by rw [← HN.out]; exact hm
    have hnn : ((n : Int) != (n : Int)) = false := by simp
    clear hlen hm hm'
    go_wp2_with fail
    go_loopw [13] (fun i wr => ∃ q : Nat, q ≤ n ∧ i = .int .i64 (q : Int) ∧ Hid (∀ i (hi : i < l.length) (hi' : i < m.length), i < q → l[i] = m[i]) ∧ Below w.heap.size w wr) (fun i _ => n - (intOf i).toNat)
    case atStart => exact ⟨0, by omega, rfl, fun i _ _ hi => by omega, Below.refl _ _⟩
    case round =>
      obtain ⟨q, hq, rfl, HA, hbel⟩ := hrel
      by_cases hlt : q < n
      · have hl1 : q < l.length := by rw [HN.out]; exact hlt
        have hl2 : q < m.length := by rw [HM.out]; exact hlt
        obtain ⟨b, o, rfl, hb, hc⟩ := hcs.resolve_left (by intro e; subst e; simp at hl1)
        obtain ⟨b', o', rfl, hb', hc'⟩ := hcs'.resolve_left (by intro e; subst e; simp at hl2)
        have c0 : wr.cell? ⟨b, o + q, none⟩ = _ := (hbel.cell (p := ⟨b, o + q, none⟩) hb).trans (hc q hl1)
        have c1 : wr.cell? ⟨b', o' + q, none⟩ = _ := (hbel.cell (p := ⟨b', o' + q, none⟩) hb').trans (hc' q hl2)
        obtain ⟨z, HZ⟩ : ∃ z, Hid (l[q] = z) := ⟨_, (rfl : l[q] = l[q])⟩
        obtain ⟨y, HY⟩ : ∃ y, Hid (m[q] = y) := ⟨_, (rfl : m[q] = m[q])⟩
        rw [HZ.out] at c0
        rw [HY.out] at c1
        have hk1 : (q : Int) < (n : Int) := by omega
        clear hcs hc hcs' hc'
        by_cases h1 : z = y
        · have hb1 : (z != y) = false := by simp; exact h1
          have H1 : Hid (z = y) := h1
          clear h1
          go_wp2_with (go_quiet (fail))
          go_roundw
          case rel =>
            refine ⟨q + 1, by omega, by go_num, fun i hi hi' h2 => ?_, below_drewN hbel nq⟩
            by_cases e : i = q
            · subst e; rw [HZ.out, HY.out, H1.out]
            · exact HA.out i hi hi' (by omega)
          case measure => simp [intOf]; omega
        · have hb1 : (z != y) = true := by simp; exact h1
          have HD : Hid (decide (l = m) = false) := by
            show _ = _
            apply decide_eq_false
            intro e
            subst e
            exact h1 (by rw [← HZ.out, ← HY.out])
          go_wp2_with (go_quiet (fail))
          go_ret
          exact ⟨by rw [HD.out]; rfl, below_drewN hbel nq⟩
      · go_wp2_with fail
        go_ret
        refine ⟨?_, hbel⟩
        have e : l = m := List.ext_getElem HL.out fun i h1 h2 => HA.out i h1 h2 (by rw [HN.out] at h1; omega)
        rw [decide_eq_true e]; rfl
  · have HD : Hid (decide (l = m) = false) := by
      show _ = _
      apply decide_eq_false
      intro e; subst e; exact hlen rfl
    have hnn : ((l.length : Int) != (m.length : Int)) = true := by simp; omega
    go_wp2_with fail
    go_ret
    exact ⟨by rw [HD.out]; rfl, Below.refl _ _⟩


theorem neq44 (a b c d : Int) (w : World) : (binOp .neq 44 (.agg #[.int .i64 a, .int .i64 b]) (.agg #[.int .i64 c, .int .i64 d])).run Try.prog w = .ok (.bool (!decide ((a, b) = (c, d)))) w := by
  have u3 := Try.underlying3
  have u44 := Try.underlying44
  rw [run_neq_struct, show (10000 : Nat) = 9999 + 1 from rfl, run_equalIn_struct w 9999 44 _ _ (by kernel_rfl) (by kernel_rfl)]
  by_cases h0 : a = c
  · subst h0
    by_cases h1 : b = d
    · subst h1
      simp [go_sem, u44, u3]
    · simp [go_sem, u44, u3, h1]
  · simp [go_sem, u44, u3, h0]
set_option maxHeartbeats 1600000 in
set_option maxRecDepth 20000 in
theorem equalS_any (v u : Value) (l m : List Sy) (w : World) (h : Syms w v l) (h' : Syms w u m) :
    Calls Try.prog 18 #[v, u] w fun e w' => e = .returned (.bool (decide (l = m))) ∧ Below w.heap.size w w' := by
  obtain ⟨ao, cap, rfl, hm, hcs⟩ := h
  obtain ⟨ao', cap', rfl, hm', hcs'⟩ := h'
  go_enter Try.func18, Try.ntmps18
  by_cases hlen : l.length = m.length
  · have HL : Hid (l.length = m.length) := hlen
    obtain ⟨n, HN⟩ : ∃ n, Hid (l.length = n) := ⟨_, (rfl : l.length = l.length)⟩
    rw [← hlen, HN.out]
    have HM : Hid (m.length = n) := by show _ = _; rw [← hlen, HN.out]
    have hnm : n ≤ 9223372036854775807 := by rw [← HN.out]; exact hm
    have hnn : ((n : Int) != (n : Int)) = false := by simp
    clear hlen hm hm'
    go_wp2_with fail
    go_loopw [13] (fun i wr => ∃ q : Nat, q ≤ n ∧ i = .int .i64 (q : Int) ∧ Hid (∀ i (hi : i < l.length) (hi' : i < m.length), i < q → l[i] = m[i]) ∧ Below w.heap.size w wr) (fun i _ => n - (intOf i).toNat)
    case atStart => exact ⟨0, by omega, rfl, fun i _ _ hi => by omega, Below.refl _ _⟩
    case round =>
      obtain ⟨q, hq, rfl, HA, hbel⟩ := hrel
      by_cases hlt : q < n
      · have hl1 : q < l.length := by rw [HN.out]; exact hlt
        have hl2 : q < m.length := by rw [HM.out]; exact hlt
        obtain ⟨b, o, rfl, hb, hc⟩ := hcs.resolve_left (by intro e; subst e; simp at hl1)
        obtain ⟨b', o', rfl, hb', hc'⟩ := hcs'.resolve_left (by intro e; subst e; simp at hl2)
        obtain ⟨e0, e1⟩ := hc q hl1
        obtain ⟨f0, f1⟩ := hc' q hl2
        have c0 : wr.cell? ⟨b, o + q * 2, none⟩ = _ := (hbel.cell (p := ⟨b, o + q * 2, none⟩) hb).trans e0
        have c1 : wr.cell? ⟨b, o + q * 2 + 1, none⟩ = _ := (hbel.cell (p := ⟨b, o + q * 2 + 1, none⟩) hb).trans e1
        have c2 : wr.cell? ⟨b', o' + q * 2, none⟩ = _ := (hbel.cell (p := ⟨b', o' + q * 2, none⟩) hb').trans f0
        have c3 : wr.cell? ⟨b', o' + q * 2 + 1, none⟩ = _ := (hbel.cell (p := ⟨b', o' + q * 2 + 1, none⟩) hb').trans f1
        obtain ⟨z, HZ⟩ : ∃ z, Hid (l[q] = z) := ⟨_, (rfl : l[q] = l[q])⟩
        obtain ⟨y, HY⟩ : ∃ y, Hid (m[q] = y) := ⟨_, (rfl : m[q] = m[q])⟩
        rw [HZ.out] at c0 c1
        rw [HY.out] at c2 c3
        obtain ⟨z0, z1⟩ := z
        obtain ⟨y0, y1⟩ := y
        simp only at c0 c1 c2 c3
        have hk1 : (q : Int) < (n : Int) := by omega
        clear hcs hc hcs' hc' e0 e1 f0 f1
        have HNE : Hid (∀ W : World, (binOp .neq 44 (.agg #[.int .i64 z0, .int .i64 z1]) (.agg #[.int .i64 y0, .int .i64 y1])).run Try.prog W = .ok (.bool (!decide ((z0, z1) = (y0, y1)))) W) := neq44 z0 z1 y0 y1
        have hne44 := HNE.out
        by_cases h1 : (z0, z1) = (y0, y1)
        · have H1 : Hid ((z0, z1) = (y0, y1)) := h1
          rw [decide_eq_true h1] at hne44
          clear h1 HNE
          go_wp2_with (go_quiet (fail))
          go_roundw
          case rel =>
            refine ⟨q + 1, by omega, by go_num, fun i hi hi' h2 => ?_, below_drewN hbel nq⟩
            by_cases e : i = q
            · subst e; rw [HZ.out, HY.out, H1.out]
            · exact HA.out i hi hi' (by omega)
          case measure => simp [intOf]; omega
        · have HD : Hid (decide (l = m) = false) := by
            show _ = _
            apply decide_eq_false
            intro e
            subst e
            exact h1 (by rw [← HZ.out, ← HY.out])
          rw [decide_eq_false h1] at hne44
          clear HNE h1
          go_wp2_with (go_quiet (fail))
          go_ret
          exact ⟨by rw [HD.out]; rfl, below_drewN hbel nq⟩
      · go_wp2_with fail
        go_ret
        refine ⟨?_, hbel⟩
        have e : l = m := List.ext_getElem HL.out fun i h1 h2 => HA.out i h1 h2 (by rw [HN.out] at h1; omega)
        rw [decide_eq_true e]; rfl
  · have HD : Hid (decide (l = m) = false) := by
      show _ = _
      apply decide_eq_false
      intro e; subst e; exact hlen rfl
    have hnn : ((l.length : Int) != (m.length : Int)) = true := by simp; omega
    go_wp2_with fail
    go_ret
    exact ⟨by rw [HD.out]; rfl, Below.refl _ _⟩



/-- What Of tells: the error, the numbers. -/
def ofE (t n : Int) (ps : List Pd) (x : Int) : Int := if chk t n ps = 0 then (if okN n x = true then 0 else 1) else chk t n ps
def ofR (t n : Int) (ps : List Pd) (x : Int) : List Int := if ofE t n ps x = 0 then ofL ps x else []
set_option maxHeartbeats 3200000 in
set_option maxRecDepth 20000 in
theorem Of_any (t n : Int) (pv : Value) (ps : List Pd) (x : Int) (w : World) (h : Pds w pv ps) :
    Calls Try.prog 6 #[.agg #[.int .i64 t, .int .i64 n, pv], .int .i64 x] w fun e w' => ∃ v, e = .returned (.tuple #[v, .int .i64 (ofE t n ps x)]) ∧ Ints w' v (ofR t n ps x) ∧ Below w.heap.size w w' := by
  obtain ⟨i0, hi, hz0, hz1, hz2⟩ := info_parts info3
  have HG0 : Hid (Gb w w.heap.size t n pv ps (w.alloc (Obj.cells #[.int .i64 t, .int .i64 n, pv] 24))) := Gb.box h t n
  obtain ⟨ao, c, rfl, hm, hcs⟩ := h
  obtain ⟨er, HE⟩ : ∃ er, Hid (ofE t n ps x = er) := ⟨_, (rfl : ofE t n ps x = ofE t n ps x)⟩
  obtain ⟨L, HL⟩ : ∃ L, Hid (ofR t n ps x = L) := ⟨_, (rfl : ofR t n ps x = ofR t n ps x)⟩
  rw [HE.out, HL.out]
  obtain ⟨r, HR⟩ : ∃ r, Hid (chk t n ps = r) := ⟨_, (rfl : chk t n ps = chk t n ps)⟩
  obtain ⟨k, HK⟩ : ∃ k, Hid (okN n x = k) := ⟨_, (rfl : okN n x = okN n x)⟩
  go_enter Try.func6, Try.ntmps6
  go_wp2_with fail
  have hc := Check_any t n _ ps _ HG0.out.pds
  rw [HR.out] at hc
  refine hc.mono ?_
  rintro _ w1 ⟨rfl, hb⟩
  have HG1 : Hid (Gb w w.heap.size t n (.slice ao ps.length c) ps w1) := HG0.out.next hb
  clear hc hb HG0
  by_cases h0 : r = 0
  · subst h0
    have z0 := HG1.out.c0
    have z1 := HG1.out.c1
    have z2 := HG1.out.c2
    go_wp2_with fail
    clear z0 z1 z2
    have hc := isNon_any t n ao ps.length c x w1
    rw [HK.out] at hc
    refine hc.mono ?_
    rintro _ w2 ⟨rfl, hb⟩
    have HG2 : Hid (Gb w w.heap.size t n (.slice ao ps.length c) ps w2) := HG1.out.next hb
    clear hc hb HG1
    cases k with
    | false =>
      obtain rfl : er = 1 := by rw [← HE.out]; unfold ofE; rw [if_pos HR.out, HK.out]; rfl
      obtain rfl : L = [] := by rw [← HL.out]; unfold ofR; rw [HE.out]; rfl
      go_wp2_with fail
      go_ret2
      exact ⟨_, rfl, ints_nil _, HG2.out.below⟩
    | true =>
      obtain rfl : er = 0 := by rw [← HE.out]; unfold ofE; rw [if_pos HR.out, HK.out]; rfl
      obtain rfl : L = ofL ps x := by rw [← HL.out]; unfold ofR; rw [HE.out]; rfl
      have z2 := HG2.out.c2
      have HPL : Hid (ps.length ≤ 40) := (chk_zero HR.out).2.1
      go_wp2_with fail
      clear z2
      go_loopw [22, 7] (fun i v wr => ∃ q : Nat, q ≤ ps.length ∧ i = .int .i64 (q : Int) ∧ wr.ownsRow w2.heap.size 3 1 v (ofQ ps x q).length ((ofQ ps x q).map (Value.int .i64)) ∧ Below w2.heap.size w2 wr) (fun i _ _ => ps.length - (intOf i).toNat)
      case atStart => exact ⟨0, by omega, rfl, World.ownsRow_nil _ _ _ _, Below.refl _ _⟩
      case round =>
        obtain ⟨q, hq, rfl, hown, hbel⟩ := hrel
        have hsb := hbel.size
        by_cases hlt : q < ps.length
        · obtain ⟨b, o, rfl, hb, hc⟩ := hcs.resolve_left (by intro e; subst e; simp at hlt)
          have hbw : Below w.heap.size w wr := (HG2.out.next hbel).below
          obtain ⟨d0, u, d1, hsy⟩ := hc q hlt
          have HQS : Hid (ofQ ps x (q + 1) = ofQ ps x q ++ (if ps[q].1 = x then [(q : Int)] else [])) := ofQ_step ps x q hlt
          have hql := ofQ_length ps x q
          obtain ⟨uo, uc, rfl, hum, -⟩ := hsy
          generalize ps[q].1 = y at d0 HQS
          generalize ps[q].2 = l at d1 hum
          replace d0 : wr.cell? ⟨b, o + q * 2, none⟩ = _ := (hbw.cell (p := ⟨b, o + q * 2, none⟩) hb).trans d0
          replace d1 : wr.cell? ⟨b, o + q * 2 + 1, none⟩ = _ := (hbw.cell (p := ⟨b, o + q * 2 + 1, none⟩) hb).trans d1
          have hk1 : (q : Int) < (ps.length : Int) := by omega
          have HBA : Hid (Below w2.heap.size w2 (wr.alloc (Obj.cells #[.int .i64 y, .slice uo l.length uc] 36)) ∧ w2.heap.size ≤ (wr.alloc (Obj.cells #[.int .i64 y, .slice uo l.length uc] 36)).heap.size) := ⟨hbel.alloc hsb _, (hbel.alloc hsb _).size⟩
          have HOA : Hid ((wr.alloc (Obj.cells #[.int .i64 y, .slice uo l.length uc] 36)).ownsRow w2.heap.size 3 1 _ (ofQ ps x q).length ((ofQ ps x q).map (Value.int .i64))) := hown.alloc _
          clear hc hcs hbw
          by_cases hy : y = x
          · have hyb : (y == x) = true := by simp; exact hy
            rw [if_pos hy] at HQS
            clear hy
            go_upto_region 11 with (fail)
            clear d0 d1 hyb hown hbel hsb
            generalize wr.alloc (Obj.cells #[.int .i64 y, .slice uo l.length uc] 36) = wa at HBA HOA ⊢
            have hown := HOA.out
            have hsa := HBA.out.2
            have HPL2 := HPL.out
            go_wp2_with (at_builtin; refine wpList_append_own _ rfl _ _ 27 rfl w2.heap.size 3 i0 (.int .i64 0) 1 8 Try.underlying27 hi hz0 hz1 hz2 rfl (by decide) _ _ _ rfl (hown.alloc _) ⟨wa.heap.size, 0, none⟩ 1 1 [.int .i64 (q : Int)] rfl rfl (World.news_of_block (t := 3) (fr := (0, 0)) (heap_alloc_new wa _)) (by simp [Value.oneCell']) (by unfold maxLen; omega) (by omega) (by simp; omega) ?_)
            intro v' w3 hown' hgrow _
            have R1 : w3.ownsRow w2.heap.size 3 1 v' (ofQ ps x (q + 1)).length ((ofQ ps x (q + 1)).map (Value.int .i64)) := by rw [HQS.out, List.length_append, List.map_append]; exact hown'
            have R2 : Below w2.heap.size w2 w3 := Below.grown (HBA.out.1.alloc hsa _) hgrow (by simp; omega) (own_ge hown)
            clear hown' hgrow hown HOA
            go_wp2_with fail
            go_roundw
            case rel => exact ⟨q + 1, by omega, by go_num, R1, R2⟩
            case measure => simp [intOf]; omega
          · have hyb : (y == x) = false := by simp; exact hy
            rw [if_neg hy, List.append_nil] at HQS
            clear hy
            go_wp2_with fail
            go_roundw
            case rel => exact ⟨q + 1, by omega, by go_num, by rw [HQS.out]; exact HOA.out, HBA.out.1⟩
            case measure => simp [intOf]; omega
        · have hql := ofQ_length ps x q
          have HPL2 := HPL.out
          have HI : Hid (Ints wr u7 (ofL ps x)) := by
            have e : q = ps.length := by omega
            subst e
            exact ints_of_own hown (by unfold ofL; omega)
          have HBB : Hid (Below w.heap.size w wr) := (HG2.out.next hbel).below
          obtain ⟨a', m', c', rfl⟩ := own_form hown
          go_wp2_with fail
          go_ret2
          exact ⟨_, rfl, HI.out, HBB.out⟩
  · have h0b : (r != 0) = true := by simp; exact h0
    obtain rfl : er = r := by rw [← HE.out]; unfold ofE; rw [HR.out, if_neg h0]
    obtain rfl : L = [] := by rw [← HL.out]; unfold ofR; rw [HE.out, if_neg h0]
    clear h0
    go_wp2_with fail
    go_ret2
    exact ⟨_, rfl, ints_nil _, HG1.out.below⟩
end Go.Proofs.Ytgoafahglajfmaa
