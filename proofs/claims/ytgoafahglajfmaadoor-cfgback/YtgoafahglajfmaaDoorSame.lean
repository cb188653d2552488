/-
  The contracts of slices.Equal at symbols and of pushref.SameGrammar at two that are the same; rows of structs of one's own.
-/
import Derived.Test.YtgoafahglajfmaaDoorCheck
import Derived.Test.YtgoafahglajfmaaDoorFree
import Derived.Laws.StructEq
import Derived.ChangeKeysEq
import Derived.Deep.Cut
namespace Go.Proofs.YtgoafahglajfmaaDoor
open Go.RowKit
open Cg

theorem neq44 (a b c d : Int) (w : World) : (binOp .neq 42 (.agg #[.int .i64 a, .int .i64 b]) (.agg #[.int .i64 c, .int .i64 d])).run Tryd.prog w = .ok (.bool (!decide ((a, b) = (c, d)))) w := by
  have u3 := Tryd.underlying3
  have u44 := Tryd.underlying42
  rw [run_neq_struct, show (10000 : Nat) = 9999 + 1 from rfl, run_equalIn_struct w 9999 42 _ _ (by kernel_rfl) (by kernel_rfl)]
  by_cases h0 : a = c
  · subst h0
    by_cases h1 : b = d
    · subst h1
      simp [go_sem, u44, u3]
    · simp [go_sem, u44, u3, h1]
  · simp [go_sem, u44, u3, h0]
set_option maxHeartbeats 1600000 in
set_option maxRecDepth 20000 in
theorem equalS_any (v u : Value) (l m : List Sy) (w : World) (h : Syms w v l) (h' : Syms w u m) :
    Calls Tryd.prog 24 #[v, u] w fun e w' => e = .returned (.bool (decide (l = m))) ∧ Below w.heap.size w w' := by
  obtain ⟨ao, cap, rfl, hm, hcs⟩ := h
  obtain ⟨ao', cap', rfl, hm', hcs'⟩ := h'
  go_enter Tryd.func24, Tryd.ntmps24
  by_cases hlen : l.length = m.length
  · have HL : Hid (l.length = m.length) := hlen
    obtain ⟨n, HN⟩ : ∃ n, Hid (l.length = n) := ⟨_, (rfl : l.length = l.length)⟩
    rw [← hlen, HN.out]
    have HM : Hid (m.length = n) := by show _ = _; rw [← hlen, HN.out]
    have hnm : n ≤ 9223372036854775807 := by rw [← HN.out]; exact hm
    have hnn : ((n : Int) != (n : Int)) = false := by simp
    clear hlen hm hm'
    go_wp2_with fail
    go_loopw [13] (fun i wr => ∃ q : Nat, q ≤ n ∧ i = .int .i64 (q : Int) ∧ Hid (∀ i (hi : i < l.length) (hi' : i < m.length), i < q → l[i] = m[i]) ∧ Below w.heap.size w wr) (fun i _ => n - (intOf i).toNat)
    case atStart => exact ⟨0, by omega, rfl, fun i _ _ hi => by omega, Below.refl _ _⟩
    case round =>
      obtain ⟨q, hq, rfl, HA, hbel⟩ := hrel
      by_cases hlt : q < n
      · have hl1 : q < l.length := by rw [HN.out]; exact hlt
        have hl2 : q < m.length := by rw [HM.out]; exact hlt
        obtain ⟨b, o, rfl, hb, hc⟩ := hcs.resolve_left (by intro e; subst e; simp at hl1)
        obtain ⟨b', o', rfl, hb', hc'⟩ := hcs'.resolve_left (by intro e; subst e; simp at hl2)
        obtain ⟨e0, e1⟩ := hc q hl1
        obtain ⟨f0, f1⟩ := hc' q hl2
        have c0 : wr.cell? ⟨b, o + q * 2, none⟩ = _ := (hbel.cell (p := ⟨b, o + q * 2, none⟩) hb).trans e0
        have c1 : wr.cell? ⟨b, o + q * 2 + 1, none⟩ = _ := (hbel.cell (p := ⟨b, o + q * 2 + 1, none⟩) hb).trans e1
        have c2 : wr.cell? ⟨b', o' + q * 2, none⟩ = _ := (hbel.cell (p := ⟨b', o' + q * 2, none⟩) hb').trans f0
        have c3 : wr.cell? ⟨b', o' + q * 2 + 1, none⟩ = _ := (hbel.cell (p := ⟨b', o' + q * 2 + 1, none⟩) hb').trans f1
        obtain ⟨z, HZ⟩ : ∃ z, Hid (l[q] = z) := ⟨_, (rfl : l[q] = l[q])⟩
        obtain ⟨y, HY⟩ : ∃ y, Hid (m[q] = y) := ⟨_, (rfl : m[q] = m[q])⟩
        rw [HZ.out] at c0 c1
        rw [HY.out] at c2 c3
        obtain ⟨z0, z1⟩ := z
        obtain ⟨y0, y1⟩ := y
        simp only at c0 c1 c2 c3
        have hk1 : (q : Int) < (n : Int) := by omega
        clear hcs hc hcs' hc' e0 e1 f0 f1
        have HNE : Hid (∀ W : World, (binOp .neq 42 (.agg #[.int .i64 z0, .int .i64 z1]) (.agg #[.int .i64 y0, .int .i64 y1])).run Tryd.prog W = .ok (.bool (!decide ((z0, z1) = (y0, y1)))) W) := neq44 z0 z1 y0 y1
        have hne44 := HNE.out
        by_cases h1 : (z0, z1) = (y0, y1)
        · have H1 : Hid ((z0, z1) = (y0, y1)) := h1
          rw [decide_eq_true h1] at hne44
          clear h1 HNE
          go_wp2_with (go_quiet (fail))
          go_roundw
          case rel =>
            refine ⟨q + 1, by omega, by go_num, fun i hi hi' h2 => ?_, below_drewN hbel nq⟩
            by_cases e : i = q
            · subst e; rw [HZ.out, HY.out, H1.out]
            · exact HA.out i hi hi' (by omega)
          case measure => simp [intOf]; omega
        · have HD : Hid (decide (l = m) = false) := by
            show _ = _
            apply decide_eq_false
            intro e
            subst e
            exact h1 (by rw [← HZ.out, ← HY.out])
          rw [decide_eq_false h1] at hne44
          clear HNE h1
          go_wp2_with (go_quiet (fail))
          go_ret
          exact ⟨by rw [HD.out]; rfl, below_drewN hbel nq⟩
      · go_wp2_with fail
        go_ret
        refine ⟨?_, hbel⟩
        have e : l = m := List.ext_getElem HL.out fun i h1 h2 => HA.out i h1 h2 (by rw [HN.out] at h1; omega)
        rw [decide_eq_true e]; rfl
  · have HD : Hid (decide (l = m) = false) := by
      show _ = _
      apply decide_eq_false
      intro e; subst e; exact hlen rfl
    have hnn : ((l.length : Int) != (m.length : Int)) = true := by simp; omega
    go_wp2_with fail
    go_ret
    exact ⟨by rw [HD.out]; rfl, Below.refl _ _⟩



theorem Syms.same {w w' : World} {v : Value} {l : List Sy} (h : Syms w v l) (hs : ∀ q, v.ownBlock = some q → w'.heap[q]? = w.heap[q]?) (hz : w.heap.size ≤ w'.heap.size) : Syms w' v l := by
  obtain ⟨ao, cap, rfl, hm, h | ⟨b, o, rfl, h2, h3⟩⟩ := h
  · exact ⟨ao, cap, rfl, hm, Or.inl h⟩
  · refine ⟨_, cap, rfl, hm, Or.inr ⟨b, o, rfl, by omega, fun i hi => ?_⟩⟩
    have e : ∀ k, w'.cell? ⟨b, k, none⟩ = w.cell? ⟨b, k, none⟩ := fun k => World.cell?_of_block (w := w) (hs b rfl)
    exact ⟨(e _).trans (h3 i hi).1, (e _).trans (h3 i hi).2⟩
theorem cell_blk {w : World} {g : Nat} {cs : Array Value} {t : TypeId} (h : w.heap[g]? = some (.cells cs t)) (i : Nat) : w.cell? ⟨g, i, none⟩ = cs[i]? := by
  unfold World.cell?
  simp only [h]
  rfl
theorem frozen_blk {w : World} {g : Nat} {cs : Array Value} {t : TypeId} (h : w.heap[g]? = some (.cells cs t)) (i : Nat) : w.frozen? ⟨g, i, none⟩ = false := by
  simp [World.frozen?, h]
theorem box_next {w w' : World} {k : Nat} {o : Obj} (h : w.heap[k]? = some o) (hb : Below w.heap.size w w') : w'.heap[k]? = some o := by
  have hlt : k < w.heap.size := by
    rcases Nat.lt_or_ge k w.heap.size with h' | h'
    · exact h'
    · rw [Array.getElem?_eq_none h'] at h; cases h
  rw [hb.block k hlt]; exact h
theorem block_store {w : World} {g i : Nat} {cs : Array Value} {t : TypeId} {fr : Nat × Nat} (h : w.heap[g]? = some (.cells cs t fr)) (v : Value) : (w.setCell ⟨g, i, none⟩ v).heap[g]? = some (.cells (cs.setIfInBounds i v) t fr) := by
  simp [World.setCell, Array.getElem?_modify, h]
theorem Gb.elder {w w1 : World} {g : Nat} {t n : Int} {pv : Value} {ps : List Pd} {W : World} (h : Gb w1 g t n pv ps W) (hb : Below w.heap.size w w1) : Gb w g t n pv ps W :=
  ⟨hb.trans (h.below.mono hb.size), h.lt, Nat.le_trans hb.size h.ge, h.c0, h.c1, h.c2, h.pds⟩
set_option maxHeartbeats 4000000 in
set_option maxRecDepth 20000 in
theorem same_true (t n : Int) (pv pv2 : Value) (ps : List Pd) (w : World) (h : Pds w pv ps) (h2 : Pds w pv2 ps) :
    Calls Tryd.prog 11 #[.agg #[.int .i64 t, .int .i64 n, pv], .agg #[.int .i64 t, .int .i64 n, pv2]] w fun e w' => e = .returned (.bool true) ∧ Below w.heap.size w w' := by
  obtain ⟨ao, c, rfl, hm, hcs⟩ := h
  obtain ⟨ao2, c2, rfl, -, hcs2⟩ := h2
  have HG0 : Hid (Gb w w.heap.size t n (.slice ao ps.length c) ps ((w.alloc (Obj.cells #[.int .i64 t, .int .i64 n, .slice ao ps.length c] 24)).alloc (Obj.cells #[.int .i64 t, .int .i64 n, .slice ao2 ps.length c2] 24))) := (Gb.box ⟨ao, c, rfl, hm, hcs⟩ t n).next (below_alloc _ _)
  have HH0 : Hid (Gb w (w.heap.size + 1) t n (.slice ao2 ps.length c2) ps ((w.alloc (Obj.cells #[.int .i64 t, .int .i64 n, .slice ao ps.length c] 24)).alloc (Obj.cells #[.int .i64 t, .int .i64 n, .slice ao2 ps.length c2] 24))) := by
    have e := Gb.box (w := w.alloc (Obj.cells #[.int .i64 t, .int .i64 n, .slice ao ps.length c] 24)) (Pds.below (w := w) ⟨ao2, c2, rfl, hm, hcs2⟩ (below_alloc _ _)) t n
    rw [show (w.alloc (Obj.cells #[.int .i64 t, .int .i64 n, .slice ao ps.length c] 24)).heap.size = w.heap.size + 1 by simp] at e
    exact e.elder (below_alloc _ _)
  have b1 : (t != t) = false := by simp
  have b2 : (n != n) = false := by simp
  have b3 : ((ps.length : Int) != (ps.length : Int)) = false := by simp
  go_enter Tryd.func11, Tryd.ntmps11
  go_wp2_with fail
  clear b1 b2 b3
  generalize (w.alloc (Obj.cells #[.int .i64 t, .int .i64 n, .slice ao ps.length c] 24)).alloc (Obj.cells #[.int .i64 t, .int .i64 n, .slice ao2 ps.length c2] 24) = wb at HG0 HH0 ⊢
  go_loopw [5] (fun i wr => ∃ q : Nat, q ≤ ps.length ∧ i = .int .i64 (q : Int) ∧ Hid (Gb w w.heap.size t n (.slice ao ps.length c) ps wr ∧ Gb w (w.heap.size + 1) t n (.slice ao2 ps.length c2) ps wr)) (fun i _ => ps.length - (intOf i).toNat)
  case atStart => exact ⟨0, by omega, rfl, HG0.out, HH0.out⟩
  case round =>
    obtain ⟨q, hq, rfl, HG⟩ := hrel
    clear HG0 HH0
    have z2 := HG.out.1.c2
    by_cases hlt : q < ps.length
    · obtain ⟨b, o, rfl, hb, hc⟩ := hcs.resolve_left (by intro e; subst e; simp at hlt)
      obtain ⟨b2, o2, rfl, hb2, hc2⟩ := hcs2.resolve_left (by intro e; subst e; simp at hlt)
      obtain ⟨d0, u, d1, hsy⟩ := hc q hlt
      obtain ⟨f0, u2, f1, hsy2⟩ := hc2 q hlt
      generalize ps[q].1 = x at d0 f0
      generalize ps[q].2 = l at hsy hsy2
      have hbw : Below w.heap.size w wr := HG.out.1.below
      have hxx : (x != x) = false := by simp
      have HCA : Hid (∀ p_1 : Kp (Sb wr), Calls Tryd.prog 24 #[u, u2] p_1.W fun e w'' => e = .returned (.bool true) ∧ ∃ q : Kp (Sb wr), w'' = q.W) := fun p_1 => by
        have := equalS_any u u2 l l p_1.W ((hsy.below hbw).below p_1.h) ((hsy2.below hbw).below p_1.h)
        rw [decide_eq_true rfl] at this
        exact Kp.calls p_1 Sb.next this
      have m2 : ∀ p_1 : Kp (Sb wr), p_1.W.cell? ⟨w.heap.size, 2, none⟩ = some (.slice (some ⟨b, o, none⟩) ps.length c) := fun p_1 => (Below.cell p_1.h (p := ⟨w.heap.size, 2, none⟩) HG.out.1.lt).trans z2
      have m3 : ∀ p_1 : Kp (Sb wr), p_1.W.cell? ⟨w.heap.size + 1, 2, none⟩ = some (.slice (some ⟨b2, o2, none⟩) ps.length c2) := fun p_1 => (Below.cell p_1.h (p := ⟨w.heap.size + 1, 2, none⟩) HG.out.2.lt).trans HG.out.2.c2
      have hbs := hbw.size
      have m4 : ∀ p_1 : Kp (Sb wr), p_1.W.cell? ⟨b, o + q * 2, none⟩ = some (.int .i64 x) := fun p_1 => (Below.cell p_1.h (p := ⟨b, o + q * 2, none⟩) (by simp; omega)).trans ((hbw.cell (p := ⟨b, o + q * 2, none⟩) hb).trans d0)
      have m5 : ∀ p_1 : Kp (Sb wr), p_1.W.cell? ⟨b, o + q * 2 + 1, none⟩ = some u := fun p_1 => (Below.cell p_1.h (p := ⟨b, o + q * 2 + 1, none⟩) (by simp; omega)).trans ((hbw.cell (p := ⟨b, o + q * 2 + 1, none⟩) hb).trans d1)
      have m6 : ∀ p_1 : Kp (Sb wr), p_1.W.cell? ⟨b2, o2 + q * 2, none⟩ = some (.int .i64 x) := fun p_1 => (Below.cell p_1.h (p := ⟨b2, o2 + q * 2, none⟩) (by simp; omega)).trans ((hbw.cell (p := ⟨b2, o2 + q * 2, none⟩) hb2).trans f0)
      have m7 : ∀ p_1 : Kp (Sb wr), p_1.W.cell? ⟨b2, o2 + q * 2 + 1, none⟩ = some u2 := fun p_1 => (Below.cell p_1.h (p := ⟨b2, o2 + q * 2 + 1, none⟩) (by simp; omega)).trans ((hbw.cell (p := ⟨b2, o2 + q * 2 + 1, none⟩) hb2).trans f1)
      have hne : Nonempty (Kp (Sb wr)) := ⟨⟨_, Sb.drew wr⟩⟩
      have hk1 : (q : Int) < (ps.length : Int) := by omega
      obtain ⟨uo, uc, rfl, -, -⟩ := hsy
      obtain ⟨uo2, uc2, rfl, -, -⟩ := hsy2
      clear hc hc2 hcs hcs2 d0 d1 f0 f1 hbw hbs
      go_wp2_with fail
      refine wp_region_kept mixed (by kernel_rfl) (Sb.drew wr) ?_
      repeat (go_big_quiet_step (first | (go_at_call 24; with_reducible exact HCA.out _)))
      refine wpQuiet_nil ?_
      intro W2 hw2
      obtain ⟨⟨W2, HS2⟩, rfl⟩ := hw2
      have HG4 : Hid (Gb w w.heap.size t n (.slice (some ⟨b, o, none⟩) ps.length c) ps W2 ∧ Gb w (w.heap.size + 1) t n (.slice (some ⟨b2, o2, none⟩) ps.length c2) ps W2) := ⟨HG.out.1.next HS2, HG.out.2.next HS2⟩
      clear HS2 hne m2 m3 m4 m5 m6 m7 HCA HG z2
      go_wp2_with fail
      go_roundw
      case rel => exact ⟨q + 1, by omega, by go_num, HG4.out⟩
      case measure => simp [intOf]; omega
    · go_wp2_with fail
      go_ret
      exact ⟨by simp, HG.out.1.below⟩
theorem step_call_append {P : Program} {ops : Array Oper} {o : Oper} {a : Act} {K : Act → World → Prop} {Q : Exit → Act → World → Prop} {E : Prop} {W W1 : World} {v sv xv : Value} (hgd : o.guard = none) (s x : Operand) (t : TypeId) (ho : o.op = .call { callee := .builtin .append, args := #[s, x], argTypes := #[t, t] })
    (hs : a.eval s = sv) (hx : a.eval x = xv) (hr : (Builtin.append_ #[t, t] o.type #[sv, xv]).run P W = .ok v W1) (h : K (a.put o.dst v) W1) : if Region.wanted o (yielded ops a.tmps) = true then Oper.wp P o a W K Q else E := by
  have hw : Region.wanted o (yielded ops a.tmps) = true := by simp [Region.wanted, hgd]
  rw [if_pos hw]
  unfold Oper.wp
  simp [execOp, ho, resolve, invoke, builtin, hs, hx, hr, Result.andThen]
  exact h
theorem gb_alloc {w w' : World} {r : Option Nat} (h : w.grownBy w' r) (o : Obj) : w.grownBy (w'.alloc o) r :=
  ⟨h.os, h.tape, h.output, Nat.le_trans h.size (by simp), fun k hk hn => by
    have := h.block k hk hn
    have h2 := h.size
    simp only [World.alloc]
    rw [Array.getElem?_push_lt (by omega)]
    rw [← this, Array.getElem?_eq_getElem (by omega)]⟩
theorem gb_then {w w' w'' : World} {r : Option Nat} (h : w.grownBy w' r) (k : w'.grownBy w'' r) : w.grownBy w'' r :=
  ⟨k.os.trans h.os, k.tape.trans h.tape, k.output.trans h.output, Nat.le_trans h.size k.size, fun i hi hn => (k.block i (Nat.lt_of_lt_of_le hi h.size) hn).trans (h.block i hi hn)⟩
theorem gb_old {w w' : World} {r : Option Nat} (h : w.grownBy w' r) {p : Addr} (hp : p.block < w.heap.size) (hn : some p.block ≠ r) : w'.cell? p = w.cell? p := World.cell?_of_block (h.block _ hp hn)
theorem gb_drew {w w' : World} {r : Option Nat} (h : w.grownBy w' r) : w.grownBy w'.drew r := ⟨h.os, h.tape, h.output, h.size, h.block⟩
/-- The cells of symbols in a row. -/
def scs (l : List Sy) : List Value := l.flatMap fun s => [.int .i64 s.1, .int .i64 s.2]
theorem scs_append (l m : List Sy) : scs (l ++ m) = scs l ++ scs m := by simp [scs]
theorem scs_len (l : List Sy) : (scs l).length = l.length * 2 := by
  induction l with
  | nil => rfl
  | cons s l ih => simp only [scs, List.flatMap_cons, List.length_append, List.length_cons, List.length_nil] at ih ⊢; omega
theorem scs_at (l : List Sy) (i : Nat) (hi : i < l.length) : (scs l)[i * 2]? = some (.int .i64 l[i].1) ∧ (scs l)[i * 2 + 1]? = some (.int .i64 l[i].2) := by
  have e : l = l.take i ++ l[i] :: l.drop (i + 1) := by rw [List.getElem_cons_drop, List.take_append_drop]
  have hl : (scs (l.take i)).length = i * 2 := by rw [scs_len, List.length_take, Nat.min_eq_left (by omega)]
  have hc : ∀ j, j < 2 → (scs l)[i * 2 + j]? = ([.int .i64 l[i].1, .int .i64 l[i].2] : List Value)[j]? := fun j hj => by
    conv => lhs; rw [e]
    rw [scs_append, List.getElem?_append_right (by omega), hl, Nat.add_sub_cancel_left]
    show ([.int .i64 l[i].1, .int .i64 l[i].2] ++ scs (l.drop (i + 1)))[j]? = _
    rw [List.getElem?_append_left (by simp; omega)]
  exact ⟨hc 0 (by omega), hc 1 (by omega)⟩
theorem syms_of_own {w : World} {base : Nat} {v : Value} {l : List Sy} (h : w.ownsRow base 42 2 v l.length (scs l)) (hm : l.length ≤ 9223372036854775807) : Syms w v l := by
  obtain ⟨hl, ⟨h1, h2⟩ | ⟨g, cap, cur, hv, hg, hh, hn, hc, hs, ht⟩⟩ := h
  · exact ⟨none, 0, by rw [h1, h2], hm, Or.inl (List.length_eq_zero_iff.1 h2)⟩
  · refine ⟨some ⟨g, 0, none⟩, cap, hv, hm, Or.inr ⟨g, 0, rfl, ?_, fun i hi => ?_⟩⟩
    · rcases Nat.lt_or_ge g w.heap.size with h' | h'
      · exact h'
      · simp [Array.getElem?_eq_none h'] at hh
    · obtain ⟨f0, f1⟩ := scs_at l i hi
      have e : ∀ j, j < 2 → w.cell? ⟨g, 0 + i * 2 + j, none⟩ = (scs l)[i * 2 + j]? := fun j hj => by
        have e1 : w.cell? ⟨g, 0 + i * 2 + j, none⟩ = cur[i * 2 + j]? := by simp [World.cell?, hh]
        rw [e1, ← ht, List.getElem?_take_of_lt (by omega)]; simp
      exact ⟨(e 0 (by omega)).trans f0, (e 1 (by omega)).trans f1⟩
theorem own_keep {w w' : World} {B : Nat} {e : TypeId} {size : Nat} {v : Value} {n : Nat} {xs : List Value} (h : w.ownsRow B e size v n xs) (hb : ∀ b, v.ownBlock = some b → w'.heap[b]? = w.heap[b]?) : w'.ownsRow B e size v n xs := by
  refine ⟨h.1, h.2.imp id ?_⟩
  rintro ⟨g, cap, cur, rfl, h1, h2, h3⟩
  exact ⟨g, cap, cur, rfl, h1, (hb g rfl).trans h2, h3⟩
theorem own_row {w : World} {base e size n : Nat} {v : Value} {xs : List Value} (h : w.ownsRow base e size v n xs) : ∃ ao c, v = .slice ao n c := by
  rcases h.2 with ⟨hv, h0⟩ | ⟨g, cap, cur, hv, _⟩
  · exact ⟨none, 0, by rw [hv, h0]⟩
  · exact ⟨_, _, hv⟩
end Go.Proofs.YtgoafahglajfmaaDoor
