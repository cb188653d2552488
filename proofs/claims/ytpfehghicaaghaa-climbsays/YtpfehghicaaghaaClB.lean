/-
  The contracts of climb.isOf, climb.check and pushref.RightClimber. The contract of climb.check. A climber's way in memory: its box, what is ahead, its events. No function is walked here.
-/
import Derived.Test.YtpfehghicaaghaaClA
import Derived.Test.YtpfehghicaaghaaLlA
import Derived.Test.YtpfehghicaaghaaWkA
namespace Go.Proofs.Ytpfehghicaaghaa
open Go.RowKit
open Cg

def okC (t n : Int) (ps : List Pd) (l : List Td) (sn : Int) : Bool := decide (l.length ≤ 60) && decide (0 ≤ sn) && decide (sn ≤ 1099511627776) && l.all (okT t n ps)
/-- The boxes of a grammar and of a climber. -/
structure Clb (w0 : World) (g k : Nat) (t n : Int) (pv : Value) (ps : List Pd) (tv : Value) (l : List Td) (sn ov : Int) (dn : Bool) (W : World) : Prop where
  gb : Gb w0 g t n pv ps W
  c : W.heap[k]? = some (.cells #[tv, .int .i64 sn, .int .i64 ov, .bool dn] 43)
  td : Tds W tv l
theorem Clb.next {w0 : World} {g k : Nat} {t n : Int} {pv : Value} {ps : List Pd} {tv : Value} {l : List Td} {sn ov : Int} {dn : Bool} {W W' : World} (h : Clb w0 g k t n pv ps tv l sn ov dn W) (hb : Below W.heap.size W W') : Clb w0 g k t n pv ps tv l sn ov dn W' := ⟨h.gb.next hb, tbox_next h.c hb, h.td.below hb⟩
theorem Clb.box {w : World} {pv tv : Value} {ps : List Pd} {l : List Td} (hp : Pds w pv ps) (ht : Tds w tv l) (t n sn ov : Int) (dn : Bool) : Clb w w.heap.size (w.heap.size + 1) t n pv ps tv l sn ov dn ((w.alloc (Obj.cells #[.int .i64 t, .int .i64 n, pv] 24)).alloc (Obj.cells #[tv, .int .i64 sn, .int .i64 ov, .bool dn] 43)) := by
  refine ⟨(Gb.box hp t n).next (below_alloc _ _), ?_, ht.below (below_alloc2 _ _ _)⟩
  have := heap_alloc2_new w (Obj.cells #[.int .i64 t, .int .i64 n, pv] 24) (Obj.cells #[tv, .int .i64 sn, .int .i64 ov, .bool dn] 43)
  simpa using this
theorem all_at {α : Type} {f : α → Bool} {l : List α} {q : Nat} (h : q < l.length) : (l.drop q).all f = (f l[q] && (l.drop (q + 1)).all f) := by
  rw [List.drop_eq_getElem_cons h, List.all_cons]
set_option maxHeartbeats 6400000 in
set_option maxRecDepth 20000 in
theorem isClm_any (t n : Int) (pv : Value) (ps : List Pd) (tv : Value) (l : List Td) (sn ov : Int) (dn : Bool) (w : World) (hp : Pds w pv ps) (ht : Tds w tv l) :
    Calls Try.prog 75 #[.agg #[.int .i64 t, .int .i64 n, pv], .agg #[tv, .int .i64 sn, .int .i64 ov, .bool dn]] w fun e w' => e = .returned (.bool (okC t n ps l sn)) ∧ Below w.heap.size w w' := by
  have HC : Hid _ := Clb.box hp ht t n sn ov dn
  have HPV : Hid (Pds w pv ps) := hp
  obtain ⟨ao, c, rfl, hm, -⟩ := ht
  obtain ⟨po, pc, rfl, hpm, -⟩ := hp
  obtain ⟨r, HR⟩ : ∃ r, Hid (okC t n ps l sn = r) := ⟨_, (rfl : okC t n ps l sn = _)⟩
  rw [HR.out]
  go_enter Try.func75, Try.ntmps75
  go_upto_region 1 with fail
  generalize ((w.alloc (Obj.cells #[.int .i64 t, .int .i64 n, .slice po ps.length pc] 24)).alloc (Obj.cells #[.slice ao l.length c, .int .i64 sn, .int .i64 ov, .bool dn] 43)) = w1 at HC ⊢
  obtain ⟨g, HG⟩ : ∃ g, Hid (w.heap.size = g) := ⟨_, (rfl : w.heap.size = w.heap.size)⟩
  rw [HG.out] at HC ⊢
  have q0 := tcell_blk HC.out.c 0
  have q1 := tcell_blk HC.out.c 1
  simp only [List.getElem?_toArray, List.getElem?_cons_zero, List.getElem?_cons_succ] at q0 q1
  by_cases h60 : l.length ≤ 60
  · by_cases h0 : 0 ≤ sn
    · by_cases h1 : sn ≤ 1099511627776
      · have HR2 : Hid (l.all (okT t n ps) = r) := by show _ = _; rw [← HR.out]; unfold okC; simp [h60, h0, h1]
        clear HR
        have k60 : (l.length : Int) ≤ 60 := by omega
        go_upto_region 3 with fail
        go_wp2_with fail
        clear q0 q1 h0 h1 k60
        go_loopw [24] (fun i wr => ∃ q : Nat, q ≤ l.length ∧ i = .int .i64 (q : Int) ∧ Hid (l.all (okT t n ps) = (l.drop q).all (okT t n ps)) ∧ Hid (Clb w g (g + 1) t n (.slice po ps.length pc) ps (.slice ao l.length c) l sn ov dn wr)) (fun i _ => l.length - (intOf i).toNat)
        case atStart => exact ⟨0, by omega, rfl, rfl, HC⟩
        case round =>
          obtain ⟨q, hq, rfl, HA, HCR⟩ := hrel
          clear HC
          by_cases hlt : q < l.length
          · obtain ⟨a9, c9, e9, -, hcs⟩ := HCR.out.td
            simp only [Value.slice.injEq] at e9
            obtain ⟨rfl, -, rfl⟩ := e9
            obtain ⟨b, o, rfl, hb, hc⟩ := hcs.resolve_left (by intro e; subst e; simp at hlt)
            obtain ⟨y0, y1, y2, y3⟩ := hc q hlt
            have HAS : Hid (l.all (okT t n ps) = (okT t n ps l[q] && (l.drop (q + 1)).all (okT t n ps))) := by show _ = _; rw [HA.out, all_at hlt]
            have hcall := isTodo_any t n (.slice po ps.length pc) ps l[q] (wr.alloc (Obj.cells #[.bool l[q].1, .int .i64 l[q].2.1, .int .i64 l[q].2.2.1, .int .i64 l[q].2.2.2] 49)) ((HCR.out.next (below_alloc _ _)).gb.pds)
            have HC2 := HCR.out.next (below_alloc wr (Obj.cells #[.bool l[q].1, .int .i64 l[q].2.1, .int .i64 l[q].2.2.1, .int .i64 l[q].2.2.2] 49))
            have HN := heap_alloc_new wr (Obj.cells #[.bool l[q].1, .int .i64 l[q].2.1, .int .i64 l[q].2.2.1, .int .i64 l[q].2.2.2] 49)
            unfold tdv at hcall
            generalize l[q] = x at y0 y1 y2 y3 HAS hcall HC2 HN
            obtain ⟨x0, x1, x2, x3⟩ := x
            simp only at y0 y1 y2 y3 hcall HC2 HN
            obtain ⟨rr, HRR⟩ : ∃ rr, Hid (okT t n ps (x0, x1, x2, x3) = rr) := ⟨_, (rfl : okT t n ps (x0, x1, x2, x3) = _)⟩
            rw [HRR.out] at hcall HAS
            have hk1 : (q : Int) < (l.length : Int) := by omega
            have hk0 : (0 : Int) ≤ (q : Int) := by omega
            have z0 := HC2.gb.c0
            have z1 := HC2.gb.c1
            have z2 := HC2.gb.c2
            have m0 := tcell_blk HN 0
            have m1 := tcell_blk HN 1
            have m2 := tcell_blk HN 2
            have m3 := tcell_blk HN 3
            simp only [List.getElem?_toArray, List.getElem?_cons_zero, List.getElem?_cons_succ] at m0 m1 m2 m3
            have HC3 : Hid _ := HC2
            clear hc hcs HC2 HN HA HRR
            go_wp2_with fail
            refine hcall.mono ?_
            rintro _ w2 ⟨rfl, hb2⟩
            have HC4 := HC3.out.next hb2
            have HC5 : Hid _ := HC4
            clear hcall hb2 HC3 HC4 z0 z1 z2 m0 m1 m2 m3 y0 y1 y2 y3
            cases rr with
            | true =>
              go_wp2_with fail
              go_roundw
              case rel => exact ⟨q + 1, by omega, by go_num, by rw [HAS.out, Bool.true_and]; exact (rfl : _ = _), HC5⟩
              case measure => simp [intOf]; omega
            | false =>
              obtain rfl : r = false := by rw [← HR2.out, HAS.out]; rfl
              go_wp2_with fail
              go_ret
              exact ⟨by simp, HC5.out.gb.below⟩
          · obtain rfl : r = true := by rw [← HR2.out, HA.out, List.drop_of_length_le (by omega)]; rfl
            go_wp2_with fail
            go_ret
            exact ⟨by simp, HCR.out.gb.below⟩
      · obtain rfl : r = false := by rw [← HR.out]; unfold okC; simp [h1]
        clear HR
        have k60 : (l.length : Int) ≤ 60 := by omega
        go_wp2_with fail
        go_ret
        exact ⟨by simp, HC.out.gb.below⟩
    · obtain rfl : r = false := by rw [← HR.out]; unfold okC; simp [h0]
      clear HR
      have k60 : (l.length : Int) ≤ 60 := by omega
      go_wp2_with fail
      go_ret
      exact ⟨by simp, HC.out.gb.below⟩
  · obtain rfl : r = false := by rw [← HR.out]; unfold okC; simp [h60]
    clear HR
    have k60 : ¬ (l.length : Int) ≤ 60 := by omega
    go_wp2_with fail
    go_ret
    exact ⟨by simp, HC.out.gb.below⟩
end Go.Proofs.Ytpfehghicaaghaa

namespace Go.Proofs.Ytpfehghicaaghaa
open Go.RowKit
open Cg

def chkC (t n : Int) (ps : List Pd) (rows : List (List Int)) (l : List Td) (sn ov : Int) (dn ok : Bool) : Int := if chkR t n ps rows = 0 then (if okC t n ps l sn = true then (if ok = true then (if ov = 0 then (if dn = true then 15 else 0) else 15) else 1) else 1) else chkR t n ps rows
def chkD (t n : Int) (ps : List Pd) (rows : List (List Int)) (l : List Td) (sn : Int) : Int := if chkR t n ps rows = 0 then (if okC t n ps l sn = true then 0 else 1) else chkR t n ps rows
set_option maxHeartbeats 6400000 in
set_option maxRecDepth 20000 in
theorem clmCheck_any (t n : Int) (pv : Value) (ps : List Pd) (rv : Value) (rows : List (List Int)) (tv : Value) (l : List Td) (sn ov : Int) (dn ok : Bool) (w : World) (hp : Pds w pv ps) (hr : Rws w rv rows) (ht : Tds w tv l) :
    Calls Try.prog 46 #[.agg #[.int .i64 t, .int .i64 n, pv], rv, .agg #[tv, .int .i64 sn, .int .i64 ov, .bool dn], .bool ok] w fun e w' => e = .returned (.int .i64 (chkC t n ps rows l sn ov dn ok)) ∧ Below w.heap.size w w' := by
  have HC : Hid _ := Clb.box hp ht t n sn ov dn
  have HPV : Hid (Pds w pv ps) := hp
  have HB1 : Hid (Below w.heap.size w ((w.alloc (Obj.cells #[.int .i64 t, .int .i64 n, pv] 24)).alloc (Obj.cells #[tv, .int .i64 sn, .int .i64 ov, .bool dn] 43))) := below_alloc2 _ _ _
  have HRW : Hid (Rws w rv rows) := hr
  have HTD : Hid (Tds w tv l) := ht
  obtain ⟨ao, c, rfl, hm, -⟩ := ht
  obtain ⟨po, pc, rfl, hpm, -⟩ := hp
  obtain ⟨ro, rc, rfl, hrm, -⟩ := hr
  obtain ⟨r, HR⟩ : ∃ r, Hid (chkC t n ps rows l sn ov dn ok = r) := ⟨_, (rfl : chkC t n ps rows l sn ov dn ok = _)⟩
  rw [HR.out]
  go_enter Try.func46, Try.ntmps46
  go_upto_region 1 with fail
  generalize ((w.alloc (Obj.cells #[.int .i64 t, .int .i64 n, .slice po ps.length pc] 24)).alloc (Obj.cells #[.slice ao l.length c, .int .i64 sn, .int .i64 ov, .bool dn] 43)) = w1 at HC HB1 ⊢
  obtain ⟨g, HG⟩ : ∃ g, Hid (w.heap.size = g) := ⟨_, (rfl : w.heap.size = w.heap.size)⟩
  rw [HG.out] at HC ⊢
  have hcall := LCheck_any t n (.slice po ps.length pc) ps (.slice ro rows.length rc) rows w1 (HPV.out.below HB1.out) (HRW.out.below HB1.out)
  obtain ⟨cr, HCR⟩ : ∃ cr, Hid (chkR t n ps rows = cr) := ⟨_, (rfl : chkR t n ps rows = _)⟩
  rw [HCR.out] at hcall
  have z0 := HC.out.gb.c0
  have z1 := HC.out.gb.c1
  have z2 := HC.out.gb.c2
  go_wp2_with fail
  refine hcall.mono ?_
  rintro _ w2 ⟨rfl, hb2⟩
  have HC2 : Hid (Clb w g (g + 1) t n (.slice po ps.length pc) ps (.slice ao l.length c) l sn ov dn w2) := HC.out.next hb2
  clear hcall hb2 z0 z1 z2 HC HB1
  by_cases h0 : cr = 0
  · subst h0
    have HR2 : Hid ((if okC t n ps l sn = true then (if ok = true then (if ov = 0 then (if dn = true then (15 : Int) else 0) else 15) else 1) else 1) = r) := by show _ = _; rw [← HR.out]; unfold chkC; rw [if_pos HCR.out]
    clear HR HCR
    have hcall := isClm_any t n (.slice po ps.length pc) ps (.slice ao l.length c) l sn ov dn w2 HC2.out.gb.pds HC2.out.td
    obtain ⟨oc, HOC⟩ : ∃ oc, Hid (okC t n ps l sn = oc) := ⟨_, (rfl : okC t n ps l sn = _)⟩
    rw [HOC.out] at hcall HR2
    have z0 := HC2.out.gb.c0
    have z1 := HC2.out.gb.c1
    have z2 := HC2.out.gb.c2
    have q0 := tcell_blk HC2.out.c 0
    have q1 := tcell_blk HC2.out.c 1
    have q2 := tcell_blk HC2.out.c 2
    have q3 := tcell_blk HC2.out.c 3
    simp only [List.getElem?_toArray, List.getElem?_cons_zero, List.getElem?_cons_succ] at q0 q1 q2 q3
    go_wp2_with fail
    refine hcall.mono ?_
    rintro _ w3 ⟨rfl, hb3⟩
    have HC3 : Hid (Clb w g (g + 1) t n (.slice po ps.length pc) ps (.slice ao l.length c) l sn ov dn w3) := HC2.out.next hb3
    clear hcall hb3 z0 z1 z2 HC2 q0 q1 q2 q3
    have q2 := tcell_blk HC3.out.c 2
    have q3 := tcell_blk HC3.out.c 3
    simp only [List.getElem?_toArray, List.getElem?_cons_zero, List.getElem?_cons_succ] at q2 q3
    cases oc with
    | false =>
      obtain rfl : r = 1 := by rw [← HR2.out]; rfl
      go_wp2_with fail
      go_ret
      exact ⟨by simp, HC3.out.gb.below⟩
    | true =>
      cases ok with
      | false =>
        obtain rfl : r = 1 := by rw [← HR2.out]; rfl
        go_wp2_with fail
        go_ret
        exact ⟨by simp, HC3.out.gb.below⟩
      | true =>
        by_cases h1 : ov = 0
        · cases dn with
          | true =>
            obtain rfl : r = 15 := by rw [← HR2.out]; simp [h1]
            subst h1
            go_wp2_with fail
            go_ret
            exact ⟨by simp, HC3.out.gb.below⟩
          | false =>
            obtain rfl : r = 0 := by rw [← HR2.out]; simp [h1]
            subst h1
            go_wp2_with fail
            go_ret
            exact ⟨by simp, HC3.out.gb.below⟩
        · obtain rfl : r = 15 := by rw [← HR2.out]; simp [h1]
          have h1' : (ov != 0) = true := by simpa using h1
          go_wp2_with fail
          go_ret
          exact ⟨by simp, HC3.out.gb.below⟩
  · obtain rfl : r = cr := by rw [← HR.out]; unfold chkC; rw [HCR.out, if_neg h0]
    have h0' : (r != 0) = true := by simpa using h0
    clear HR HCR h0
    go_wp2_with fail
    go_ret
    exact ⟨by simp, HC2.out.gb.below⟩
end Go.Proofs.Ytpfehghicaaghaa

namespace Go.Proofs.Ytpfehghicaaghaa
open Go.RowKit
open Cg

def wbx (t n : Int) (pv rv : Value) (col : Int) (tv : Value) (sn : Int) (ev : Value) : Array Value := #[.int .i64 t, .int .i64 n, pv, rv, .int .i64 col, tv, .int .i64 sn, ev]
structure Wb (w0 : World) (g : Nat) (t n : Int) (pv rv : Value) (col sn : Int) (ta : Option Addr) (tn tc : Nat) (ea : Option Addr) (en ec : Nat) (td : List Td) (ev : List Ev) (W : World) : Prop where
  blk : W.heap[g]? = some (.cells #[.int .i64 t, .int .i64 n, pv, rv, .int .i64 col, .slice ta tn tc, .int .i64 sn, .slice ea en ec] 103)
  tq : W.ownsRow w0.heap.size 49 4 (.slice ta tn tc) td.length (tcd td.reverse)
  eo : W.ownsRow w0.heap.size 66 2 (.slice ea en ec) ev.length (ecs ev)
  ge : w0.heap.size ≤ g
  bel : Below w0.heap.size w0 W
section
variable {w0 : World} {g : Nat} {t n : Int} {pv rv : Value} {col sn : Int} {ta : Option Addr} {tn tc : Nat} {ea : Option Addr} {en ec : Nat} {td : List Td} {ev : List Ev} {W V : World}
theorem Wb.next {W' : World} (h : Wb w0 g t n pv rv col sn ta tn tc ea en ec td ev W) (hb : Below W.heap.size W W') : Wb w0 g t n pv rv col sn ta tn tc ea en ec td ev W' :=
  ⟨tbox_next h.blk hb, own_below h.tq hb, own_below h.eo hb, h.ge, h.bel.trans (hb.mono h.bel.size)⟩
theorem Wb.lens (h : Wb w0 g t n pv rv col sn ta tn tc ea en ec td ev W) : tn = td.length ∧ en = ev.length := by
  obtain ⟨_, _, e1⟩ := own_len h.tq
  obtain ⟨_, _, e2⟩ := own_len h.eo
  simp only [Value.slice.injEq] at e1 e2
  exact ⟨e1.2.1, e2.2.1⟩
theorem own_ne_blk {B e size k m : Nat} {v : Value} {xs : List Value} {cs : Array Value} {ty : TypeId} {fr : Nat × Nat} (h : W.ownsRow B e size v k xs) (hb : W.heap[m]? = some (.cells cs ty fr)) (he : e ≠ ty) : some m ≠ v.ownBlock := fun e1 => by
  obtain ⟨cur, hc⟩ := own_blk h e1.symm
  rw [hc] at hb
  simp only [Option.some.injEq, Obj.cells.injEq] at hb
  exact he hb.2.1
theorem Wb.neT (h : Wb w0 g t n pv rv col sn ta tn tc ea en ec td ev W) : some g ≠ Value.ownBlock (.slice ta tn tc) := own_ne_blk h.tq h.blk (by decide)
theorem Wb.neE (h : Wb w0 g t n pv rv col sn ta tn tc ea en ec td ev W) : some g ≠ Value.ownBlock (.slice ea en ec) := own_ne_blk h.eo h.blk (by decide)
theorem Wb.apart (h : Wb w0 g t n pv rv col sn ta tn tc ea en ec td ev W) : ∀ b, Value.ownBlock (.slice ta tn tc) = some b → some b ≠ Value.ownBlock (.slice ea en ec) := fun b hb => by
  obtain ⟨cur, hc⟩ := own_blk h.tq hb
  exact own_ne_blk h.eo hc (by decide)
/-- What is next lies last. -/
theorem Wb.top {x : Td} {r : List Td} (h : Wb w0 g t n pv rv col sn ta tn tc ea en ec (x :: r) ev W) : ∃ k, ta = some ⟨k, 0, none⟩ ∧ tn = r.length + 1 ∧ k < W.heap.size ∧ k ≠ g ∧ W.cell? ⟨k, r.length * 4, none⟩ = some (.bool x.1) ∧ W.cell? ⟨k, r.length * 4 + 1, none⟩ = some (.int .i64 x.2.1) ∧ W.cell? ⟨k, r.length * 4 + 2, none⟩ = some (.int .i64 x.2.2.1) ∧ W.cell? ⟨k, r.length * 4 + 3, none⟩ = some (.int .i64 x.2.2.2) := by
  have hne := h.neT
  obtain ⟨rfl, -⟩ := h.lens
  have h0 := h.tq
  obtain ⟨h1, ⟨h2, h3⟩ | ⟨k, cap, cur, hv, hg, hh, hn', hc, hs, ht⟩⟩ := h.tq
  · simp at h3
  · simp only [Value.slice.injEq] at hv
    obtain ⟨rfl, -, rfl⟩ := hv
    have key := tcd_key h0
    have e2 : (x :: r).reverse[r.length]'(by simp) = x := by simp
    have e3 := tcd_at (x :: r).reverse r.length (by simp)
    rw [e2] at e3
    refine ⟨k, rfl, by simp, heap_lt3 hh, fun e => hne (by rw [e]; rfl), ?_, ?_, ?_, ?_⟩
    · have := key (r.length * 4) (by rw [List.length_cons]; omega); rw [Nat.zero_add] at this; exact this.trans e3.1
    · have := key (r.length * 4 + 1) (by rw [List.length_cons]; omega); rw [Nat.zero_add] at this; exact this.trans e3.2.1
    · have := key (r.length * 4 + 2) (by rw [List.length_cons]; omega); rw [Nat.zero_add] at this; exact this.trans e3.2.2.1
    · have := key (r.length * 4 + 3) (by rw [List.length_cons]; omega); rw [Nat.zero_add] at this; exact this.trans e3.2.2.2
theorem grown_bel {w0 W V : World} {B : Nat} {e size k : Nat} {v : Value} {xs : List Value} (h : Below B w0 W) (ho : W.ownsRow B e size v k xs) (hg : W.grownBy V v.ownBlock) (hs : B ≤ W.heap.size) : Below B w0 V :=
  h.trans ⟨hg.os, hg.tape, hg.output, hg.size, fun k hk => hg.block k (by omega) fun e => by have := own_ge ho k e.symm; omega⟩
/-- One more event. -/
theorem Wb.pushE {x : Ev} {ra : Option Addr} {rn rc : Nat} (h : Wb w0 g t n pv rv col sn ta tn tc ea en ec td ev W) (hg : W.grownBy V (Value.ownBlock (.slice ea en ec))) (ho : V.ownsRow w0.heap.size 66 2 (.slice ra rn rc) (ev.length + 1) (ecs ev ++ [.int .i64 x.1, .int .i64 x.2])) :
    Wb w0 g t n pv rv col sn ta tn tc ra rn rc td (ev ++ [x]) (V.setCell ⟨g, 7, none⟩ (.slice ra rn rc)) := by
  have hgb := (hg.block g (heap_lt3 h.blk) h.neE).trans h.blk
  have ht : V.ownsRow w0.heap.size 49 4 (.slice ta tn tc) td.length (tcd td.reverse) := town_keep h.tq fun b hb => by
    obtain ⟨cur, hc⟩ := own_blk h.tq hb
    exact hg.block b (heap_lt3 hc) (h.apart b hb)
  refine ⟨by simpa using tblock_store (i := 7) hgb (.slice ra rn rc), ?_, ?_, h.ge, bel_set (grown_bel h.bel h.eo hg h.bel.size) h.ge _ _⟩
  · exact town_keep ht fun b hb => Below.heap_setCell _ _ _ _ (by have := own_ne_blk ht hgb (by decide); intro e; simp at e; subst e; exact this hb.symm)
  · rw [List.length_append, ecs_append]
    exact town_keep ho fun b hb => Below.heap_setCell _ _ _ _ (by have := own_ne_blk ho hgb (by decide); intro e; simp at e; subst e; exact this hb.symm)
/-- One more is ahead. -/
theorem Wb.pushT {x : Td} {ra : Option Addr} {rn rc : Nat} (h : Wb w0 g t n pv rv col sn ta tn tc ea en ec td ev W) (hg : W.grownBy V (Value.ownBlock (.slice ta tn tc))) (ho : V.ownsRow w0.heap.size 49 4 (.slice ra rn rc) (td.length + 1) (tcd td.reverse ++ [.bool x.1, .int .i64 x.2.1, .int .i64 x.2.2.1, .int .i64 x.2.2.2])) :
    Wb w0 g t n pv rv col sn ra rn rc ea en ec (x :: td) ev (V.setCell ⟨g, 5, none⟩ (.slice ra rn rc)) := by
  have hgb := (hg.block g (heap_lt3 h.blk) h.neT).trans h.blk
  have ht : V.ownsRow w0.heap.size 66 2 (.slice ea en ec) ev.length (ecs ev) := town_keep h.eo fun b hb => by
    obtain ⟨cur, hc⟩ := own_blk h.eo hb
    exact hg.block b (heap_lt3 hc) fun e => h.apart b e.symm hb.symm
  refine ⟨by simpa using tblock_store (i := 5) hgb (.slice ra rn rc), ?_, ?_, h.ge, bel_set (grown_bel h.bel h.tq hg h.bel.size) h.ge _ _⟩
  · rw [List.reverse_cons, tcd_append, List.length_cons]
    exact town_keep ho fun b hb => Below.heap_setCell _ _ _ _ (by have := own_ne_blk ho hgb (by decide); intro e; simp at e; subst e; exact this hb.symm)
  · exact town_keep ht fun b hb => Below.heap_setCell _ _ _ _ (by have := own_ne_blk ht hgb (by decide); intro e; simp at e; subst e; exact this hb.symm)
theorem Wb.setBoth (h : Wb w0 g t n pv rv col sn ta tn tc ea en ec td ev W) (i : Nat) (v : Value) : (W.setCell ⟨g, i, none⟩ v).ownsRow w0.heap.size 49 4 (.slice ta tn tc) td.length (tcd td.reverse) ∧ (W.setCell ⟨g, i, none⟩ v).ownsRow w0.heap.size 66 2 (.slice ea en ec) ev.length (ecs ev) :=
  ⟨town_keep h.tq fun b hb => Below.heap_setCell _ _ _ _ (by have := h.neT; intro e; simp at e; subst e; exact this hb.symm), town_keep h.eo fun b hb => Below.heap_setCell _ _ _ _ (by have := h.neE; intro e; simp at e; subst e; exact this hb.symm)⟩
/-- The next one goes. -/
theorem Wb.pop {x : Td} {r : List Td} (h : Wb w0 g t n pv rv col sn ta tn tc ea en ec (x :: r) ev W) : Wb w0 g t n pv rv col sn ta r.length tc ea en ec r ev (W.setCell ⟨g, 5, none⟩ (.slice ta r.length tc)) := by
  obtain ⟨h1, h2⟩ := h.setBoth 5 (.slice ta r.length tc)
  obtain ⟨rfl, -⟩ := h.lens
  refine ⟨by simpa using tblock_store (i := 5) h.blk (.slice ta r.length tc), ?_, h2, h.ge, bel_set h.bel h.ge _ _⟩
  rw [List.length_cons, List.reverse_cons] at h1
  exact own_cut h1 (by simp)
/-- A token more. -/
theorem Wb.seen (h : Wb w0 g t n pv rv col sn ta tn tc ea en ec td ev W) (k : Int) : Wb w0 g t n pv rv col k ta tn tc ea en ec td ev (W.setCell ⟨g, 6, none⟩ (.int .i64 k)) := by
  obtain ⟨h1, h2⟩ := h.setBoth 6 (.int .i64 k)
  exact ⟨by simpa using tblock_store (i := 6) h.blk (.int .i64 k), h1, h2, h.ge, bel_set h.bel h.ge _ _⟩
end
/-- What a row tells at a column. -/
def rwF (rows : List (List Int)) (col : Nat) (x : Int) : Int := (rows.getD x.toNat []).getD col (-1)
theorem rwF_at {rows : List (List Int)} {col k : Nat} (hk : k < rows.length) (hc : col < rows[k].length) : rwF rows col (k : Int) = rows[k][col] := by
  unfold rwF
  have e : rows.getD k [] = rows[k] := by rw [List.getD_eq_getElem?_getD, List.getElem?_eq_getElem hk]; rfl
  rw [Int.toNat_natCast, e, List.getD_eq_getElem?_getD, List.getElem?_eq_getElem hc]; rfl
/-- The event of the next act, if it can be done. -/
def nx1 (rw : Int → Int) (col sn : Int) : List Td → Option Ev
  | [] => none
  | (true, p, _) :: _ => some (3, p)
  | (false, _, s) :: _ => if s.1 = 1 then (if s.2 = col then some (2, sn) else none) else if rw s.2 = -1 then none else some (1, rw s.2)
end Go.Proofs.Ytpfehghicaaghaa
