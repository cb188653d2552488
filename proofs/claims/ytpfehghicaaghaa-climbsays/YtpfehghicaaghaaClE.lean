/-
  Rows of climb in memory beside others; the rows of a grammar are right. No function is walked here. The contract of pushkeep.climbed: all that is told of a word's tokens, one by one, and of its end.
-/
import Derived.Test.YtpfehghicaaghaaClD
import Derived.Test.YtpfehghicaaghaaChTrees
namespace Go.Proofs.Ytpfehghicaaghaa
open Go.RowKit
open Cg

theorem okT_tdk {t : Int} {n : Nat} {ps : List Pd} (x : Td) : okT t (n : Int) ps x = tdk t n ps x := by
  obtain ⟨c, q, a, b⟩ := x
  cases c with
  | true => simp [okT, tdk]
  | false =>
    unfold okT tdk okSy okN
    by_cases h1 : a = 1
    · simp [h1]
    · by_cases h2 : a = 2
      · simp [h2]
      · simp [h1, h2]
theorem Dn.app {w0 w1 : World} {la ma : Option Addr} {ln lc mn mc : Nat} {l m : List Ev} {W : World} (h : Dn w0 (.slice la ln lc) l W) (k : W.ownsRow w1.heap.size 66 2 (.slice ma mn mc) m.length (ecs m)) (hlen : l.length + m.length ≤ 1000000) :
    ∃ ra rn rc V, (Builtin.append_ #[51, 51] 51 #[.slice la ln lc, .slice ma mn mc]).run Try.prog W = .ok (.slice ra rn rc) V ∧ Dn w0 (.slice ra rn rc) (l ++ m) V ∧ Fy Z66 W V := by
  obtain ⟨i1, hi1, hy0, hy1, hy2⟩ := info_parts info66
  obtain ⟨_, _, e⟩ := own_len k
  simp only [Value.slice.injEq] at e
  obtain ⟨-, rfl, -⟩ := e
  obtain ⟨ra, rc, V, k1, k2, k3, k4⟩ := append_any (W := W) (base := w0.heap.size) 51 66 i1 _ 2 16 Try.underlying51 hi1 hy0 hy1 hy2 rfl (by decide) (.slice la ln lc) l.length (ecs l) h.own ma m.length mc (ecs m) (ecs_length m) (Oth.own k) (ecs_one m) (by omega) (by omega) h.bel.size
  refine ⟨ra, _, rc, V, k1, ⟨by rw [List.length_append, ecs_append]; exact k2, ?_⟩, Fy.grown h.own rfl k3⟩
  exact h.bel.trans ⟨k3.os, k3.tape, k3.output, k3.size, fun j hj => k3.block j (by have := h.bel.size; omega) fun e => by have := own_ge h.own j e.symm; omega⟩
theorem Dq.fy {w0 : World} {lv : Value} {l : List Td} {W V : World} (h : Dq w0 lv l W) (hf : Fy Z66 W V) (hb : Below w0.heap.size w0 V) : Dq w0 lv l V :=
  ⟨town_keep h.own fun b hb => by
    obtain ⟨cur, hc⟩ := own_blk h.own hb
    rw [hf.2 _ _ _ _ hc (by unfold Z66; decide), hc], hb⟩
theorem chkC_of {t n : Int} {ps : List Pd} {rows : List (List Int)} {l : List Td} {sn : Int} {ok : Bool} (h1 : chkR t n ps rows = 0) (h2 : okC t n ps l sn = true) (h3 : ok = true) : chkC t n ps rows l sn 0 false ok = 0 := by
  unfold chkC
  rw [if_pos h1, if_pos h2, if_pos h3, if_pos rfl, if_neg (by decide)]
theorem okC_of {t n : Int} {ps : List Pd} {l : List Td} {sn : Int} (h1 : ∀ y ∈ l, okT t n ps y = true) (h2 : l.length ≤ 60) (h3 : 0 ≤ sn) (h4 : sn ≤ 1099511627776) : okC t n ps l sn = true := by
  unfold okC
  simp only [Bool.and_eq_true, decide_eq_true_eq]
  exact ⟨⟨⟨h2, h3⟩, h4⟩, List.all_eq_true.2 h1⟩
theorem rwOk_of {t : Int} {n col : Nat} {ps : List Pd} {rows : List (List Int)} (h : chkR t (n : Int) ps rows = 0) (hc : (col : Int) ≤ t) : RwOk ps n (rwF rows col) := by
  obtain ⟨h1, h2, h3⟩ := chkR_zero h
  intro a ha hn h0
  obtain ⟨m, rfl⟩ : ∃ m : Nat, a = (m : Int) := ⟨a.toNat, by omega⟩
  have hm2 : m < rows.length := by omega
  have h5 := okRows_all h3 m hm2
  unfold okRow at h5
  simp only [Bool.and_eq_true, decide_eq_true_eq] at h5
  have hcl : col < rows[m].length := by omega
  have h6 := List.all_eq_true.1 h5.2 _ (List.getElem_mem hcl)
  rw [← rwF_at hm2 hcl] at h6
  unfold okX okP at h6
  have hne : rwF rows col (m : Int) ≠ -1 := by omega
  simp [hne] at h6
  refine ⟨by unfold isPr; simp; omega, ?_⟩
  unfold headOf
  exact h6.2
theorem body_ok {t : Int} {n : Nat} {ps : List Pd} (h : chk t (n : Int) ps = 0) : ∀ p : Int, isPr ps p = true → ∀ s ∈ bodyOf ps p, (s.1 = 1 ∧ 0 ≤ s.2 ∧ s.2 < t) ∨ (s.1 = 2 ∧ 0 ≤ s.2 ∧ s.2 < (n : Int)) := by
  intro p hp s hs
  obtain ⟨h1, h2⟩ := isPr_le hp
  obtain ⟨z, rfl⟩ : ∃ z : Nat, p = (z : Int) := ⟨p.toNat, by omega⟩
  have hz : z < ps.length := by omega
  rw [(bodyOf_nat hz).1] at hs
  have := List.all_eq_true.1 (chkP_zero ((chk_zero h).2.2 _ (List.getElem_mem hz))).2.2 s hs
  unfold okSy at this
  split at this
  · have := okN_le this; omega
  · split at this
    · have := okN_le this; omega
    · cases this
/-- The rows that are made of a grammar are right. -/
theorem rowA_ok (ps : List Pd) (S : Nat → Wd) (T non col : Nat) : okX ps (non : Int) (rowA ps S T non col) = true := by
  unfold rowA
  cases h : mayL ps S T non col with
  | nil => rfl
  | cons a l =>
    have ha : a ∈ mayL ps S T non col := by rw [h]; simp
    unfold mayL mayQ at ha
    obtain ⟨i, hi, rfl⟩ := List.mem_map.1 ha
    obtain ⟨h1, h2⟩ := List.mem_filter.1 hi
    have h3 := List.mem_range.1 h1
    unfold mayB at h2
    simp only [Bool.and_eq_true, decide_eq_true_eq] at h2
    show okX ps (non : Int) ((i : Nat) : Int) = true
    have e : ps.getD i (0, []) = ps[i] := by rw [List.getD_eq_getElem?_getD, List.getElem?_eq_getElem h3]; rfl
    rw [e] at h2
    unfold okX okP
    simp [h3, h2.1]
theorem okRows_of {t : Int} {ps : List Pd} : ∀ {rows : List (List Int)} {k : Nat}, (∀ i (hi : i < rows.length), okRow t ps ((k + i : Nat) : Int) rows[i] = true) → okRows t ps k rows = true
  | [], k, _ => rfl
  | r :: l, k, h => by
    unfold okRows
    simp only [Bool.and_eq_true]
    refine ⟨by have := h 0 (by simp); rw [Nat.add_zero] at this; exact this, okRows_of fun i hi => ?_⟩
    have := h (i + 1) (by simpa using hi)
    rw [show k + (i + 1) = k + 1 + i by omega] at this
    simpa using this
theorem rowsL_at {ps : List Pd} {S : Nat → Wd} {T k i : Nat} (h : i < k) : (rowsL ps S T k)[i]'(by rw [rowsL_length]; exact h) = rowL ps S T i (T + 1) := by
  unfold rowsL; simp
theorem rowsL_ok {T n : Nat} {ps : List Pd} {S : Nat → Wd} (h : chk (T : Int) (n : Int) ps = 0) : chkR (T : Int) (n : Int) ps (rowsL ps S T n) = 0 := by
  unfold chkR
  rw [if_pos h, if_pos (by rw [rowsL_length]), if_pos]
  refine okRows_of fun i hi => ?_
  rw [rowsL_length] at hi
  rw [rowsL_at hi, Nat.zero_add]
  unfold okRow
  simp only [Bool.and_eq_true, decide_eq_true_eq]
  refine ⟨by rw [rowL_length]; omega, List.all_eq_true.2 fun x hx => ?_⟩
  unfold rowL at hx
  obtain ⟨c, -, rfl⟩ := List.mem_map.1 hx
  exact rowA_ok _ _ _ _ _
theorem rwF_rows {T n : Nat} {ps : List Pd} {S : Nat → Wd} {col a : Nat} (ha : a < n) (hc : col ≤ T) : rwF (rowsL ps S T n) col (a : Int) = rowA ps S T a col := by
  have h1 : a < (rowsL ps S T n).length := by rw [rowsL_length]; exact ha
  have h2 : col < ((rowsL ps S T n)[a]'h1).length := by rw [rowsL_at ha, rowL_length]; omega
  rw [rwF_at h1 h2]
  simp only [rowsL_at ha]
  unfold rowL; simp
/-- The columns of rows. -/
def rwC (rows : List (List Int)) (x : Int) : Int → Int := rwF rows x.toNat
theorem clm_len {ps : List Pd} {rw : Int → Int} {T col sn : Int} (td : List Td) (ev : List Ev) (had : Bool) : (clm ps rw T col sn td ev had).1 = 0 → (clm ps rw T col sn td ev had).2.2.1.length ≤ 2000 ∧ (clm ps rw T col sn td ev had).2.1.length ≤ 60 := by
  refine clm_ind (ps := ps) (rw := rw) (col := col) (seen := sn) (Q := fun td ev had => (clm ps rw T col sn td ev had).1 = 0 → (clm ps rw T col sn td ev had).2.2.1.length ≤ 2000 ∧ (clm ps rw T col sn td ev had).2.1.length ≤ 60) ?_ ?_ ?_ ?_ ?_ ?_ td ev had
  · intro td ev had h e; rw [clm_big h] at e; simp at e
  · intro ev had h e
    rw [clm_nil h] at e ⊢
    split
    · simp; exact h
    · rename_i h1
      split
      · simp; exact h
      · rename_i h3; rw [if_neg h1, if_neg h3] at e; simp at e
  · intro p x r ev had h h2 ih; rw [clm_end h h2]; exact ih
  · intro q s r ev h h2 _; rw [clm_stop h h2]; exact ⟨h, h2⟩
  · intro q s r ev h h2 h4 ih e
    rw [clm_tok h h2 h4] at e ⊢
    split
    · rename_i h5; rw [if_pos h5] at e; exact ih h5 e
    · rename_i h5; rw [if_neg h5] at e; simp at e
  · intro q s r ev h h2 h4 ih e
    rw [clm_non h h2 h4] at e ⊢
    split
    · rename_i h5; rw [if_pos h5] at e; simp at e
    · rename_i h5; rw [if_neg h5] at e; exact ih (by omega) e
end Go.Proofs.Ytpfehghicaaghaa

namespace Go.Proofs.Ytpfehghicaaghaa
open Go.RowKit
open Cg

/-- What the parse of a word holds ahead of token i. -/
structure Wc (w : World) (g : Nat) (t : Int) (n : Nat) (pv rv wv : Value) (ps : List Pd) (rows : List (List Int)) (ws : List Int) (A : List Ev × Nat × Int) (cb i : Nat) (ov : Value) (W : World) : Prop where
  gk : W.heap[g]? = some (.cells #[.int .i64 t, .int .i64 (n : Int), pv] 24)
  ge : w.heap.size ≤ g
  bel : Below w.heap.size w W
  st : ∃ la ln lc l out, W.heap[cb]? = some (.cells #[.slice la ln lc, .int .i64 (i : Int), .int .i64 0, .bool false] 43) ∧ w.heap.size ≤ cb ∧ Dq w (.slice la ln lc) l W ∧ Dn w ov out W ∧ (∀ y ∈ l, okT t (n : Int) ps y = true) ∧ l.length ≤ 60 ∧ out.length ≤ 2000 * i ∧ cls ps (rwC rows) t (ws.drop i) l.reverse (i : Int) out i = A
theorem Wc.gb {w : World} {g : Nat} {t : Int} {n : Nat} {pv rv wv : Value} {ps : List Pd} {rows : List (List Int)} {ws : List Int} {A : List Ev × Nat × Int} {cb i : Nat} {ov : Value} {W : World} (h : Wc w g t n pv rv wv ps rows ws A cb i ov W) (hp : Pds w pv ps) : Gb w g t (n : Int) pv ps W :=
  ⟨h.bel, heap_lt3 h.gk, h.ge, tcell_blk h.gk 0, tcell_blk h.gk 1, tcell_blk h.gk 2, hp.below h.bel⟩
theorem cls_end {ps : List Pd} {rw : Int → Int → Int} {T : Int} {td : List Td} {seen : Int} {out : List Ev} {had : Nat} : cls ps rw T [] td seen out had = (if (clm ps (rw T) T T seen td [] false).1 = 0 then out ++ (clm ps (rw T) T T seen td [] false).2.2.1 else out, had, (clm ps (rw T) T T seen td [] false).1) := rfl
theorem cls_cons {ps : List Pd} {rw : Int → Int → Int} {T x : Int} {ws : List Int} {td : List Td} {seen : Int} {out : List Ev} {had : Nat} : cls ps rw T (x :: ws) td seen out had = if (clm ps (rw x) T x seen td [] false).1 = 0 then cls ps rw T ws (clm ps (rw x) T x seen td [] false).2.1 (seen + 1) (out ++ (clm ps (rw x) T x seen td [] false).2.2.1) (had + 1) else (out, had, (clm ps (rw x) T x seen td [] false).1) := rfl
def WdP (w : World) (A : List Ev × Nat × Int) (e : Ending) (w' : World) : Prop := ∃ ea en ec, e = .returned (.tuple #[.slice ea en ec, .int .i64 (A.2.1 : Int), .int .i64 A.2.2]) ∧ Dn w (.slice ea en ec) A.1 w'
theorem pushR_of {t : Int} {n : Nat} {ps : List Pd} {rows : List (List Int)} {l : List Td} {sn x : Int} (h1 : chkR t (n : Int) ps rows = 0) (h2 : ∀ y ∈ l, okT t (n : Int) ps y = true) (h3 : l.length ≤ 60) (h4 : 0 ≤ sn) (h5 : sn ≤ 1099511627776) (hx : 0 ≤ x ∧ x < t) :
    pushR t n ps rows l sn 0 false x = if (clm ps (rwC rows x) t x sn l.reverse [] false).1 = 0 then ⟨(clm ps (rwC rows x) t x sn l.reverse [] false).2.1.reverse, sn + 1, 0, false, (clm ps (rwC rows x) t x sn l.reverse [] false).2.2.1, 0⟩ else ⟨[], sn, (clm ps (rwC rows x) t x sn l.reverse [] false).1, false, [], (clm ps (rwC rows x) t x sn l.reverse [] false).1⟩ := by
  unfold pushR
  rw [if_pos (chkC_of h1 (okC_of h2 h3 h4 h5) (by simp [hx]))]
  rfl
theorem endR_of {t : Int} {n : Nat} {ps : List Pd} {rows : List (List Int)} {l : List Td} {sn : Int} (h1 : chkR t (n : Int) ps rows = 0) (h2 : ∀ y ∈ l, okT t (n : Int) ps y = true) (h3 : l.length ≤ 60) (h4 : 0 ≤ sn) (h5 : sn ≤ 1099511627776) :
    endR t n ps rows l sn 0 false = if (clm ps (rwC rows t) t t sn l.reverse [] false).1 = 0 then ⟨[], sn, 0, true, (clm ps (rwC rows t) t t sn l.reverse [] false).2.2.1, 0⟩ else ⟨[], sn, (clm ps (rwC rows t) t t sn l.reverse [] false).1, false, [], (clm ps (rwC rows t) t t sn l.reverse [] false).1⟩ := by
  unfold endR
  rw [if_pos (chkC_of h1 (okC_of h2 h3 h4 h5) rfl)]
  rfl
theorem clm_right {t : Int} {n : Nat} {ps : List Pd} {rows : List (List Int)} {x sn : Int} {td : List Td} (h1 : chkR t (n : Int) ps rows = 0) (hx : 0 ≤ x ∧ x ≤ t) (htd : ∀ y ∈ td, okT t (n : Int) ps y = true) (h : (clm ps (rwC rows x) t x sn td [] false).1 = 0) : ∀ y ∈ (clm ps (rwC rows x) t x sn td [] false).2.1, okT t (n : Int) ps y = true := by
  intro y hy
  rw [okT_tdk]
  refine (clm_tdk (body_ok (chkR_zero h1).1) (rwOk_of h1 (by omega)) td [] false (fun z hz => by rw [← okT_tdk]; exact htd z hz) h).1 y hy
set_option maxHeartbeats 12000000 in
set_option maxRecDepth 20000 in
theorem climbed_any (t : Int) (n : Nat) (pv : Value) (ps : List Pd) (rv : Value) (rows : List (List Int)) (wv : Value) (ws : List Int) (w : World) (hp : Pds w pv ps) (hr : Rws w rv rows) (hw : Ints w wv ws)
    (hk : chkR t (n : Int) ps rows = 0) (hwl : ws.length ≤ 20) (hws : ∀ x ∈ ws, 0 ≤ x ∧ x < t) :
    Calls Try.prog 27 #[.agg #[.int .i64 t, .int .i64 (n : Int), pv], rv, wv] w fun e w' => WdP w (cls ps (rwC rows) t ws [symT (2, 0)] 0 [] 0) e w' := by
  obtain ⟨A, HA⟩ : ∃ A, Hid (cls ps (rwC rows) t ws [symT (2, 0)] 0 [] 0 = A) := ⟨_, rfl⟩
  rw [HA.out]
  have HG0 : Hid _ := heap_alloc_new w (Obj.cells #[.int .i64 t, .int .i64 (n : Int), pv] 24)
  have HRW : Hid (Rws w rv rows) := hr
  have HPV : Hid (Pds w pv ps) := hp
  have HWS : Hid (Ints w wv ws) := hw
  have HK : Hid (chkR t (n : Int) ps rows = 0) := hk
  have HWL : Hid (ws.length ≤ 20 ∧ (∀ x ∈ ws, 0 ≤ x ∧ x < t)) := ⟨hwl, hws⟩
  have HTN : Hid (0 ≤ t ∧ t ≤ 30 ∧ 1 ≤ (n : Int) ∧ (n : Int) ≤ 20) := okTN_le (chk_zero (chkR_zero hk).1).1
  obtain ⟨po, pc, rfl, hpm, -⟩ := hp
  obtain ⟨ro, rc, rfl, hrm, -⟩ := hr
  obtain ⟨wo, wc, rfl, hwm, -⟩ := hw
  clear hk hwl hws
  have HB1 : Hid (Below w.heap.size w (w.alloc (Obj.cells #[.int .i64 t, .int .i64 (n : Int), .slice po ps.length pc] 24))) := below_alloc _ _
  go_enter Try.func27, Try.ntmps27
  go_upto_region 1 with fail
  have HSZ1 : Hid ((w.alloc (Obj.cells #[.int .i64 t, .int .i64 (n : Int), .slice po ps.length pc] 24)).heap.size = w.heap.size + 1) := by show _ = _; simp
  generalize w.alloc (Obj.cells #[.int .i64 t, .int .i64 (n : Int), .slice po ps.length pc] 24) = w1 at HG0 HB1 HSZ1 ⊢
  obtain ⟨g, HG⟩ : ∃ g, Hid (w.heap.size = g) := ⟨_, (rfl : w.heap.size = w.heap.size)⟩
  rw [HG.out] at HG0 HSZ1 ⊢
  have hcall := Begin_any w1
  go_wp2_with fail
  refine hcall.mono ?_
  rintro _ w2 ⟨ra, rn, rq, rfl, hd⟩
  have HD : Hid _ := hd
  have HG2 : Hid _ := tbox_next HG0.out hd.bel
  clear hcall hd HG0
  obtain ⟨cb, HCB⟩ : ∃ cb, Hid (w2.heap.size = cb) := ⟨_, (rfl : w2.heap.size = _)⟩
  have HBA : Hid (Below w2.heap.size w2 (w2.alloc (Obj.cells #[.slice ra rn rq, .int .i64 0, .int .i64 0, .bool false] 43))) := below_alloc _ _
  have HC0 : Hid (Wc w g t n (.slice po ps.length pc) (.slice ro rows.length rc) (.slice wo ws.length wc) ps rows ws A cb 0 (.slice none 0 0) (w2.alloc (Obj.cells #[.slice ra rn rq, .int .i64 0, .int .i64 0, .bool false] 43))) := by
    have h1 := HD.out.next HBA.out
    have h2 : Below w.heap.size w (w2.alloc (Obj.cells #[.slice ra rn rq, .int .i64 0, .int .i64 0, .bool false] 43)) := HB1.out.trans (h1.bel.mono HB1.out.size)
    refine ⟨tbox_next HG2.out HBA.out, by have := HG.out; omega, h2, ra, rn, rq, _, [], ?_, ?_, ⟨own_less h1.own HB1.out.size, h2⟩, Dn.nil _ h2, ?_, by simp, by simp, HA.out⟩
    · rw [← HCB.out]; exact heap_alloc_new _ _
    · have := HD.out.bel.size; have := HB1.out.size; have := HCB.out; omega
    · intro y hy
      simp at hy; subst hy
      have := HTN.out
      simp [okT, symT, okSy, okN]; omega
  go_wp2_with fail
  generalize w2.alloc (Obj.cells #[.slice ra rn rq, .int .i64 0, .int .i64 0, .bool false] 43) = w3 at HC0 ⊢
  rw [HCB.out]
  clear HD HG2 HBA HSZ1 HB1 HA
  go_loopw [6, 7, 8, 18] (fun x y z q wr => ∃ (i : Nat) (oa : Option Addr) (on oc : Nat), i ≤ ws.length ∧ x = .slice oa on oc ∧ y = .int .i64 (i : Int) ∧ z = .int .i64 0 ∧ q = .int .i64 (i : Int) ∧ Hid (Wc w g t n (.slice po ps.length pc) (.slice ro rows.length rc) (.slice wo ws.length wc) ps rows ws A cb i (.slice oa on oc) wr)) (fun _ _ _ q _ => ws.length - (intOf q).toNat)
  case atStart => exact ⟨0, none, 0, 0, Nat.zero_le _, rfl, rfl, rfl, rfl, HC0⟩
  case round =>
    obtain ⟨i, oa, on, oc, hi, rfl, rfl, rfl, rfl, HI⟩ := hrel
    clear HC0
    obtain ⟨la, ln, lc, l, out, hbx, hge, hdq, hdn, hok, h60, hol, hA⟩ := HI.out.st
    have HBX : Hid _ := hbx
    have HGE : Hid (w.heap.size ≤ cb) := hge
    have HDQ : Hid (Dq w (.slice la ln lc) l wr) := hdq
    have HDN : Hid (Dn w (.slice oa on oc) out wr) := hdn
    have HOK : Hid ((∀ y ∈ l, okT t (n : Int) ps y = true) ∧ l.length ≤ 60 ∧ out.length ≤ 2000 * i) := ⟨hok, h60, hol⟩
    have HGB : Hid _ := HI.out.gb HPV.out
    have HGK : Hid _ := HI.out.gk
    have HGG : Hid (w.heap.size ≤ g) := HI.out.ge
    have HAE : Hid (cls ps (rwC rows) t (ws.drop i) l.reverse (i : Int) out i = A) := hA
    have z0 := HGB.out.c0
    have z1 := HGB.out.c1
    have z2 := HGB.out.c2
    have q0 := tcell_blk hbx 0
    have q1 := tcell_blk hbx 1
    have q2 := tcell_blk hbx 2
    have q3 := tcell_blk hbx 3
    simp only [List.getElem?_toArray, List.getElem?_cons_zero, List.getElem?_cons_succ] at q0 q1 q2 q3
    clear hbx hge hdq hdn hok h60 hol hA HI
    have HI20 : Hid (i ≤ 20) := by show _ ≤ _; have := HWL.out.1; omega
    by_cases hlt : i < ws.length
    · obtain ⟨a9, c9, e9, -, hcs⟩ := (HWS.out.below HGB.out.below)
      simp only [Value.slice.injEq] at e9
      obtain ⟨rfl, -, rfl⟩ := e9
      obtain ⟨b, o, rfl, hb, hc⟩ := hcs.resolve_left (by intro e; subst e; simp at hlt)
      have y0 := hc i hlt
      have HX : Hid (0 ≤ ws[i] ∧ ws[i] < t) := HWL.out.2 _ (List.getElem_mem hlt)
      have HDR : Hid (ws.drop i = ws[i] :: ws.drop (i + 1)) := List.drop_eq_getElem_cons hlt
      generalize ws[i] = x at y0 HX HDR
      have HAX := HAE.out
      rw [HDR.out, cls_cons] at HAX
      have HA2 : Hid _ := HAX
      have HPU : Hid _ := pushR_of (rows := rows) (sn := (i : Int)) (x := x) HK.out HOK.out.1 HOK.out.2.1 (by omega) (by have := HI20.out; omega) HX.out
      have hcall := Push_any t n (.slice po ps.length pc) ps (.slice ro rows.length rc) rows (.slice la ln lc) l (i : Int) 0 false x wr HGB.out.pds (HRW.out.below HGB.out.below) (tds_of_own HDQ.out.own (by have := HOK.out.2.1; omega)) (by have := HOK.out.2.1; omega)
      obtain ⟨X, HXX⟩ : ∃ X, Hid (pushR t n ps rows l (i : Int) 0 false x = X) := ⟨_, rfl⟩
      rw [HXX.out] at hcall
      rw [HXX.out] at HPU
      have hk1 : (i : Int) < (ws.length : Int) := by omega
      have hk0 : (0 : Int) ≤ (i : Int) := by omega
      clear hcs hc HAX HAE HXX HDR
      go_wp2_with fail
      refine hcall.mono ?_
      rintro _ w4 ⟨ua, un, uc, ea, en, ec, rfl, hdq4, hdn4⟩
      have HQ4 : Hid (Dq wr (.slice ua un uc) X.l w4) := hdq4
      have HN4 : Hid (Dn wr (.slice ea en ec) X.ev w4) := hdn4
      have BX : w4.heap[cb]? = _ := tbox_next HBX.out hdq4.bel
      clear hcall hdq4 hdn4 z0 z1 z2 q0 q1 q2 q3 y0
      have p0 := tcell_blk BX 0
      have p1 := tcell_blk BX 1
      have p2 := tcell_blk BX 2
      have p3 := tcell_blk BX 3
      have f0 := tfrozen_blk BX 0
      have f1 := tfrozen_blk BX 1
      have f2 := tfrozen_blk BX 2
      have f3 := tfrozen_blk BX 3
      simp only [List.getElem?_toArray, List.getElem?_cons_zero, List.getElem?_cons_succ] at p0 p1 p2 p3
      have HBL : Hid (cb < wr.heap.size) := heap_lt3 HBX.out
      have HBX5 : Hid _ := set4_blk BX (.slice ua un uc) (.int .i64 X.sn) (.int .i64 X.ov) (.bool X.dn)
      have HBE5 : Hid (Below w.heap.size w (set4 w4 cb (.slice ua un uc) (.int .i64 X.sn) (.int .i64 X.ov) (.bool X.dn))) := set4_bel (HGB.out.below.trans (HQ4.out.bel.mono HGB.out.below.size)) HGE.out
      have HOT : Hid (∀ k, k ≠ cb → (set4 w4 cb (.slice ua un uc) (.int .i64 X.sn) (.int .i64 X.ov) (.bool X.dn)).heap[k]? = w4.heap[k]?) := fun k hk => set4_other hk
      have HQ5 : Hid (Dq w (.slice ua un uc) X.l (set4 w4 cb (.slice ua un uc) (.int .i64 X.sn) (.int .i64 X.ov) (.bool X.dn))) := ⟨own_less (town_keep HQ4.out.own fun b hb => HOT.out b (own_ne HQ4.out.own HBL.out b hb)) HGB.out.below.size, HBE5.out⟩
      have HN5 : Hid ((set4 w4 cb (.slice ua un uc) (.int .i64 X.sn) (.int .i64 X.ov) (.bool X.dn)).ownsRow wr.heap.size 66 2 (.slice ea en ec) X.ev.length (ecs X.ev)) := town_keep HN4.out.own fun b hb => HOT.out b (own_ne HN4.out.own HBL.out b hb)
      have HO5 : Hid (Dn w (.slice oa on oc) out (set4 w4 cb (.slice ua un uc) (.int .i64 X.sn) (.int .i64 X.ov) (.bool X.dn))) := by
        have h1 := own_below HDN.out.own HQ4.out.bel
        refine ⟨town_keep h1 fun b hb => HOT.out b fun e => ?_, HBE5.out⟩
        subst e
        obtain ⟨cur, hc⟩ := own_blk HDN.out.own hb
        rw [HBX.out] at hc
        simp at hc
      have HG5 : Hid ((set4 w4 cb (.slice ua un uc) (.int .i64 X.sn) (.int .i64 X.ov) (.bool X.dn)).heap[g]? = some (.cells #[.int .i64 t, .int .i64 (n : Int), .slice po ps.length pc] 24)) := by
        have hne : g ≠ cb := fun e => by
          have h1 := HBX.out
          have h2 := HGK.out
          rw [e, h1] at h2
          simp at h2
        exact (HOT.out g hne).trans (tbox_next HGK.out HQ4.out.bel)
      clear HQ4 HN4 HDN HDQ HBX HGB HGK BX
      by_cases hr0 : (clm ps (rwC rows x) t x (i : Int) l.reverse [] false).1 = 0
      · have HXE : Hid (X = ⟨(clm ps (rwC rows x) t x (i : Int) l.reverse [] false).2.1.reverse, (i : Int) + 1, 0, false, (clm ps (rwC rows x) t x (i : Int) l.reverse [] false).2.2.1, 0⟩) := by show _ = _; rw [HPU.out, if_pos hr0]
        have HA3 : Hid (cls ps (rwC rows) t (ws.drop (i + 1)) (clm ps (rwC rows x) t x (i : Int) l.reverse [] false).2.1 ((i : Int) + 1) (out ++ (clm ps (rwC rows x) t x (i : Int) l.reverse [] false).2.2.1) (i + 1) = A) := by have := HA2.out; rw [if_pos hr0] at this; exact this
        have HRT : Hid _ := clm_right (rows := rows) (sn := (i : Int)) (td := l.reverse) HK.out (by have := HX.out; omega) (fun y hy => HOK.out.1 y (List.mem_reverse.1 hy)) hr0
        have HLN : Hid _ := clm_len _ _ _ hr0
        clear HA2 HPU hr0
        generalize clm ps (rwC rows x) t x (i : Int) l.reverse [] false = R at HXE HA3 HRT HLN
        have hX := HXE.out
        subst hX
        clear HXE
        obtain ⟨r1, r2, r3, r4⟩ := R
        simp only at HA3 HRT HLN HBX5 HBE5 HOT HQ5 HN5 HO5 HG5 ⊢
        obtain ⟨rv2, HRV⟩ : ∃ rv2, Hid (r2.reverse = rv2) := ⟨_, rfl⟩
        rw [HRV.out] at HQ5
        obtain ⟨ja, jn, jc, V, hrun, hdv, hfy⟩ := HO5.out.app (w1 := wr) HN5.out (by have h1 := HOK.out.2.2; have h2 := HLN.out.1; have h3 := HI20.out; omega)
        have hrun2 := hrun
        go_upto_region 7 with fail
        rw [← set4_eq]
        go_wp2_with (at_builtin; refine wpList_append_run rfl _ _ 51 rfl _ _ rfl rfl hrun2 ?_)
        have HCN : Hid (Wc w g t n (.slice po ps.length pc) (.slice ro rows.length rc) (.slice (some ⟨b, o, none⟩) ws.length wc) ps rows ws A cb (i + 1) (.slice ja jn jc) V) := by
          refine ⟨hfy.2 _ _ _ _ HG5.out (by unfold Z66; decide), HGG.out, hdv.bel, ua, un, uc, _, _, hfy.2 _ _ _ _ HBX5.out (by unfold Z66; decide), HGE.out, HQ5.out.fy hfy hdv.bel, hdv, ?_, ?_, ?_, ?_⟩
          · intro y hy; rw [← HRV.out] at hy; exact HRT.out y (List.mem_reverse.1 hy)
          · rw [← HRV.out, List.length_reverse]; exact HLN.out.2
          · have h1 := HOK.out.2.2; have h2 := HLN.out.1; rw [List.length_append]; omega
          · have h1 := HA3.out
            rw [← HRV.out, List.reverse_reverse]
            simpa using h1
        go_roundw
        case rel => exact ⟨i + 1, ja, jn, jc, by omega, rfl, by go_num, rfl, by go_num, HCN⟩
        case measure => simp [intOf]; omega
      · have HXE : Hid (X = ⟨[], (i : Int), (clm ps (rwC rows x) t x (i : Int) l.reverse [] false).1, false, [], (clm ps (rwC rows x) t x (i : Int) l.reverse [] false).1⟩) := by show _ = _; rw [HPU.out, if_neg hr0]
        have HA3 : Hid ((out, i, (clm ps (rwC rows x) t x (i : Int) l.reverse [] false).1) = A) := by have := HA2.out; rw [if_neg hr0] at this; exact this
        have hne : ((clm ps (rwC rows x) t x (i : Int) l.reverse [] false).1 != 0) = true := by simpa using hr0
        clear HA2 HPU hr0
        generalize (clm ps (rwC rows x) t x (i : Int) l.reverse [] false).1 = er at HXE HA3 hne
        have hX := HXE.out
        subst hX
        clear HXE
        simp only at HBX5 HBE5 HOT HQ5 HN5 HO5 HG5 ⊢
        go_wp2_with fail
        rw [← set4_eq]
        exact bodyPost_ret (v := .tuple #[.slice oa on oc, .int .i64 (i : Int), .int .i64 er]) (by simp [results, Try.results27, go_sem]) rfl ⟨_, _, _, by rw [← HA3.out], by rw [← HA3.out]; exact HO5.out⟩
    · obtain rfl : i = ws.length := by omega
      have HAX := HAE.out
      rw [List.drop_length, cls_end] at HAX
      have HA2 : Hid _ := HAX
      have HEU : Hid _ := endR_of (rows := rows) (sn := ((ws.length : Nat) : Int)) HK.out HOK.out.1 HOK.out.2.1 (by omega) (by have := HI20.out; omega)
      have hcall := End_any t n (.slice po ps.length pc) ps (.slice ro rows.length rc) rows (.slice la ln lc) l ((ws.length : Nat) : Int) 0 false wr HGB.out.pds (HRW.out.below HGB.out.below) (tds_of_own HDQ.out.own (by have := HOK.out.2.1; omega)) (by have := HOK.out.2.1; omega)
      obtain ⟨X, HXX⟩ : ∃ X, Hid (endR t n ps rows l ((ws.length : Nat) : Int) 0 false = X) := ⟨_, rfl⟩
      rw [HXX.out] at hcall
      rw [HXX.out] at HEU
      have HAF : Hid ((out ++ X.ev, ws.length, X.er) = A ∧ X.ev.length ≤ 2000) := by
        rw [← HA2.out, HEU.out]
        by_cases hr0 : (clm ps (rwC rows t) t t ((ws.length : Nat) : Int) l.reverse [] false).1 = 0
        · rw [if_pos hr0, if_pos hr0]
          refine ⟨by simp only [hr0], (clm_len _ _ _ hr0).1⟩
        · rw [if_neg hr0, if_neg hr0]
          exact ⟨by simp, by simp⟩
      clear HAX HAE HA2 HEU HXX
      go_wp2_with fail
      refine hcall.mono ?_
      rintro _ w4 ⟨ua, un, uc, ea, en, ec, rfl, hdq4, hdn4⟩
      have HBA : Hid (Below w4.heap.size w4 (w4.alloc (Obj.cells #[.slice ua un uc, .int .i64 X.sn, .int .i64 X.ov, .bool X.dn] 43))) := below_alloc _ _
      have HN4 : Hid _ := hdn4.next HBA.out
      have HO4 : Hid _ := (HDN.out.next hdn4.bel).next HBA.out
      clear hcall hdq4 hdn4 z0 z1 z2 q0 q1 q2 q3
      obtain ⟨ja, jn, jc, V, hrun, hdv, hfy⟩ := HO4.out.app (w1 := wr) HN4.out.own (by have h1 := HOK.out.2.2; have h2 := HAF.out.2; have h3 := HI20.out; omega)
      have hrun2 := hrun
      go_upto_region 13 with fail
      generalize w4.alloc (Obj.cells #[.slice ua un uc, .int .i64 X.sn, .int .i64 X.ov, .bool X.dn] 43) = w5 at hrun2 ⊢
      go_wp2_with (at_builtin; refine wpList_append_run rfl _ _ 51 rfl _ _ rfl rfl hrun2 ?_)
      exact bodyPost_ret (v := .tuple #[.slice ja jn jc, .int .i64 ((ws.length : Nat) : Int), .int .i64 X.er]) (by simp [results, Try.results27, go_sem]) rfl ⟨_, _, _, by rw [← HAF.out.1], by rw [← HAF.out.1]; exact hdv⟩
end Go.Proofs.Ytpfehghicaaghaa
