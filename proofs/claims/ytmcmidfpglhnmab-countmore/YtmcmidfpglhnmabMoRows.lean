/-
  Productions as rows of values: a copy of them, one more behind them.
-/
import Derived.Test.YtmcmidfpglhnmabChApp
namespace Go.Proofs.Ytmcmidfpglhnmab
open Go.ChangeShapes Go.WideShapes Go.ChangeAt Go.RowKit
open Cg

def vps (l : List (Int × Value)) : List Value := l.flatMap fun p => [.int .i64 p.1, p.2]
theorem vps_length (l : List (Int × Value)) : (vps l).length = l.length * 2 := by
  induction l with
  | nil => rfl
  | cons e l ih => simp only [vps, List.flatMap_cons, List.length_append, List.length_cons, List.length_nil] at ih ⊢; omega
theorem vps_at : ∀ (l : List (Int × Value)) i (hi : i < l.length), (vps l)[i * 2]? = some (.int .i64 l[i].1) ∧ (vps l)[i * 2 + 1]? = some l[i].2
  | e :: l, 0, hi => ⟨rfl, rfl⟩
  | e :: l, i + 1, hi => by
    have := vps_at l i (by simpa using hi)
    rw [show (i + 1) * 2 = i * 2 + 2 by omega]
    simpa [vps] using this
theorem vps_app (l : List (Int × Value)) (x : Int × Value) : vps (l ++ [x]) = vps l ++ [.int .i64 x.1, x.2] := by simp [vps]
/-- Productions, their values named. -/
structure Pv (w : World) (ps : List Pd) (qs : List (Int × Value)) : Prop where
  len : qs.length = ps.length
  hd : ∀ i (h : i < qs.length) (h' : i < ps.length), qs[i].1 = ps[i].1 ∧ Syms w qs[i].2 ps[i].2
theorem Pv.next {w w' : World} {ps : List Pd} {qs : List (Int × Value)} (h : Pv w ps qs) (hb : Below w.heap.size w w') : Pv w' ps qs :=
  ⟨h.len, fun i h1 h2 => ⟨(h.hd i h1 h2).1, (h.hd i h1 h2).2.below hb⟩⟩
theorem Pv.push {w : World} {ps : List Pd} {qs : List (Int × Value)} (h : Pv w ps qs) {x : Int} {u : Value} {l : List Sy} (hs : Syms w u l) : Pv w (ps ++ [(x, l)]) (qs ++ [(x, u)]) := by
  refine ⟨by simp [h.len], fun i h1 h2 => ?_⟩
  by_cases e : i < qs.length
  · have e' : i < ps.length := by rw [← h.len]; exact e
    rw [List.getElem_append_left e, List.getElem_append_left e']
    exact h.hd i e e'
  · have e1 : i = qs.length := by simp at h1; omega
    subst e1
    rw [List.getElem_append_right (Nat.le_refl _), List.getElem_append_right (by rw [h.len]; exact Nat.le_refl _)]
    simp [h.len]
    exact hs
theorem pds_vals {w : World} {ao : Option Addr} {m c : Nat} {ps : List Pd} (h : Pds w (.slice ao m c) ps) : ∃ qs, Pv w ps qs ∧ m = ps.length ∧ ps.length ≤ 9223372036854775807 ∧ (ps = [] ∨ ∃ b o, ao = some ⟨b, o, none⟩ ∧ ∀ j u, (vps qs)[j]? = some u → w.cell? ⟨b, o + j, none⟩ = some u) ∧ ∀ u ∈ vps qs, u.oneCell' = true := by
  obtain ⟨ao', cap, e, hm, h⟩ := h
  injection e with e1 e2 e3
  subst e1 e2 e3
  rcases h with rfl | ⟨b, o, h1, h2, h3⟩
  · exact ⟨[], ⟨rfl, fun i h => by simp at h⟩, rfl, hm, Or.inl rfl, fun u hu => by simp [vps] at hu⟩
  · obtain ⟨qs, g1, g2⟩ := list_of ps.length (fun i (z : Int × Value) => ∃ hi : i < ps.length, z.1 = ps[i].1 ∧ w.cell? ⟨b, o + i * 2, none⟩ = some (.int .i64 z.1) ∧ w.cell? ⟨b, o + i * 2 + 1, none⟩ = some z.2 ∧ Syms w z.2 ps[i].2) fun i hi => by
      obtain ⟨k1, u, k2, k3⟩ := h3 i hi
      exact ⟨(ps[i].1, u), hi, rfl, k1, k2, k3⟩
    refine ⟨qs, ⟨g1, fun i h h' => ?_⟩, rfl, hm, Or.inr ⟨b, o, h1, fun j u hu => ?_⟩, fun u hu => ?_⟩
    · obtain ⟨_, k1, _, _, k4⟩ := g2 i h
      exact ⟨k1, k4⟩
    · have hj : j < qs.length * 2 := by have := (List.getElem?_eq_some_iff.1 hu).1; rwa [vps_length] at this
      have hq : j / 2 < qs.length := by omega
      obtain ⟨_, -, k2, k3, -⟩ := g2 (j / 2) hq
      obtain ⟨e1, e2⟩ := vps_at qs (j / 2) hq
      rcases Nat.mod_two_eq_zero_or_one j with h0 | h0
      · have e : j = j / 2 * 2 := by omega
        rw [← e] at e1 k2
        rw [k2, ← e1, hu]
      · have e : j = j / 2 * 2 + 1 := by omega
        rw [← e] at e2
        rw [show o + j / 2 * 2 + 1 = o + j by omega] at k3
        rw [k3, ← e2, hu]
    · simp only [vps, List.mem_flatMap] at hu
      obtain ⟨z, hz, hu⟩ := hu
      obtain ⟨i, hi, rfl⟩ := List.getElem_of_mem hz
      obtain ⟨_, -, -, -, k4⟩ := g2 i hi
      simp at hu
      rcases hu with rfl | rfl
      · rfl
      · obtain ⟨so, sc, e, -⟩ := k4
        rw [e]; rfl
theorem pds_vals2 {w : World} {ao : Option Addr} {m c : Nat} {ps : List Pd} (h : Pds w (.slice ao m c) ps) : ∃ qs, Pv w ps qs ∧ m = ps.length ∧ ps.length ≤ 9223372036854775807 ∧ (ps = [] ∨ ∃ b o, ao = some ⟨b, o, none⟩ ∧ b < w.heap.size ∧ ∀ j u, (vps qs)[j]? = some u → w.cell? ⟨b, o + j, none⟩ = some u) ∧ ∀ u ∈ vps qs, u.oneCell' = true := by
  obtain ⟨ao', cap, e, hm, h⟩ := h
  injection e with e1 e2 e3
  subst e1 e2 e3
  rcases h with rfl | ⟨b, o, h1, h2, h3⟩
  · exact ⟨[], ⟨rfl, fun i h => by simp at h⟩, rfl, hm, Or.inl rfl, fun u hu => by simp [vps] at hu⟩
  · obtain ⟨qs, g1, g2⟩ := list_of ps.length (fun i (z : Int × Value) => ∃ hi : i < ps.length, z.1 = ps[i].1 ∧ w.cell? ⟨b, o + i * 2, none⟩ = some (.int .i64 z.1) ∧ w.cell? ⟨b, o + i * 2 + 1, none⟩ = some z.2 ∧ Syms w z.2 ps[i].2) fun i hi => by
      obtain ⟨k1, u, k2, k3⟩ := h3 i hi
      exact ⟨(ps[i].1, u), hi, rfl, k1, k2, k3⟩
    refine ⟨qs, ⟨g1, fun i h h' => ?_⟩, rfl, hm, Or.inr ⟨b, o, h1, h2, fun j u hu => ?_⟩, fun u hu => ?_⟩
    · obtain ⟨_, k1, _, _, k4⟩ := g2 i h
      exact ⟨k1, k4⟩
    · have hj : j < qs.length * 2 := by have := (List.getElem?_eq_some_iff.1 hu).1; rwa [vps_length] at this
      have hq : j / 2 < qs.length := by omega
      obtain ⟨_, -, k2, k3, -⟩ := g2 (j / 2) hq
      obtain ⟨e1, e2⟩ := vps_at qs (j / 2) hq
      rcases Nat.mod_two_eq_zero_or_one j with h0 | h0
      · have e : j = j / 2 * 2 := by omega
        rw [← e] at e1 k2
        rw [k2, ← e1, hu]
      · have e : j = j / 2 * 2 + 1 := by omega
        rw [← e] at e2
        rw [show o + j / 2 * 2 + 1 = o + j by omega] at k3
        rw [k3, ← e2, hu]
    · simp only [vps, List.mem_flatMap] at hu
      obtain ⟨z, hz, hu⟩ := hu
      obtain ⟨i, hi, rfl⟩ := List.getElem_of_mem hz
      obtain ⟨_, -, -, -, k4⟩ := g2 i hi
      simp at hu
      rcases hu with rfl | rfl
      · rfl
      · obtain ⟨so, sc, e, -⟩ := k4
        rw [e]; rfl
theorem pds_of_vals {w : World} {base : Nat} {a : Option Addr} {m c : Nat} {ps : List Pd} {qs : List (Int × Value)} (h : w.ownsRow base 36 2 (.slice a m c) m (vps qs)) (hv : Pv w ps qs) (hm : ps.length ≤ 9223372036854775807) : Pds w (.slice a m c) ps := by
  have hlm : m = ps.length := by have := h.1; rw [vps_length, hv.len] at this; omega
  subst hlm
  obtain ⟨hl, ⟨h1, h2⟩ | ⟨g, cap, cur, e, hg, hh, hn, hc, hs, ht⟩⟩ := h
  · simp only [Value.slice.injEq] at h1
    obtain ⟨rfl, e2, rfl⟩ := h1
    have : ps = [] := List.length_eq_zero_iff.1 e2
    subst this
    exact ⟨none, 0, rfl, by simp, Or.inl rfl⟩
  · simp only [Value.slice.injEq] at e
    obtain ⟨rfl, -, rfl⟩ := e
    have key : ∀ j, j < ps.length * 2 → w.cell? ⟨g, 0 + j, none⟩ = (vps qs)[j]? := fun j hj => by
      have e : w.cell? ⟨g, 0 + j, none⟩ = cur[j]? := by simp [World.cell?, hh]
      rw [e]
      have h2 : (cur.toList.take (ps.length * 2))[j]? = (vps qs)[j]? := by rw [ht]
      rw [List.getElem?_take_of_lt hj] at h2
      rw [← h2]; simp
    refine ⟨some ⟨g, 0, none⟩, c, rfl, hm, Or.inr ⟨g, 0, rfl, heap_lt3 hh, fun i hi => ?_⟩⟩
    have hq : i < qs.length := by rw [hv.len]; exact hi
    obtain ⟨e1, e2⟩ := vps_at qs i hq
    obtain ⟨k1, k2⟩ := hv.hd i hq hi
    refine ⟨by rw [key (i * 2) (by omega), e1, k1], qs[i].2, by rw [show 0 + i * 2 + 1 = 0 + (i * 2 + 1) by omega, key (i * 2 + 1) (by omega), e2], k2⟩

set_option maxHeartbeats 1600000 in
set_option maxRecDepth 20000 in
theorem clonep_at (p : Addr) (cap n : Nat) (xs : List Value) (w : World) (hl : xs.length = n * 2) (h1 : ∀ u ∈ xs, u.oneCell' = true) (hc : ∀ j u, xs[j]? = some u → w.cell? (p.add j) = some u) (hn : n ≤ 4398046510976) :
    Calls Try.prog 9 #[.slice (some p) n cap] w fun e w' => ∃ a2 c2, e = .returned (.slice a2 n c2) ∧ w'.ownsRow w.heap.size 36 2 (.slice a2 n c2) n xs ∧ Below w.heap.size w w' := by
  obtain ⟨i3, hi3, hz3, hs3, hb3⟩ := info_parts info36
  have H3 : Hid (Try.prog.info? 36 = some i3 ∧ i3.zero = some (.agg #[.int .i64 0, .slice none 0 0]) ∧ i3.size = 2 ∧ i3.bytes = 32) := ⟨hi3, hz3, hs3, hb3⟩
  have HC : Hid (∀ j u, xs[j]? = some u → w.cell? (p.add j) = some u) := hc
  have HL : Hid (xs.length = n * 2 ∧ ∀ u ∈ xs, u.oneCell' = true) := ⟨hl, h1⟩
  clear hi3 hz3 hs3 hb3 hc hl h1
  have q25 : ∀ (w : World) (a : Option Addr) (n c n' c' : Nat), (binOp .eql 22 (.slice a n c) (.slice none n' c')).run Try.prog w = .ok (.bool a.isNone) w := fun w a n c n' c' => Go.Lib.run_eql_slice_nil w _ _ a n c n' c' Try.underlying22
  go_enter Try.func9, Try.ntmps9
  go_wp2_with (at_builtin; refine wpList_append_own _ rfl _ _ 22 rfl w.heap.size 36 i3 (.agg #[.int .i64 0, .slice none 0 0]) 2 32 Try.underlying22 H3.out.1 H3.out.2.1 H3.out.2.2.1 H3.out.2.2.2 rfl (by omega) _ _ _ rfl (World.ownsRow_made w #[] 0 (Nat.le_refl _) (Nat.zero_le _) (by simp)) p n cap xs rfl ?qc1 ?qc2 ?qc3 ?qc4 ?qc5 ?qc6 ?_)
  case qc1 => exact HL.out.1
  case qc2 =>
    intro j u hj
    exact Go.Lib.cell?_alloc_some _ (HC.out j u hj)
  case qc3 => exact HL.out.2
  case qc4 => rw [Nat.zero_add]; simp [maxLen]; omega
  case qc5 => omega
  case qc6 => simp
  intro v' w1 hown hgrow hnil
  have HO : Hid (w1.ownsRow w.heap.size 36 2 v' n xs) := by
    show World.ownsRow _ _ _ _ _ _ _
    simpa using hown
  have HB : Hid (Below w.heap.size w w1) := ((Below.refl _ w).alloc (Nat.le_refl _) _).grown hgrow (by simp) (by intro k hk; simp [Value.ownBlock] at hk; omega)
  obtain ⟨a2, c2, rfl⟩ : ∃ a2 c2, v' = .slice a2 n c2 := by
    obtain ⟨_, ⟨e1, e2⟩ | ⟨g, cp, cur, hv, _⟩⟩ := HO.out
    · exact ⟨none, 0, by rw [e1, e2]⟩
    · exact ⟨_, cp, hv⟩
  clear hown hgrow hnil
  go_wp2_with fail
  go_ret
  exact ⟨a2, c2, rfl, HO.out, HB.out⟩
set_option maxRecDepth 20000 in
theorem clonep_none (n cap : Nat) (w : World) :
    Calls Try.prog 9 #[.slice none n cap] w fun e w' => e = .returned (.slice none 0 0) ∧ w' = w := by
  have q25 : ∀ (w : World) (a : Option Addr) (n c n' c' : Nat), (binOp .eql 22 (.slice a n c) (.slice none n' c')).run Try.prog w = .ok (.bool a.isNone) w := fun w a n c n' c' => Go.Lib.run_eql_slice_nil w _ _ a n c n' c' Try.underlying22
  go_enter Try.func9, Try.ntmps9
  go_wp2_with fail
  go_ret
  exact ⟨rfl, rfl⟩
theorem clone_prods {ao : Option Addr} {m c : Nat} {ps : List Pd} {w : World} (h : Pds w (.slice ao m c) ps) (hl : m ≤ 4398046510976) : ∃ qs, Pv w ps qs ∧ m = ps.length ∧
    Calls Try.prog 9 #[.slice ao m c] w fun e w' => ∃ a2 c2, e = .returned (.slice a2 m c2) ∧ w'.ownsRow w.heap.size 36 2 (.slice a2 m c2) m (vps qs) ∧ Below w.heap.size w w' := by
  obtain ⟨qs, hv, hm, -, hc, h1⟩ := pds_vals h
  refine ⟨qs, hv, hm, ?_⟩
  cases ao with
  | none =>
    have e : ps = [] := by
      rcases hc with h | ⟨b, o, h, -⟩
      · exact h
      · cases h
    have e2 : qs = [] := List.length_eq_zero_iff.1 (by rw [hv.len, e]; rfl)
    have e3 : m = 0 := by rw [hm, e]; rfl
    subst e2 e3
    refine (clonep_none _ _ _).mono ?_
    rintro _ w' ⟨rfl, rfl⟩
    exact ⟨none, 0, rfl, World.ownsRow_nil _ _ _ _, Below.refl _ _⟩
  | some p =>
    refine clonep_at p c m (vps qs) w (by rw [vps_length, hv.len, hm]) h1 (fun j u hu => ?_) hl
    rcases hc with h | ⟨b, o, h, h3⟩
    · have e2 : qs = [] := List.length_eq_zero_iff.1 (by rw [hv.len, h]; rfl)
      subst e2; simp [vps] at hu
    · injection h with h
      subst h
      rw [Addr.add_lit]; exact h3 j u hu
theorem app_prods {wb W : World} {a : Option Addr} {n c gb : Nat} {xs : List Value} {h : Int} {uo : Option Addr} {ul uc : Nat} (hown : W.ownsRow wb.heap.size 36 2 (.slice a n c) n xs) (hbl : Below wb.heap.size wb W) (hb : W.heap[gb]? = some (Obj.cells #[.int .i64 h, .slice uo ul uc] 36)) (hl : n ≤ 4398046510976) :
    ∃ ra rc V, (Builtin.append_ #[22, 22] 22 #[.slice a n c, .slice (some ⟨gb, 0, none⟩) 1 1]).run Try.prog W = .ok (.slice ra (n + 1) rc) V ∧ V.ownsRow wb.heap.size 36 2 (.slice ra (n + 1) rc) (n + 1) (xs ++ [.int .i64 h, .slice uo ul uc]) ∧ Below wb.heap.size wb V ∧ W.grownBy V (Value.ownBlock (.slice a n c)) ∧ (Value.ownBlock (.slice ra (n + 1) rc) = Value.ownBlock (.slice a n c) ∨ Value.ownBlock (.slice ra (n + 1) rc) = some W.heap.size) := by
  obtain ⟨i1, hi1, hy0, hy1, hy2⟩ := info_parts info36
  have hoth : Oth W (some ⟨gb, 0, none⟩) 1 1 [.int .i64 h, .slice uo ul uc] := ⟨fun h => (by cases h), fun _ => ⟨gb, 0, rfl, fun j u hu => by
    rw [Nat.zero_add, tcell_blk hb j]
    simpa using hu⟩⟩
  obtain ⟨ra, rc, V, k1, k2, k3, k4⟩ := append_any (W := W) (base := wb.heap.size) 22 36 i1 _ 2 32 Try.underlying22 hi1 hy0 hy1 hy2 rfl (by decide) (.slice a n c) n _ hown (some ⟨gb, 0, none⟩) 1 1 [.int .i64 h, .slice uo ul uc] (by simp) hoth (by intro u hu; simp at hu; rcases hu with rfl | rfl <;> rfl) (by omega) (by omega) hbl.size
  refine ⟨ra, rc, V, k1, k2, ?_, k3, k4⟩
  exact hbl.trans ⟨k3.os, k3.tape, k3.output, k3.size, fun j hj => k3.block j (by have := hbl.size; omega) fun e => by have := own_ge hown j e.symm; omega⟩
section
variable {H : Type} {enc : TypeId × Value → H}
set_option maxRecDepth 20000 in
theorem open_prod {W : World} {r : Reach} {b0 : Nat} {v : Value} {d : DataW H} {p : List MemPlace} (hv : Value.okWide Try.prog W r b0 36 v) (h : DataW.Trod enc Try.prog W 0 (fun _ => true) true 36 v d p) :
    ∃ x u l, v = .agg #[.int .i64 x, u] ∧ Syms W u l := by
  obtain ⟨cs, rfl, hsz⟩ := okWide_struct Try.underlying36 hv
  obtain ⟨fuel, hf⟩ := h
  obtain ⟨xs, n, hn, _, hl, hxl, hf⟩ := DataW.trod_struct Try.underlying36 hf
  rw [kcells36] at hl
  simp only [Value.cells] at hl hf
  obtain ⟨L⟩ := cs
  simp only at hl hf
  match L, hl with
  | [x0, x1], _ =>
    match xs, hxl with
    | [y0, y1], _ =>
      have f0 := hf 0 _ rfl
      have f1 := hf 1 _ rfl
      simp [kcells3, kcells34] at f0 f1
      obtain ⟨z0, e0, _, _⟩ := DataW.trod_int Try.underlying3 f0
      obtain ⟨u, l1, e1, g1⟩ := open_syms f1
      simp at e0 e1
      subst e0 e1
      exact ⟨z0, x1, l1, rfl, g1⟩
end
theorem tk_keep {w w' : World} {B : Nat} {e : TypeId} {size : Nat} {v : Value} {n : Nat} {xs : List Value} (h : w.ownsRow B e size v n xs) (hb : ∀ b, v.ownBlock = some b → w'.heap[b]? = w.heap[b]?) : w'.ownsRow B e size v n xs := by
  refine ⟨h.1, h.2.imp id ?_⟩
  rintro ⟨g, cap, cur, rfl, h1, h2, h3⟩
  exact ⟨g, cap, cur, rfl, h1, (hb g rfl).trans h2, h3⟩
theorem own_lt {w : World} {B : Nat} {e : TypeId} {size : Nat} {v : Value} {n : Nat} {xs : List Value} (h : w.ownsRow B e size v n xs) {b : Nat} (hb : v.ownBlock = some b) : b < w.heap.size := by
  rcases h.2 with ⟨rfl, _⟩ | ⟨g, cap, cur, rfl, h1, h2, h3⟩
  · simp [Value.ownBlock] at hb
  · simp [Value.ownBlock] at hb; subst hb; exact heap_lt3 h2
end Go.Proofs.Ytmcmidfpglhnmab
