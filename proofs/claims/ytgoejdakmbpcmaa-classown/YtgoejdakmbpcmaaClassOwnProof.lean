/-
  The law ClassOwn holds: for every list of classes the Go text returns true.
-/
import Derived.Test.YtgoejdakmbpcmaaRows
import Derived.WalkKit
import Derived.ProofKit
import Derived.OpenShut
import Derived.ShutString
import Derived.SizedLaws
import Derived.ChangeOld
import Derived.Below
import Derived.Carry
import Derived.WalkLawsBesides
import Derived.WalkSpells
import Derived.Test.YtgoejdakmbpcmaaOpens
import Derived.Test.YtgoejdakmbpcmaaRoomy
namespace Go.Proofs.Ytgoejdakmbpcmaa.classOwn
open Go.ChangeShapes Go.WideShapes Go.ChangeAt Go.RowKit
open Go.ChangeMaps (open_string shut_string)
open Cls
set_option linter.unusedVariables false

theorem own : ownKnob Try.prog.godebug = none := by kernel_rfl
theorem laidOut : laidOutB Try.prog = true := by kernel_rfl

variable {H : Type} {enc : TypeId × Value → H}
theorem open_cls_own {W : World} {v : Value} {d : DataW H} {p : List MemPlace} {r : Reach} {b0 : Nat} (hv : Value.okWide Try.prog W r b0 36 v) (h : DataW.Trod enc Try.prog W 0 (fun _ => true) true 36 v d p) :
    ∃ l : List Cl, Cs W v l ∧ (v = .slice none 0 0 ∨ ∃ ad n c, v = .slice (some ad) n c) ∧ (l = [] ∨ ∃ el sp, d = .slice el sp ∧ el.length = l.length) := by
  obtain ⟨l, h1, h2⟩ := open_cls_wide hv h
  refine ⟨l, h1, ?_, h2⟩
  obtain ⟨a, len, cap, rfl⟩ := okWide_slice Try.underlying36 hv
  obtain ⟨fuel, hf⟩ := h
  rcases Go.Deep.open_slice Try.underlying36 hf with ⟨hcs, hx⟩ | ⟨a', len', cap', m, n, D, Pl, hcs, _⟩
  · simp [Value.cells] at hcs
    obtain ⟨rfl, rfl, rfl⟩ := hcs
    exact Or.inl rfl
  · simp [Value.cells] at hcs
    obtain ⟨rfl, rfl, rfl⟩ := hcs
    exact Or.inr ⟨_, _, _, rfl⟩
theorem ref_nil : (ref []).length = 1 := by
  have := Inv.start.sorted (List.Perm.refl _) (List.pairwise_singleton _ _)
  rw [← this]; rfl
/-- The list within a row that has more behind it. -/
theorem cs_front {w : World} {base g cap : Nat} {l m : List Cl} (h : w.ownsRow base 24 4 (.slice (some ⟨g, 0, none⟩) (l.length + m.length) cap) (l.length + m.length) (cs (l ++ m))) (hm : l.length ≤ 9223372036854775807) (h0 : 0 < m.length) : Cs w (.slice (some ⟨g, 0, none⟩) l.length cap) l := by
  refine ⟨_, _, rfl, hm, Or.inr ⟨g, 0, rfl, own_lt h, fun i hi j hj => ?_⟩⟩
  have h' : w.ownsRow base 24 4 (.slice (some ⟨g, 0, none⟩) (l ++ m).length cap) (l ++ m).length (cs (l ++ m)) := by rw [List.length_append]; exact h
  obtain ⟨g2, cap2, e1, _, _, _, _, e6⟩ := own_cells h' (by rw [List.length_append]; omega)
  simp only [Value.slice.injEq, Option.some.injEq, Addr.mk.injEq] at e1
  obtain ⟨⟨rfl, _⟩, _, rfl⟩ := e1
  have := e6 i (by rw [List.length_append]; omega) j hj
  rw [Nat.zero_add, this, List.getElem_append_left hi]
theorem behind_cells {w : World} {base g cap : Nat} {l : List Cl} {f : Cl} (h : w.ownsRow base 24 4 (.slice (some ⟨g, 0, none⟩) (l.length + 2) cap) (l.length + 2) (cs (l ++ [f, f]))) (k : Nat) (hk : k < 2) (j : Nat) (hj : j < 4) : w.cell? ⟨g, (l.length + k) * 4 + j, none⟩ = some (.int .u64 ((wd f j).toNat : Int)) := by
  have h' : w.ownsRow base 24 4 (.slice (some ⟨g, 0, none⟩) (l ++ [f, f]).length cap) (l ++ [f, f]).length (cs (l ++ [f, f])) := by rw [List.length_append]; exact h
  obtain ⟨g2, cap2, e1, _, _, _, _, e6⟩ := own_cells h' (by rw [List.length_append]; simp)
  simp only [Value.slice.injEq, Option.some.injEq, Addr.mk.injEq] at e1
  obtain ⟨⟨rfl, _⟩, _, rfl⟩ := e1
  have := e6 (l.length + k) (by simp; omega) j hj
  rw [this, List.getElem_append_right (by omega)]
  have : k = 0 ∨ k = 1 := by omega
  rcases this with rfl | rfl <;> simp
theorem row_block {w : World} {base g n cap : Nat} {xs : List Value} (h : w.ownsRow base 24 4 (.slice (some ⟨g, 0, none⟩) n cap) n xs) : ∃ cur, w.heap[g]? = some (.cells cur 24 (0, 0)) ∧ cur.size = cap * 4 ∧ cap ≤ 9223372036854775807 ∧ n ≤ cap := by
  obtain ⟨_, ⟨h1, _⟩ | ⟨g', cap', cur, hv, _, hh, hn, hc, hs, _⟩⟩ := h
  · cases h1
  · simp only [Value.slice.injEq, Option.some.injEq, Addr.mk.injEq] at hv
    obtain ⟨⟨rfl, _⟩, _, rfl⟩ := hv
    exact ⟨cur, hh, hs, by unfold maxLen at hc; omega, hn⟩
theorem clone_any (base g n cap : Nat) (l : List Cl) (w : World) (hl : l.length = n) (hn : n ≤ 256) (hown : w.ownsRow base 24 4 (.slice (some ⟨g, 0, none⟩) n cap) n (cs l)) :
    Calls Try.prog 28 #[.slice (some ⟨g, 0, none⟩) n cap] w fun e w' => ∃ v', e = .returned v' ∧ w'.ownsRow w.heap.size 24 4 v' n (cs l) ∧ Below w.heap.size w w' := by
  obtain ⟨i0, hi, hz0, hz1, hz2⟩ := info_parts info24
  obtain ⟨cur, h1, h2, h3, h4⟩ := row_block hown
  have hcon := AnyE.slices_Clone Try.cloneCls i0 _ 4 32 hi hz0 hz1 hz2 rfl (by omega) Try.sizeOf24 g 0 n cap (cs l) w (by rw [cs_length, hl]) (by unfold maxLen; omega) (by omega) (fun j u hj => by
    have hjl : j < n * 4 := by
      rcases Nat.lt_or_ge j (n * 4) with h' | h'
      · exact h'
      · rw [List.getElem?_eq_none (by rw [cs_length, hl]; exact h')] at hj; cases hj
    subst hl
    obtain ⟨g2, cap2, e1, _, _, _, _, e6⟩ := own_cells hown (by omega)
    simp only [Value.slice.injEq, Option.some.injEq, Addr.mk.injEq] at e1
    obtain ⟨⟨rfl, _⟩, _, rfl⟩ := e1
    have h5 := cs_at l (j / 4) (by omega) (j % 4) (Nat.mod_lt _ (by omega))
    rw [show j / 4 * 4 + j % 4 = j by omega, hj] at h5
    have h6 := e6 (j / 4) (by omega) (j % 4) (Nat.mod_lt _ (by omega))
    rw [show j / 4 * 4 + j % 4 = j by omega] at h6
    rw [Nat.zero_add, h6, ← h5]) (cs_one l)
  change Calls Try.prog 28 _ _ _ at hcon
  exact hcon.mono fun e w' ⟨v', k1, k2, _, k4⟩ => ⟨v', k1, k2, k4⟩
def c7 : Cl := (7#64, 0#64, 0#64, 0#64)
def c9 : Cl := (9#64, 0#64, 0#64, 0#64)
def c5 : Cl := (5#64, 0#64, 0#64, 0#64)
theorem cs_grown {W W' : World} {v : Value} {l : List Cl} {g : Nat} (h : Cs W v l) (hg : W.grownBy W' (some g)) (hne : ∀ j, v.ownBlock = some j → j ≠ g) : Cs W' v l := by
  obtain ⟨ao, cap, rfl, hm, h | ⟨b, o, rfl, h2, h3⟩⟩ := h
  · exact ⟨ao, cap, rfl, hm, Or.inl h⟩
  · exact ⟨_, cap, rfl, hm, Or.inr ⟨b, o, rfl, Nat.lt_of_lt_of_le h2 hg.size, fun i hi j hj => cell_grown' (h3 i hi j hj) hg (fun e => hne b rfl (Option.some.inj e))⟩⟩

/-! ### The walk: the Go text returns true. -/
set_option maxHeartbeats 4000000 in
set_option maxRecDepth 20000 in
theorem walk (v0 : Value) (a0l : List Cls.Cl) (w : World) (w0s : Cs w v0 a0l) (w0x : v0 = .slice none 0 0 ∨ ∃ ad n c, v0 = .slice (some ad) n c) (w0z : a0l.length ≤ 4398046510976) :
    Calls Try.prog 8 #[v0] w fun e w' => e = .returned (.bool true) ∧ Below w.heap.size w w' := by
  have hs := w0s
  obtain ⟨ao, cap, rfl, hm, _⟩ := hs
  have HS : Hid (Cs w (.slice ao a0l.length cap) a0l) := w0s
  have HX : Hid ((.slice ao a0l.length cap : Value) = .slice none 0 0 ∨ ∃ ad n c, (.slice ao a0l.length cap : Value) = .slice (some ad) n c) := w0x
  have HSB : Hid (∀ j, (.slice ao a0l.length cap : Value).ownBlock = some j → a0l = [] ∨ j < w.heap.size) := by
    intro j hj
    obtain ⟨ao', cap', e, _, h | ⟨b, o, e2, h3, _⟩⟩ := w0s
    · exact Or.inl h
    · simp only [Value.slice.injEq] at e
      obtain ⟨rfl, _⟩ := e
      subst e2
      simp [Value.ownBlock] at hj
      exact Or.inr (by omega)
  clear w0s w0x
  have hrl : (ref a0l).length ≤ 256 := refTo_length a0l 256
  have hr0 : ((ref []).length : Int) = 1 := by rw [ref_nil]; rfl
  go_enter Try.func8, Try.ntmps8
  go_wp2_with fail
  refine (parts_any [] _ w (cs_nil w)).mono ?_
  rintro e w1 ⟨g1, cp1, rfl, _, hb1⟩
  go_wp2_with fail
  have h27 := roomy_any a0l _ c7 w1 (HS.out.below hb1 (Nat.le_refl _)) HX.out w0z
  rw [show (.agg #[.int .u64 (c7.1.toNat : Int), .int .u64 (c7.2.1.toNat : Int), .int .u64 (c7.2.2.1.toNat : Int), .int .u64 (c7.2.2.2.toNat : Int)] : Value) = .agg #[.int .u64 7, .int .u64 0, .int .u64 0, .int .u64 0] from rfl] at h27
  refine h27.mono ?_
  clear h27
  rintro e w2 ⟨gm, rfl, own2, hb2⟩
  have B2 : Hid (Below w.heap.size w w2) := hb1.trans (hb2.mono hb1.size)
  have C2 : Hid (Cs w2 (.slice (some ⟨gm, 0, none⟩) a0l.length (a0l.length + 3)) a0l) := cs_front (m := [c7, c7]) own2 (by omega) (by simp)
  have lo2 : w1.heap.size ≤ gm := own_base own2
  have hi2 : gm < w2.heap.size := own_lt own2
  have O2 : Hid _ := own2
  clear own2
  go_wp2_with fail
  refine (parts_any a0l _ w2 C2.out).mono ?_
  rintro e w3 ⟨ga, ca, rfl, own3, hb3⟩
  have lo3 : w2.heap.size ≤ ga := own_base own3
  have O3 : Hid _ := own3
  clear own3
  go_wp2_with fail
  refine (clone_any _ ga _ ca (ref a0l) w3 rfl hrl O3.out).mono ?_
  rintro e w4 ⟨v4, rfl, own4, hb4⟩
  have O4 : Hid _ := own4
  clear own4
  have B34 : Hid (Below w2.heap.size w2 w4) := hb3.trans (hb4.mono hb3.size)
  have B4 : Hid (Below w.heap.size w w4) := B2.out.trans (B34.out.mono B2.out.size)
  go_wp2_with fail
  refine (equal_same a0l _ _ w4 (C2.out.below B34.out (Nat.le_refl _)) (HS.out.below B4.out (Nat.le_refl _))).mono ?_
  rintro e w5 ⟨rfl, hb5⟩
  have B5 : Hid (Below w2.heap.size w2 w5) := B34.out.trans (hb5.mono B34.out.size)
  have O5 := own_below O2.out B5.out (Nat.le_refl _)
  have h29 := filled_any gm a0l.length (a0l.length + 3) c7 w5 (by omega) w0z (fun j hj => by have := behind_cells O5 0 (by omega) j hj; rwa [Nat.add_zero] at this) (fun j hj => behind_cells O5 1 (by omega) j hj)
  rw [show (.agg #[.int .u64 (c7.1.toNat : Int), .int .u64 (c7.2.1.toNat : Int), .int .u64 (c7.2.2.1.toNat : Int), .int .u64 (c7.2.2.2.toNat : Int)] : Value) = .agg #[.int .u64 7, .int .u64 0, .int .u64 0, .int .u64 0] from rfl] at h29
  clear O5
  go_wp2_with fail
  refine h29.mono ?_
  rintro e w6 ⟨rfl, hb6⟩
  go_wp2_with fail
  have B6 : Hid (Below w2.heap.size w2 w6) := B5.out.trans (hb6.mono B5.out.size)
  obtain ⟨cur, k1, k2, k3, k4⟩ := row_block (own_below O2.out B6.out (Nat.le_refl _))
  have h30 := spoil_any gm a0l.length (a0l.length + 3) c9 w6 cur (by omega) k3 k1 k2
  rw [show (.agg #[.int .u64 (c9.1.toNat : Int), .int .u64 (c9.2.1.toNat : Int), .int .u64 (c9.2.2.1.toNat : Int), .int .u64 (c9.2.2.2.toNat : Int)] : Value) = .agg #[.int .u64 9, .int .u64 0, .int .u64 0, .int .u64 0] from rfl] at h30
  refine h30.mono ?_
  clear h30 k1 k2 k3 k4
  rintro e w7 ⟨rfl, gr7⟩
  have hz6 := B6.out.size
  have BW6 : Hid (Below w.heap.size w w6) := B2.out.trans (B6.out.mono B2.out.size)
  have BW7 : Hid (Below w.heap.size w w7) := BW6.out.grown gr7 BW6.out.size (fun j hj => by cases hj; have := hb1.size; omega)
  have CA6 : Hid (Cs w6 (.slice (some ⟨ga, 0, none⟩) (ref a0l).length ca) (ref a0l)) := (cs_of_own O3.out (by omega)).below (hb4.trans ((hb5.trans (hb6.mono hb5.size)).mono hb4.size)) (Nat.le_refl _)
  have CV6 : Hid (Cs w6 v4 (ref a0l)) := (cs_of_own O4.out (by omega)).below (hb5.trans (hb6.mono hb5.size)) (Nat.le_refl _)
  go_wp2_with fail
  refine (equal_same (ref a0l) _ _ w7 (cs_grown CA6.out gr7 (fun j hj => by simp [Value.ownBlock] at hj; omega)) (cs_grown CV6.out gr7 (fun j hj => by have := own_ge' O4.out j hj; have := hb3.size; omega))).mono ?_
  rintro e w8 ⟨rfl, hb8⟩
  have BW8 : Hid (Below w.heap.size w w8) := BW7.out.trans (hb8.mono BW7.out.size)
  go_wp2_with fail
  have h27 := roomy_any a0l _ c7 w8 (HS.out.below BW8.out (Nat.le_refl _)) HX.out w0z
  rw [show (.agg #[.int .u64 (c7.1.toNat : Int), .int .u64 (c7.2.1.toNat : Int), .int .u64 (c7.2.2.1.toNat : Int), .int .u64 (c7.2.2.2.toNat : Int)] : Value) = .agg #[.int .u64 7, .int .u64 0, .int .u64 0, .int .u64 0] from rfl] at h27
  refine h27.mono ?_
  clear h27
  rintro e w9 ⟨gn, rfl, own9, hb9⟩
  have C9 : Hid (Cs w9 (.slice (some ⟨gn, 0, none⟩) a0l.length (a0l.length + 3)) a0l) := cs_front (m := [c7, c7]) own9 (by omega) (by simp)
  have hi9 : gn < w9.heap.size := own_lt own9
  have BW9 : Hid (Below w.heap.size w w9) := BW8.out.trans (hb9.mono BW8.out.size)
  clear own9
  go_wp2_with fail
  refine (parts_any a0l _ w9 C9.out).mono ?_
  rintro e w10 ⟨gb, cb, rfl, own10, hb10⟩
  have lo10 : w9.heap.size ≤ gb := own_base own10
  have BW10 : Hid (Below w.heap.size w w10) := BW9.out.trans (hb10.mono BW9.out.size)
  obtain ⟨cur2, k1, k2, k3, k4⟩ := row_block own10
  have h30 := spoil_any gb (ref a0l).length cb c5 w10 cur2 k4 k3 k1 k2
  rw [show (.agg #[.int .u64 (c5.1.toNat : Int), .int .u64 (c5.2.1.toNat : Int), .int .u64 (c5.2.2.1.toNat : Int), .int .u64 (c5.2.2.2.toNat : Int)] : Value) = .agg #[.int .u64 5, .int .u64 0, .int .u64 0, .int .u64 0] from rfl] at h30
  clear k1 k2 k3 k4 own10
  go_wp2_with fail
  refine h30.mono ?_
  rintro e w11 ⟨rfl, gr11⟩
  have BW11 : Hid (Below w.heap.size w w11) := BW10.out.grown gr11 BW10.out.size (fun j hj => by cases hj; have := BW9.out.size; omega)
  have h22 := equal_same a0l _ _ w11 (cs_grown (C9.out.below hb10 (Nat.le_refl _)) gr11 (fun j hj => by simp [Value.ownBlock] at hj; omega)) (HS.out.below BW11.out (Nat.le_refl _))
  go_wp2_with fail
  refine h22.mono ?_
  rintro e w12 ⟨rfl, hb12⟩
  go_wp2_with fail
  go_ret
  exact ⟨rfl, BW11.out.trans (hb12.mono BW11.out.size)⟩

/-! ### What the walk gives, for every argument -/
set_option maxRecDepth 100000 in
theorem contract (H : Type) (enc : TypeId × Value → H) (W : World) (base : Nat) (args : Array Value) (ds gs : List (DataW H)) (before : List MemPlace)
    (hval : ∀ (j : Nat) t v, Try.f8.params[j]? = some t → args[j]? = some v → Value.okWide Try.prog W .any base t v)
    (hW : DataW.Whole enc Try.prog Try.f8.params.toList Rows.classOwnSpec.vars false W args.toList ds gs before) (hsz : (DataW.weightsEach Try.prog (Try.f8.params.toList ++ Rows.classOwnSpec.plain.varTypes Try.prog) (ds ++ gs)).all (· ≤ reachBytes) = true) :
    Calls Try.prog 8 args W fun e W' => ∃ v, e = .returned v ∧ Rows.classOwnSpec.post enc Try.prog Try.f8 false true false false W args v W' := by
  have hW' := hW
  obtain ⟨p, q, hA0, hV, rfl, hfz, hnd⟩ := hW
  have hA : DataW.TrodAll enc Try.prog W 0 (fun _ => true) true Try.f8.params.toList args.toList ds p := hA0
  rw [Try.params8] at hA hval hsz
  obtain ⟨v0, vs0, d0, ds0, p0, q0, hargs, rfl, rfl, h0, r0⟩ := trodAll_cons hA
  obtain ⟨rfl, rfl, rfl⟩ := trodAll_nil r0
  obtain rfl : args = #[v0] := by cases args; simp_all
  obtain ⟨rfl, rfl⟩ := trodVars_none hV
  have k0 := h0
  have lt0 : ∀ x ∈ p0, x.block < W.heap.size := by obtain ⟨m, hm⟩ := k0; exact DataW.trod_lt m _ _ _ hm
  obtain ⟨a0l, w0s, w0x, w0y⟩ := open_cls_own (hval 0 36 v0 rfl rfl) h0
  have r0z : a0l.length ≤ 4398046510976 := by
    rcases w0y with h | ⟨el, sp, rfl, h⟩
    · rw [h]; simp
    · have := sized_slice hsz (j := 0) (t := 36) (e := 24) rfl rfl Try.underlying36
      rw [bytes24] at this
      simp only [reachBytes] at this
      omega
  clear hA0
  refine (walk _ a0l W w0s w0x r0z).mono fun e W' ⟨he, bel⟩ => ?_
  subst he
  exact ⟨_, rfl, _, _, _, [], _, [], hW', trodAll_mk1 (shut_bool Try.underlying4 _), (trodAll_cons_mk (Below.trod laidOut (by kernel_rfl) (of_decide_eq_true (by kernel_rfl)) k0 bel lt0) trodAll_mk0), rfl, bel.frame _, fun h => by cases h⟩

/-! ### The row's step -/
set_option maxRecDepth 100000 in
theorem lifted (os : Os) (started : os.Started) (H : Type) (enc : TypeId × Value → H) :
    ReturnsInHanded {} Try.checked os 8 .any (Rows.classOwnSpec.pre6 enc Try.prog Try.f8 Rows.classOwnRow.domain false) (Rows.classOwnSpec.post enc Try.prog Try.f8 false true false false) := by
  refine returnsInHanded_of_change_sized (C := Try.checked) own started (by kernel_rfl) Try.func8
    (ChangeSpec.witness6 (enc := enc) (C := Try.checked) false ⟨#[], #[.slice none 0 0], []⟩ 8 (by kernel_rfl) (by kernel_rfl) (by kernel_rfl) (by kernel_rfl)) ?_
  intro W base args ds gs before hval hW hcnd hsz _
  exact contract H enc W base args ds gs before hval hW hsz

theorem over : Rows.classOwnRow.holds Try.pinned (OpenSpec.ofChange Rows.classOwnSpec) :=
  OpenClaim.holds_of_wide 8 Try.f8 rfl rfl rfl rfl rfl rfl rfl ⟨rfl, rfl, rfl, rfl, rfl⟩ rfl rfl rfl rfl rfl (by kernel_rfl) Try.func8 (by kernel_rfl)
    (of_decide_eq_true (by kernel_rfl)) (by unfold Func.isWrapper; first | (rw [if_pos (by decide +kernel)]; kernel_rfl) | (rw [if_neg (by decide +kernel)]; exact ⟨rfl, rfl⟩))
    (fun os started H enc _ => lifted os started H enc)

end Go.Proofs.Ytgoejdakmbpcmaa.classOwn
namespace Go.Proofs.Ytgoejdakmbpcmaa
/-- The given statement. -/
theorem classOwn_holds : Rows.ClassOwnSaid := classOwn.over
#print axioms classOwn_holds
end Go.Proofs.Ytgoejdakmbpcmaa
