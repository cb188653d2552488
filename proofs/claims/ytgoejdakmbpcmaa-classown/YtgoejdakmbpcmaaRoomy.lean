/-
  The contracts of pushkeep.roomy, filled and spoil at classes: a list with room behind it that is filled; is it as it was; and all of it overwritten.
-/
import Derived.Test.YtgoejdakmbpcmaaSame
import Derived.Laws.OwnMore
import Derived.Laws.MakeOwn
namespace Go.Proofs.Ytgoejdakmbpcmaa
open Go.RowKit
open Cls

theorem below_of_grown {W W1 : World} (h : W.grownBy W1 none) : Below W.heap.size W W1 := ⟨h.os, h.tape, h.output, h.size, fun k hk => h.block k hk (by simp)⟩
/-- An append in a region that draws its order, by its run. -/
theorem step_call_append {P : Program} {ops : Array Oper} {o : Oper} {a : Act} {K : Act → World → Prop} {Q : Exit → Act → World → Prop} {E : Prop} {W W1 : World} {v sv xv : Value} (hgd : o.guard = none) (s x : Operand) (t : TypeId) (ho : o.op = .call { callee := .builtin .append, args := #[s, x], argTypes := #[t, t] })
    (hs : a.eval s = sv) (hx : a.eval x = xv) (hr : (Builtin.append_ #[t, t] o.type #[sv, xv]).run P W = .ok v W1) (h : K (a.put o.dst v) W1) : if Region.wanted o (yielded ops a.tmps) = true then Oper.wp P o a W K Q else E := by
  have hw : Region.wanted o (yielded ops a.tmps) = true := by simp [Region.wanted, hgd]
  rw [if_pos hw]
  unfold Oper.wp
  simp [execOp, ho, resolve, invoke, builtin, hs, hx, hr, Result.andThen]
  exact h
/-- 'append(x, l...)' of a row with room. -/
theorem app_l (W : World) (base gm : Nat) (l : List Cl) (v : Value) (hv : Cs W v l) (hao : v = .slice none 0 0 ∨ ∃ ad n c, v = .slice (some ad) n c) (hown : W.ownsRow base 24 4 (.slice (some ⟨gm, 0, none⟩) 0 (l.length + 3)) 0 []) :
    ∃ W1, (Builtin.append_ #[36, 36] 36 #[.slice (some ⟨gm, 0, none⟩) 0 (l.length + 3), v]).run Try.prog W = .ok (.slice (some ⟨gm, 0, none⟩) l.length (l.length + 3)) W1 ∧ W1.ownsRow base 24 4 (.slice (some ⟨gm, 0, none⟩) l.length (l.length + 3)) l.length (cs l) ∧ W.grownBy W1 (some gm) := by
  obtain ⟨i0, hi, hz0, hz1, hz2⟩ := info_parts info24
  obtain ⟨ao, cap, rfl, hm, hc⟩ := hv
  rcases hao with h | ⟨ad, n, c, h⟩
  · simp only [Value.slice.injEq] at h
    obtain ⟨rfl, hl, rfl⟩ := h
    have : l = [] := List.length_eq_zero_iff.1 hl
    subst this
    exact ⟨W, run_append_owned_none W base 36 36 24 i0 4 Try.underlying36 hi _ _ _ hown, hown, World.grownBy.refl W _⟩
  · simp only [Value.slice.injEq] at h
    obtain ⟨rfl, _, rfl⟩ := h
    have := run_append_fits (P := Try.prog) W base 36 36 24 i0 4 Try.underlying36 hi hz1 gm 0 (l.length + 3) [] hown ad l.length cap (cs l) (cs_length l) (fun j u hj => by
      by_cases h0 : l = []
      · subst h0; simp [cs] at hj
      · obtain ⟨b, o, e, _, h3⟩ := hc.resolve_left h0
        simp only [Option.some.injEq] at e
        subst e
        have hjl : j < l.length * 4 := by
          rcases Nat.lt_or_ge j (l.length * 4) with h' | h'
          · exact h'
          · rw [List.getElem?_eq_none (by rw [cs_length]; exact h')] at hj; cases hj
        have h5 := cs_at l (j / 4) (by omega) (j % 4) (Nat.mod_lt _ (by omega))
        rw [show j / 4 * 4 + j % 4 = j by omega, hj] at h5
        have h6 := h3 (j / 4) (by omega) (j % 4) (Nat.mod_lt _ (by omega))
        rw [Go.WideShapes.add_plain, show o + j = o + j / 4 * 4 + j % 4 by omega, h6, ← h5]) (cs_one l) (by omega)
    simpa using this
/-- What roomy's region keeps, whichever of its operations are done. -/
structure CY (wr : World) (l : List Cl) (f : Cl) (ao : Option Addr) (cap : Nat) (d : Nat → Bool) (gm gb : Nat) (x5 x6 x7 x8 x9 x10 x11 x12 x13 x14 x15 : Value) (W : World) : Prop where
  below : Below wr.heap.size wr W
  f0 : d 0 = true → x6 = (.slice ao l.length cap)
  f1 : d 1 = true → x7 = (.int .i64 (l.length : Int))
  f2 : d 2 = true → x8 = (.int .i64 ((l.length : Int) + 3))
  f3 : d 3 = true → x9 = (.slice (some ⟨gm, 0, none⟩) 0 (l.length + 3))
  f4 : d 4 = true → x10 = (.slice ao l.length cap)
  f5 : d 5 = true → x11 = (.slice (some ⟨gm, 0, none⟩) l.length (l.length + 3))
  f6 : d 6 = true → x12 = (.agg #[.int .u64 (f.1.toNat : Int), .int .u64 (f.2.1.toNat : Int), .int .u64 (f.2.2.1.toNat : Int), .int .u64 (f.2.2.2.toNat : Int)])
  f7 : d 7 = true → x13 = (.agg #[.int .u64 (f.1.toNat : Int), .int .u64 (f.2.1.toNat : Int), .int .u64 (f.2.2.1.toNat : Int), .int .u64 (f.2.2.2.toNat : Int)])
  f8 : d 8 = true → x14 = (.slice (some ⟨gb, 0, none⟩) 2 2)
  f9 : d 9 = true → x15 = (.slice (some ⟨gm, 0, none⟩) (l.length + 2) (l.length + 3))
  f10 : d 10 = true → x5 = (.slice (some ⟨gm, 0, none⟩) (l.length + 2) (l.length + 3))
  r0 : d 3 = true → d 5 = false → W.ownsRow wr.heap.size 24 4 (.slice (some ⟨gm, 0, none⟩) 0 (l.length + 3)) 0 []
  r1 : d 5 = true → d 9 = false → W.ownsRow wr.heap.size 24 4 (.slice (some ⟨gm, 0, none⟩) l.length (l.length + 3)) l.length (cs l)
  r2 : d 9 = true → W.ownsRow wr.heap.size 24 4 (.slice (some ⟨gm, 0, none⟩) (l.length + 2) (l.length + 3)) (l.length + 2) (cs l ++ [.int .u64 (f.1.toNat : Int), .int .u64 (f.2.1.toNat : Int), .int .u64 (f.2.2.1.toNat : Int), .int .u64 (f.2.2.2.toNat : Int), .int .u64 (f.1.toNat : Int), .int .u64 (f.2.1.toNat : Int), .int .u64 (f.2.2.1.toNat : Int), .int .u64 (f.2.2.2.toNat : Int)])
  b0 : d 8 = true → W.heap[gb]? = some (.cells #[.int .u64 (f.1.toNat : Int), .int .u64 (f.2.1.toNat : Int), .int .u64 (f.2.2.1.toNat : Int), .int .u64 (f.2.2.2.toNat : Int), .int .u64 (f.1.toNat : Int), .int .u64 (f.2.1.toNat : Int), .int .u64 (f.2.2.1.toNat : Int), .int .u64 (f.2.2.2.toNat : Int)] 24) ∧ (d 3 = true → gb ≠ gm)
  g5 : d 5 = true → d 3 = true
  g9 : d 9 = true → d 5 = true ∧ d 8 = true
  g10 : d 10 = true → d 9 = true

theorem CY.gm_lt {wr : World} {l : List Cl} {f : Cl} {ao : Option Addr} {cap : Nat} {d : Nat → Bool} {gm gb : Nat} {x5 x6 x7 x8 x9 x10 x11 x12 x13 x14 x15 : Value} {W : World} (h : CY wr l f ao cap d gm gb x5 x6 x7 x8 x9 x10 x11 x12 x13 x14 x15 W) (h3 : d 3 = true) (h9 : d 9 = false) : gm < W.heap.size := by
  cases h5 : d 5 with
  | false => exact own_lt (h.r0 h3 h5)
  | true => exact own_lt (h.r1 h5 h9)

set_option maxHeartbeats 4000000 in
set_option maxRecDepth 20000 in
theorem roomy_any (l : List Cl) (v : Value) (f : Cl) (w : World) (hv : Cs w v l) (hao : v = .slice none 0 0 ∨ ∃ ad n c, v = .slice (some ad) n c) (hlen : l.length ≤ 4398046510976) :
    Calls Try.prog 27 #[v, .agg #[.int .u64 (f.1.toNat : Int), .int .u64 (f.2.1.toNat : Int), .int .u64 (f.2.2.1.toNat : Int), .int .u64 (f.2.2.2.toNat : Int)]] w fun e w' => ∃ gm, e = .returned (.slice (some ⟨gm, 0, none⟩) l.length (l.length + 3)) ∧ w'.ownsRow w.heap.size 24 4 (.slice (some ⟨gm, 0, none⟩) (l.length + 2) (l.length + 3)) (l.length + 2) (cs (l ++ [f, f])) ∧ Below w.heap.size w w' := by
  obtain ⟨i0, hi, hz0, hz1, hz2⟩ := info_parts info24
  have HV : Hid (Cs w v l) := hv
  obtain ⟨ao, cap, hv', _, _⟩ := hv
  subst hv'
  obtain ⟨bf, HBFE⟩ : ∃ bf, Hid (w.heap.size = bf) := ⟨_, (rfl : w.heap.size = w.heap.size)⟩
  go_enter Try.func27, Try.ntmps27
  go_upto_region 1 with fail
  have HBF : Hid (Bx (w.alloc (bk f)) bf f) := HBFE.out ▸ bx_new w f
  rw [HBFE.out]
  obtain ⟨wr, HWR⟩ : ∃ wr, Hid (w.alloc (bk f) = wr) := ⟨_, (rfl : w.alloc (bk f) = w.alloc (bk f))⟩
  have hwr : w.heap.size < wr.heap.size := by rw [← HWR.out]; simp
  have hbf : bf < wr.heap.size := by rw [← HBFE.out]; exact hwr
  have HV : Hid (Cs wr (.slice ao l.length cap) l) := HWR.out ▸ HV.out.below ((Below.refl _ w).alloc (Nat.le_refl _) _) (Nat.le_refl _)
  rw [HWR.out] at HBF ⊢
  go_cut [5] (fun p wx => ∃ gm, p = .slice (some ⟨gm, 0, none⟩) (l.length + 2) (l.length + 3) ∧ Hid (Below wr.heap.size wr wx ∧ wx.ownsRow wr.heap.size 24 4 (.slice (some ⟨gm, 0, none⟩) (l.length + 2) (l.length + 3)) (l.length + 2) (cs l ++ [.int .u64 (f.1.toNat : Int), .int .u64 (f.2.1.toNat : Int), .int .u64 (f.2.2.1.toNat : Int), .int .u64 (f.2.2.2.toNat : Int), .int .u64 (f.1.toNat : Int), .int .u64 (f.2.1.toNat : Int), .int .u64 (f.2.2.1.toNat : Int), .int .u64 (f.2.2.2.toNat : Int)])))
  case first =>
    refine wp_region_inv mixed (fun a0 d a W => ∃ (gm gb : Nat) (x5 x6 x7 x8 x9 x10 x11 x12 x13 x14 x15 : Value), a = (((((((((((a0.put (some 5) x5).put (some 6) x6).put (some 7) x7).put (some 8) x8).put (some 9) x9).put (some 10) x10).put (some 11) x11).put (some 12) x12).put (some 13) x13).put (some 14) x14).put (some 15) x15) ∧ Hid (CY wr l f ao cap d gm gb x5 x6 x7 x8 x9 x10 x11 x12 x13 x14 x15 W)) (by kernel_rfl) ⟨0, 0, undef, undef, undef, undef, undef, undef, undef, undef, undef, undef, undef, by simp only [Act.put, List.setIfInBounds_toArray, List.set_cons_zero, List.set_cons_succ], ?_⟩ ?_ ?_
    · exact ⟨(Below.refl _ wr).drew, fun h => no_way h, fun h => no_way h, fun h => no_way h, fun h => no_way h, fun h => no_way h, fun h => no_way h, fun h => no_way h, fun h => no_way h, fun h => no_way h, fun h => no_way h, fun h => no_way h, fun h _ => no_way h, fun h _ => no_way h, fun h => no_way h, fun h => no_way h, fun h => no_way h, fun h => no_way h, fun h => no_way h⟩
    · simp only [StepAll, and_true]
      refine ⟨?_, ?_, ?_, ?_, ?_, ?_, ?_, ?_, ?_, ?_, ?_⟩
      · intro d a W hI hd hdep
        obtain ⟨gm, gb, x5, x6, x7, x8, x9, x10, x11, x12, x13, x14, x15, rfl, hF⟩ := hI
        have hB := hF.out.below
        clear hB hdep hd
        intro K hK
        simp only [Act.put, List.setIfInBounds_toArray, List.set_cons_zero, List.set_cons_succ]
        go_simp
        refine hK.out _ _ ⟨gm, gb, x5, (.slice ao l.length cap), x7, x8, x9, x10, x11, x12, x13, x14, x15, by simp only [Act.put, List.setIfInBounds_toArray, List.set_cons_zero, List.set_cons_succ], ?_⟩
        have hB := hF.out.below
        exact ⟨hB, fun _ => rfl, fun h => hF.out.f1 (by simpa using h), fun h => hF.out.f2 (by simpa using h), fun h => hF.out.f3 (by simpa using h), fun h => hF.out.f4 (by simpa using h), fun h => hF.out.f5 (by simpa using h), fun h => hF.out.f6 (by simpa using h), fun h => hF.out.f7 (by simpa using h), fun h => hF.out.f8 (by simpa using h), fun h => hF.out.f9 (by simpa using h), fun h => hF.out.f10 (by simpa using h), fun h h2 => hF.out.r0 (by simpa using h) (by simpa using h2), fun h h2 => hF.out.r1 (by simpa using h) (by simpa using h2), fun h => hF.out.r2 (by simpa using h), fun h => by simpa using hF.out.b0 (by simpa using h), fun h => by simpa using hF.out.g5 (by simpa using h), fun h => by simpa using hF.out.g9 (by simpa using h), fun h => by simpa using hF.out.g10 (by simpa using h)⟩
      · intro d a W hI hd hdep
        obtain ⟨gm, gb, x5, x6, x7, x8, x9, x10, x11, x12, x13, x14, x15, rfl, hF⟩ := hI
        have hd0 : d 0 = true := dep_of hdep 0 (by kernel_rfl)
        have hB := hF.out.below
        obtain rfl := hF.out.f0 hd0
        clear hB hdep hd
        intro K hK
        simp only [Act.put, List.setIfInBounds_toArray, List.set_cons_zero, List.set_cons_succ]
        go_simp
        refine hK.out _ _ ⟨gm, gb, x5, (.slice ao l.length cap), (.int .i64 (l.length : Int)), x8, x9, x10, x11, x12, x13, x14, x15, by simp only [Act.put, List.setIfInBounds_toArray, List.set_cons_zero, List.set_cons_succ], ?_⟩
        have hB := hF.out.below
        exact ⟨hB, fun h => hF.out.f0 (by simpa using h), fun _ => rfl, fun h => hF.out.f2 (by simpa using h), fun h => hF.out.f3 (by simpa using h), fun h => hF.out.f4 (by simpa using h), fun h => hF.out.f5 (by simpa using h), fun h => hF.out.f6 (by simpa using h), fun h => hF.out.f7 (by simpa using h), fun h => hF.out.f8 (by simpa using h), fun h => hF.out.f9 (by simpa using h), fun h => hF.out.f10 (by simpa using h), fun h h2 => hF.out.r0 (by simpa using h) (by simpa using h2), fun h h2 => hF.out.r1 (by simpa using h) (by simpa using h2), fun h => hF.out.r2 (by simpa using h), fun h => by simpa using hF.out.b0 (by simpa using h), fun h => by simpa using hF.out.g5 (by simpa using h), fun h => by simpa using hF.out.g9 (by simpa using h), fun h => by simpa using hF.out.g10 (by simpa using h)⟩
      · intro d a W hI hd hdep
        obtain ⟨gm, gb, x5, x6, x7, x8, x9, x10, x11, x12, x13, x14, x15, rfl, hF⟩ := hI
        have hd1 : d 1 = true := dep_of hdep 1 (by kernel_rfl)
        have hB := hF.out.below
        obtain rfl := hF.out.f1 hd1
        have hwrap : IntKind.i64.wrap ((l.length : Int) + 3) = (l.length : Int) + 3 := by simp only [IntKind.wrap, IntKind.bits, IntKind.signed]; simp; omega
        clear hB hdep hd
        intro K hK
        simp only [Act.put, List.setIfInBounds_toArray, List.set_cons_zero, List.set_cons_succ]
        go_simp
        refine hK.out _ _ ⟨gm, gb, x5, x6, (.int .i64 (l.length : Int)), (.int .i64 ((l.length : Int) + 3)), x9, x10, x11, x12, x13, x14, x15, by simp only [Act.put, List.setIfInBounds_toArray, List.set_cons_zero, List.set_cons_succ], ?_⟩
        have hB := hF.out.below
        exact ⟨hB, fun h => hF.out.f0 (by simpa using h), fun h => hF.out.f1 (by simpa using h), fun _ => rfl, fun h => hF.out.f3 (by simpa using h), fun h => hF.out.f4 (by simpa using h), fun h => hF.out.f5 (by simpa using h), fun h => hF.out.f6 (by simpa using h), fun h => hF.out.f7 (by simpa using h), fun h => hF.out.f8 (by simpa using h), fun h => hF.out.f9 (by simpa using h), fun h => hF.out.f10 (by simpa using h), fun h h2 => hF.out.r0 (by simpa using h) (by simpa using h2), fun h h2 => hF.out.r1 (by simpa using h) (by simpa using h2), fun h => hF.out.r2 (by simpa using h), fun h => by simpa using hF.out.b0 (by simpa using h), fun h => by simpa using hF.out.g5 (by simpa using h), fun h => by simpa using hF.out.g9 (by simpa using h), fun h => by simpa using hF.out.g10 (by simpa using h)⟩
      · intro d a W hI hd hdep
        obtain ⟨gm, gb, x5, x6, x7, x8, x9, x10, x11, x12, x13, x14, x15, rfl, hF⟩ := hI
        have hd2 : d 2 = true := dep_of hdep 2 (by kernel_rfl)
        have hB := hF.out.below
        obtain rfl := hF.out.f2 hd2
        have h5 : d 5 = false := by
          cases hx : d 5 with
          | false => rfl
          | true => have := hF.out.g5 hx; rw [hd] at this; cases this
        have h9 : d 9 = false := by
          cases hx : d 9 with
          | false => rfl
          | true => have := (hF.out.g9 hx).1; rw [h5] at this; cases this
        have hm := run_make_own (P := Try.prog) W wr.heap.size 36 24 i0 _ 4 Try.underlying36 hi hz0 hz1 .i64 .i64 (l.length + 3) (by rw [hz2]; omega) (by unfold maxLen; omega) hB.size
        have hmm := hm.choose_spec
        generalize hm.choose = W1 at hmm
        have hrun := hmm.1
        rw [show ((l.length + 3 : Nat) : Int) = (l.length : Int) + 3 from rfl] at hrun
        have HM : Hid (W1.ownsRow wr.heap.size 24 4 (.slice (some ⟨W.heap.size, 0, none⟩) 0 (l.length + 3)) 0 [] ∧ W.grownBy W1 none) := hmm.2
        have HD : Hid (d 5 = false ∧ d 9 = false) := ⟨h5, h9⟩
        clear hmm hm hB hdep hd h5 h9
        intro K hK
        simp only [Act.put, List.setIfInBounds_toArray, List.set_cons_zero, List.set_cons_succ]
        go_simp
        refine hK.out _ _ ⟨W.heap.size, gb, x5, x6, x7, (.int .i64 ((l.length : Int) + 3)), (.slice (some ⟨W.heap.size, 0, none⟩) 0 (l.length + 3)), x10, x11, x12, x13, x14, x15, by simp only [Act.put, List.setIfInBounds_toArray, List.set_cons_zero, List.set_cons_succ], ?_⟩
        have hB := hF.out.below
        have hb : Below W.heap.size W W1 := below_of_grown HM.out.2
        exact ⟨hB.trans (hb.mono hB.size), fun h => hF.out.f0 (by simpa using h), fun h => hF.out.f1 (by simpa using h), fun h => hF.out.f2 (by simpa using h), fun _ => rfl, fun h => hF.out.f4 (by simpa using h), fun h => no_way (HD.out.1.symm.trans (by simpa using h)), fun h => hF.out.f6 (by simpa using h), fun h => hF.out.f7 (by simpa using h), fun h => hF.out.f8 (by simpa using h), fun h => no_way (HD.out.2.symm.trans (by simpa using h)), fun h => no_way (HD.out.2.symm.trans (hF.out.g10 (by simpa using h))), fun _ _ => HM.out.1, fun h _ => no_way (HD.out.1.symm.trans (by simpa using h)), fun h => no_way (HD.out.2.symm.trans (by simpa using h)), fun h => ⟨blk_next hb (hF.out.b0 (by simpa using h)).1, fun _ => by have := blk_lt (hF.out.b0 (by simpa using h)).1; omega⟩, fun h => no_way (HD.out.1.symm.trans (by simpa using h)), fun h => no_way (HD.out.2.symm.trans (by simpa using h)), fun h => no_way (HD.out.2.symm.trans (hF.out.g10 (by simpa using h)))⟩
      · intro d a W hI hd hdep
        obtain ⟨gm, gb, x5, x6, x7, x8, x9, x10, x11, x12, x13, x14, x15, rfl, hF⟩ := hI
        have hB := hF.out.below
        clear hB hdep hd
        intro K hK
        simp only [Act.put, List.setIfInBounds_toArray, List.set_cons_zero, List.set_cons_succ]
        go_simp
        refine hK.out _ _ ⟨gm, gb, x5, x6, x7, x8, x9, (.slice ao l.length cap), x11, x12, x13, x14, x15, by simp only [Act.put, List.setIfInBounds_toArray, List.set_cons_zero, List.set_cons_succ], ?_⟩
        have hB := hF.out.below
        exact ⟨hB, fun h => hF.out.f0 (by simpa using h), fun h => hF.out.f1 (by simpa using h), fun h => hF.out.f2 (by simpa using h), fun h => hF.out.f3 (by simpa using h), fun _ => rfl, fun h => hF.out.f5 (by simpa using h), fun h => hF.out.f6 (by simpa using h), fun h => hF.out.f7 (by simpa using h), fun h => hF.out.f8 (by simpa using h), fun h => hF.out.f9 (by simpa using h), fun h => hF.out.f10 (by simpa using h), fun h h2 => hF.out.r0 (by simpa using h) (by simpa using h2), fun h h2 => hF.out.r1 (by simpa using h) (by simpa using h2), fun h => hF.out.r2 (by simpa using h), fun h => by simpa using hF.out.b0 (by simpa using h), fun h => by simpa using hF.out.g5 (by simpa using h), fun h => by simpa using hF.out.g9 (by simpa using h), fun h => by simpa using hF.out.g10 (by simpa using h)⟩
      · intro d a W hI hd hdep
        obtain ⟨gm, gb, x5, x6, x7, x8, x9, x10, x11, x12, x13, x14, x15, rfl, hF⟩ := hI
        have hd3 : d 3 = true := dep_of hdep 3 (by kernel_rfl)
        have hd4 : d 4 = true := dep_of hdep 4 (by kernel_rfl)
        have hB := hF.out.below
        obtain rfl := hF.out.f3 hd3
        obtain rfl := hF.out.f4 hd4
        have h9 : d 9 = false := by
          cases hx : d 9 with
          | false => rfl
          | true => have := (hF.out.g9 hx).1; rw [hd] at this; cases this
        have hm := app_l W wr.heap.size gm l _ (HV.out.below hB (Nat.le_refl _)) hao (hF.out.r0 hd3 hd)
        have hmm := hm.choose_spec
        generalize hm.choose = W1 at hmm
        have hrun := hmm.1
        have HM : Hid (W1.ownsRow wr.heap.size 24 4 (.slice (some ⟨gm, 0, none⟩) l.length (l.length + 3)) l.length (cs l) ∧ W.grownBy W1 (some gm)) := hmm.2
        have HD : Hid (d 3 = true ∧ d 9 = false ∧ wr.heap.size ≤ gm) := ⟨hd3, h9, own_base (hF.out.r0 hd3 hd)⟩
        clear hmm hm hB hdep hd hd3 hd4 h9
        intro K hK
        refine step_call_append (sv := (.slice (some ⟨gm, 0, none⟩) 0 (l.length + 3))) (xv := (.slice ao l.length cap)) (v := (.slice (some ⟨gm, 0, none⟩) l.length (l.length + 3))) (W1 := W1) (by rfl) _ _ 36 (by rfl) (by simp only [Act.put, List.setIfInBounds_toArray, List.set_cons_zero, List.set_cons_succ]; rfl) (by simp only [Act.put, List.setIfInBounds_toArray, List.set_cons_zero, List.set_cons_succ]; rfl) (by exact hrun) ?_
        simp only [Act.put, List.setIfInBounds_toArray, List.set_cons_zero, List.set_cons_succ]
        refine hK.out _ _ ⟨gm, gb, x5, x6, x7, x8, (.slice (some ⟨gm, 0, none⟩) 0 (l.length + 3)), (.slice ao l.length cap), (.slice (some ⟨gm, 0, none⟩) l.length (l.length + 3)), x12, x13, x14, x15, by simp only [Act.put, List.setIfInBounds_toArray, List.set_cons_zero, List.set_cons_succ], ?_⟩
        have hB := hF.out.below
        exact ⟨hB.grown HM.out.2 hB.size (fun j hj => by cases hj; exact HD.out.2.2), fun h => hF.out.f0 (by simpa using h), fun h => hF.out.f1 (by simpa using h), fun h => hF.out.f2 (by simpa using h), fun h => hF.out.f3 (by simpa using h), fun h => hF.out.f4 (by simpa using h), fun _ => rfl, fun h => hF.out.f6 (by simpa using h), fun h => hF.out.f7 (by simpa using h), fun h => hF.out.f8 (by simpa using h), fun h => no_way (HD.out.2.1.symm.trans (by simpa using h)), fun h => hF.out.f10 (by simpa using h), fun _ h => by simp at h, fun _ _ => HM.out.1, fun h => no_way (HD.out.2.1.symm.trans (by simpa using h)), fun h => ⟨(HM.out.2.block gb (blk_lt (hF.out.b0 (by simpa using h)).1) (fun e => (hF.out.b0 (by simpa using h)).2 HD.out.1 (Option.some.inj e))).trans (hF.out.b0 (by simpa using h)).1, fun h2 => (hF.out.b0 (by simpa using h)).2 (by simpa using h2)⟩, fun _ => by simpa using HD.out.1, fun h => no_way (HD.out.2.1.symm.trans (by simpa using h)), fun h => by simpa using hF.out.g10 (by simpa using h)⟩
      · intro d a W hI hd hdep
        obtain ⟨gm, gb, x5, x6, x7, x8, x9, x10, x11, x12, x13, x14, x15, rfl, hF⟩ := hI
        have hB := hF.out.below
        have HX : Hid (Bx W bf f) := bx_of hB HBF.out hbf
        have s0 := HX.out.1
        have s1 := HX.out.2.1
        have s2 := HX.out.2.2.1
        have s3 := HX.out.2.2.2
        clear hB hdep hd
        intro K hK
        simp only [Act.put, List.setIfInBounds_toArray, List.set_cons_zero, List.set_cons_succ]
        go_simp
        refine hK.out _ _ ⟨gm, gb, x5, x6, x7, x8, x9, x10, x11, (.agg #[.int .u64 (f.1.toNat : Int), .int .u64 (f.2.1.toNat : Int), .int .u64 (f.2.2.1.toNat : Int), .int .u64 (f.2.2.2.toNat : Int)]), x13, x14, x15, by simp only [Act.put, List.setIfInBounds_toArray, List.set_cons_zero, List.set_cons_succ], ?_⟩
        have hB := hF.out.below
        exact ⟨hB, fun h => hF.out.f0 (by simpa using h), fun h => hF.out.f1 (by simpa using h), fun h => hF.out.f2 (by simpa using h), fun h => hF.out.f3 (by simpa using h), fun h => hF.out.f4 (by simpa using h), fun h => hF.out.f5 (by simpa using h), fun _ => rfl, fun h => hF.out.f7 (by simpa using h), fun h => hF.out.f8 (by simpa using h), fun h => hF.out.f9 (by simpa using h), fun h => hF.out.f10 (by simpa using h), fun h h2 => hF.out.r0 (by simpa using h) (by simpa using h2), fun h h2 => hF.out.r1 (by simpa using h) (by simpa using h2), fun h => hF.out.r2 (by simpa using h), fun h => by simpa using hF.out.b0 (by simpa using h), fun h => by simpa using hF.out.g5 (by simpa using h), fun h => by simpa using hF.out.g9 (by simpa using h), fun h => by simpa using hF.out.g10 (by simpa using h)⟩
      · intro d a W hI hd hdep
        obtain ⟨gm, gb, x5, x6, x7, x8, x9, x10, x11, x12, x13, x14, x15, rfl, hF⟩ := hI
        have hB := hF.out.below
        have HX : Hid (Bx W bf f) := bx_of hB HBF.out hbf
        have s0 := HX.out.1
        have s1 := HX.out.2.1
        have s2 := HX.out.2.2.1
        have s3 := HX.out.2.2.2
        clear hB hdep hd
        intro K hK
        simp only [Act.put, List.setIfInBounds_toArray, List.set_cons_zero, List.set_cons_succ]
        go_simp
        refine hK.out _ _ ⟨gm, gb, x5, x6, x7, x8, x9, x10, x11, x12, (.agg #[.int .u64 (f.1.toNat : Int), .int .u64 (f.2.1.toNat : Int), .int .u64 (f.2.2.1.toNat : Int), .int .u64 (f.2.2.2.toNat : Int)]), x14, x15, by simp only [Act.put, List.setIfInBounds_toArray, List.set_cons_zero, List.set_cons_succ], ?_⟩
        have hB := hF.out.below
        exact ⟨hB, fun h => hF.out.f0 (by simpa using h), fun h => hF.out.f1 (by simpa using h), fun h => hF.out.f2 (by simpa using h), fun h => hF.out.f3 (by simpa using h), fun h => hF.out.f4 (by simpa using h), fun h => hF.out.f5 (by simpa using h), fun h => hF.out.f6 (by simpa using h), fun _ => rfl, fun h => hF.out.f8 (by simpa using h), fun h => hF.out.f9 (by simpa using h), fun h => hF.out.f10 (by simpa using h), fun h h2 => hF.out.r0 (by simpa using h) (by simpa using h2), fun h h2 => hF.out.r1 (by simpa using h) (by simpa using h2), fun h => hF.out.r2 (by simpa using h), fun h => by simpa using hF.out.b0 (by simpa using h), fun h => by simpa using hF.out.g5 (by simpa using h), fun h => by simpa using hF.out.g9 (by simpa using h), fun h => by simpa using hF.out.g10 (by simpa using h)⟩
      · intro d a W hI hd hdep
        obtain ⟨gm, gb, x5, x6, x7, x8, x9, x10, x11, x12, x13, x14, x15, rfl, hF⟩ := hI
        have hd6 : d 6 = true := dep_of hdep 6 (by kernel_rfl)
        have hd7 : d 7 = true := dep_of hdep 7 (by kernel_rfl)
        have hB := hF.out.below
        obtain rfl := hF.out.f6 hd6
        obtain rfl := hF.out.f7 hd7
        have h9 : d 9 = false := by
          cases hx : d 9 with
          | false => rfl
          | true => have := (hF.out.g9 hx).2; rw [hd] at this; cases this
        have HD : Hid (d 9 = false) := h9
        clear hB hdep hd h9 hd6 hd7
        intro K hK
        simp only [Act.put, List.setIfInBounds_toArray, List.set_cons_zero, List.set_cons_succ]
        go_simp
        refine hK.out _ _ ⟨gm, W.heap.size, x5, x6, x7, x8, x9, x10, x11, (.agg #[.int .u64 (f.1.toNat : Int), .int .u64 (f.2.1.toNat : Int), .int .u64 (f.2.2.1.toNat : Int), .int .u64 (f.2.2.2.toNat : Int)]), (.agg #[.int .u64 (f.1.toNat : Int), .int .u64 (f.2.1.toNat : Int), .int .u64 (f.2.2.1.toNat : Int), .int .u64 (f.2.2.2.toNat : Int)]), (.slice (some ⟨W.heap.size, 0, none⟩) 2 2), x15, by simp only [Act.put, List.setIfInBounds_toArray, List.set_cons_zero, List.set_cons_succ], ?_⟩
        have hB := hF.out.below
        have hb : Below W.heap.size W (W.alloc (.cells #[.int .u64 (f.1.toNat : Int), .int .u64 (f.2.1.toNat : Int), .int .u64 (f.2.2.1.toNat : Int), .int .u64 (f.2.2.2.toNat : Int), .int .u64 (f.1.toNat : Int), .int .u64 (f.2.1.toNat : Int), .int .u64 (f.2.2.1.toNat : Int), .int .u64 (f.2.2.2.toNat : Int)] 24)) := (Below.refl _ W).alloc (Nat.le_refl _) _
        exact ⟨hB.trans (hb.mono hB.size), fun h => hF.out.f0 (by simpa using h), fun h => hF.out.f1 (by simpa using h), fun h => hF.out.f2 (by simpa using h), fun h => hF.out.f3 (by simpa using h), fun h => hF.out.f4 (by simpa using h), fun h => hF.out.f5 (by simpa using h), fun h => hF.out.f6 (by simpa using h), fun h => hF.out.f7 (by simpa using h), fun _ => rfl, fun h => no_way (HD.out.symm.trans (by simpa using h)), fun h => hF.out.f10 (by simpa using h), fun h h2 => (hF.out.r0 (by simpa using h) (by simpa using h2)).alloc _, fun h h2 => (hF.out.r1 (by simpa using h) (by simpa using h2)).alloc _, fun h => no_way (HD.out.symm.trans (by simpa using h)), fun _ => ⟨block_new W _, fun h2 e => by have := hF.out.gm_lt (by simpa using h2) HD.out; omega⟩, fun h => by simpa using hF.out.g5 (by simpa using h), fun h => no_way (HD.out.symm.trans (by simpa using h)), fun h => by simpa using hF.out.g10 (by simpa using h)⟩
      · intro d a W hI hd hdep
        obtain ⟨gm, gb, x5, x6, x7, x8, x9, x10, x11, x12, x13, x14, x15, rfl, hF⟩ := hI
        have hd5 : d 5 = true := dep_of hdep 5 (by kernel_rfl)
        have hd8 : d 8 = true := dep_of hdep 8 (by kernel_rfl)
        have hB := hF.out.below
        obtain rfl := hF.out.f5 hd5
        obtain rfl := hF.out.f8 hd8
        have hm := run_append_fits (P := Try.prog) W wr.heap.size 36 36 24 i0 4 Try.underlying36 hi hz1 gm l.length (l.length + 3) (cs l) (hF.out.r1 hd5 hd) ⟨gb, 0, none⟩ 2 2 [.int .u64 (f.1.toNat : Int), .int .u64 (f.2.1.toNat : Int), .int .u64 (f.2.2.1.toNat : Int), .int .u64 (f.2.2.2.toNat : Int), .int .u64 (f.1.toNat : Int), .int .u64 (f.2.1.toNat : Int), .int .u64 (f.2.2.1.toNat : Int), .int .u64 (f.2.2.2.toNat : Int)] rfl (World.news_of_block (t := 24) (fr := (0, 0)) (hF.out.b0 hd8).1) (by simp [Value.oneCell']) (by omega)
        have hmm := hm.choose_spec
        generalize hm.choose = W1 at hmm
        have hrun := hmm.1
        have HM : Hid (W1.ownsRow wr.heap.size 24 4 (.slice (some ⟨gm, 0, none⟩) (l.length + 2) (l.length + 3)) (l.length + 2) (cs l ++ [.int .u64 (f.1.toNat : Int), .int .u64 (f.2.1.toNat : Int), .int .u64 (f.2.2.1.toNat : Int), .int .u64 (f.2.2.2.toNat : Int), .int .u64 (f.1.toNat : Int), .int .u64 (f.2.1.toNat : Int), .int .u64 (f.2.2.1.toNat : Int), .int .u64 (f.2.2.2.toNat : Int)]) ∧ W.grownBy W1 (some gm)) := hmm.2
        have HD : Hid (d 5 = true ∧ d 8 = true ∧ wr.heap.size ≤ gm) := ⟨hd5, hd8, own_base (hF.out.r1 hd5 hd)⟩
        clear hmm hm hB hdep hd hd5 hd8
        intro K hK
        refine step_call_append (sv := (.slice (some ⟨gm, 0, none⟩) l.length (l.length + 3))) (xv := (.slice (some ⟨gb, 0, none⟩) 2 2)) (v := (.slice (some ⟨gm, 0, none⟩) (l.length + 2) (l.length + 3))) (W1 := W1) (by rfl) _ _ 36 (by rfl) (by simp only [Act.put, List.setIfInBounds_toArray, List.set_cons_zero, List.set_cons_succ]; rfl) (by simp only [Act.put, List.setIfInBounds_toArray, List.set_cons_zero, List.set_cons_succ]; rfl) (by exact hrun) ?_
        simp only [Act.put, List.setIfInBounds_toArray, List.set_cons_zero, List.set_cons_succ]
        refine hK.out _ _ ⟨gm, gb, x5, x6, x7, x8, x9, x10, (.slice (some ⟨gm, 0, none⟩) l.length (l.length + 3)), x12, x13, (.slice (some ⟨gb, 0, none⟩) 2 2), (.slice (some ⟨gm, 0, none⟩) (l.length + 2) (l.length + 3)), by simp only [Act.put, List.setIfInBounds_toArray, List.set_cons_zero, List.set_cons_succ], ?_⟩
        have hB := hF.out.below
        exact ⟨hB.grown HM.out.2 hB.size (fun j hj => by cases hj; exact HD.out.2.2), fun h => hF.out.f0 (by simpa using h), fun h => hF.out.f1 (by simpa using h), fun h => hF.out.f2 (by simpa using h), fun h => hF.out.f3 (by simpa using h), fun h => hF.out.f4 (by simpa using h), fun h => hF.out.f5 (by simpa using h), fun h => hF.out.f6 (by simpa using h), fun h => hF.out.f7 (by simpa using h), fun h => hF.out.f8 (by simpa using h), fun _ => rfl, fun h => hF.out.f10 (by simpa using h), fun _ h2 => no_way ((show d 5 = false by simpa using h2).symm.trans HD.out.1), fun _ h => by simp at h, fun _ => HM.out.1, fun h => ⟨(HM.out.2.block gb (blk_lt (hF.out.b0 (by simpa using h)).1) (fun e => (hF.out.b0 (by simpa using h)).2 (hF.out.g5 HD.out.1) (Option.some.inj e))).trans (hF.out.b0 (by simpa using h)).1, fun h2 => (hF.out.b0 (by simpa using h)).2 (by simpa using h2)⟩, fun h => by simpa using hF.out.g5 (by simpa using h), fun _ => by simpa using ⟨HD.out.1, HD.out.2.1⟩, fun _ => by simp⟩
      · intro d a W hI hd hdep
        obtain ⟨gm, gb, x5, x6, x7, x8, x9, x10, x11, x12, x13, x14, x15, rfl, hF⟩ := hI
        have hd9 : d 9 = true := dep_of hdep 9 (by kernel_rfl)
        have hB := hF.out.below
        obtain rfl := hF.out.f9 hd9
        clear hB hdep hd
        intro K hK
        simp only [Act.put, List.setIfInBounds_toArray, List.set_cons_zero, List.set_cons_succ]
        go_simp
        refine hK.out _ _ ⟨gm, gb, (.slice (some ⟨gm, 0, none⟩) (l.length + 2) (l.length + 3)), x6, x7, x8, x9, x10, x11, x12, x13, x14, (.slice (some ⟨gm, 0, none⟩) (l.length + 2) (l.length + 3)), by simp only [Act.put, List.setIfInBounds_toArray, List.set_cons_zero, List.set_cons_succ], ?_⟩
        have hB := hF.out.below
        exact ⟨hB, fun h => hF.out.f0 (by simpa using h), fun h => hF.out.f1 (by simpa using h), fun h => hF.out.f2 (by simpa using h), fun h => hF.out.f3 (by simpa using h), fun h => hF.out.f4 (by simpa using h), fun h => hF.out.f5 (by simpa using h), fun h => hF.out.f6 (by simpa using h), fun h => hF.out.f7 (by simpa using h), fun h => hF.out.f8 (by simpa using h), fun h => hF.out.f9 (by simpa using h), fun _ => rfl, fun h h2 => hF.out.r0 (by simpa using h) (by simpa using h2), fun h h2 => hF.out.r1 (by simpa using h) (by simpa using h2), fun h => hF.out.r2 (by simpa using h), fun h => by simpa using hF.out.b0 (by simpa using h), fun h => by simpa using hF.out.g5 (by simpa using h), fun h => by simpa using hF.out.g9 (by simpa using h), fun _ => by simpa using hd9⟩
    · intro d a W hI hall
      obtain ⟨gm, gb, x5, x6, x7, x8, x9, x10, x11, x12, x13, x14, x15, rfl, hF⟩ := hI
      have hB := hF.out.below
      simp only [List.length_cons, List.length_nil] at hall
      obtain rfl := hF.out.f0 (hall 0 (by omega))
      obtain rfl := hF.out.f1 (hall 1 (by omega))
      obtain rfl := hF.out.f2 (hall 2 (by omega))
      obtain rfl := hF.out.f3 (hall 3 (by omega))
      obtain rfl := hF.out.f4 (hall 4 (by omega))
      obtain rfl := hF.out.f5 (hall 5 (by omega))
      obtain rfl := hF.out.f6 (hall 6 (by omega))
      obtain rfl := hF.out.f7 (hall 7 (by omega))
      obtain rfl := hF.out.f8 (hall 8 (by omega))
      obtain rfl := hF.out.f9 (hall 9 (by omega))
      obtain rfl := hF.out.f10 (hall 10 (by omega))
      have HF : Hid (Below wr.heap.size wr W ∧ W.ownsRow wr.heap.size 24 4 (.slice (some ⟨gm, 0, none⟩) (l.length + 2) (l.length + 3)) (l.length + 2) (cs l ++ [.int .u64 (f.1.toNat : Int), .int .u64 (f.2.1.toNat : Int), .int .u64 (f.2.2.1.toNat : Int), .int .u64 (f.2.2.2.toNat : Int), .int .u64 (f.1.toNat : Int), .int .u64 (f.2.1.toNat : Int), .int .u64 (f.2.2.1.toNat : Int), .int .u64 (f.2.2.2.toNat : Int)])) := ⟨hB, hF.out.r2 (hall 9 (by omega))⟩
      clear hF hB hall
      simp only [Act.put, List.setIfInBounds_toArray, List.set_cons_zero, List.set_cons_succ]
      go_wp2_with fail
      go_meet
      case rel => exact ⟨gm, rfl, HF⟩
  case rest =>
    obtain ⟨gm, rfl, HX⟩ := hcut
    have h1 : l.length ≤ l.length + 3 := by omega
    have h2 : (l.length : Int) ≤ ((l.length + 3 : Nat) : Int) := by omega
    go_wp2_with fail
    go_ret
    refine ⟨gm, rfl, ?_, ?_⟩
    · rw [cs_append]
      have := HX.out.2
      exact ⟨this.1, this.2.imp id fun ⟨g, c, cur, e1, e2, e3⟩ => ⟨g, c, cur, e1, Nat.le_trans (Nat.le_of_lt hwr) e2, e3⟩⟩
    · have : Below w.heap.size w wr := HWR.out ▸ (Below.refl _ w).alloc (Nat.le_refl _) _
      exact this.trans (HX.out.1.mono (Nat.le_of_lt hwr))

/-! ### filled -/
def SF (w : World) (g n : Nat) (f : Cl) (W : World) : Prop := Below w.heap.size w W ∧ Bx W w.heap.size f ∧ (W.cell? ⟨g, n * 4, none⟩ = some (.int .u64 (f.1.toNat : Int)) ∧ W.cell? ⟨g, n * 4 + 1, none⟩ = some (.int .u64 (f.2.1.toNat : Int)) ∧ W.cell? ⟨g, n * 4 + 2, none⟩ = some (.int .u64 (f.2.2.1.toNat : Int)) ∧ W.cell? ⟨g, n * 4 + 3, none⟩ = some (.int .u64 (f.2.2.2.toNat : Int))) ∧ (W.cell? ⟨g, (n + 1) * 4, none⟩ = some (.int .u64 (f.1.toNat : Int)) ∧ W.cell? ⟨g, (n + 1) * 4 + 1, none⟩ = some (.int .u64 (f.2.1.toNat : Int)) ∧ W.cell? ⟨g, (n + 1) * 4 + 2, none⟩ = some (.int .u64 (f.2.2.1.toNat : Int)) ∧ W.cell? ⟨g, (n + 1) * 4 + 3, none⟩ = some (.int .u64 (f.2.2.2.toNat : Int)))
set_option maxHeartbeats 2000000 in
set_option maxRecDepth 20000 in
theorem filled_any (g n cap : Nat) (f : Cl) (w : World) (hcap : n + 2 ≤ cap) (hmax : n ≤ 4398046510976) (h0 : ∀ j, j < 4 → w.cell? ⟨g, n * 4 + j, none⟩ = some (.int .u64 ((wd f j).toNat : Int))) (h1 : ∀ j, j < 4 → w.cell? ⟨g, (n + 1) * 4 + j, none⟩ = some (.int .u64 ((wd f j).toNat : Int))) :
    Calls Try.prog 29 #[.slice (some ⟨g, 0, none⟩) n cap, .agg #[.int .u64 (f.1.toNat : Int), .int .u64 (f.2.1.toNat : Int), .int .u64 (f.2.2.1.toNat : Int), .int .u64 (f.2.2.2.toNat : Int)]] w fun e w' => e = .returned (.bool true) ∧ Below w.heap.size w w' := by
  have HA : Hid ((∀ j, j < 4 → w.cell? ⟨g, n * 4 + j, none⟩ = some (.int .u64 ((wd f j).toNat : Int))) ∧ (∀ j, j < 4 → w.cell? ⟨g, (n + 1) * 4 + j, none⟩ = some (.int .u64 ((wd f j).toNat : Int)))) := ⟨h0, h1⟩
  clear h0 h1
  have hq : ∀ W, (Op.equalIn 10000 24 (.agg #[.int .u64 (f.1.toNat : Int), .int .u64 (f.2.1.toNat : Int), .int .u64 (f.2.2.1.toNat : Int), .int .u64 (f.2.2.2.toNat : Int)]) (.agg #[.int .u64 (f.1.toNat : Int), .int .u64 (f.2.1.toNat : Int), .int .u64 (f.2.2.1.toNat : Int), .int .u64 (f.2.2.2.toNat : Int)])).run Try.prog W = .ok true W := fun W => by rw [eqIn24]; simp
  have hgd := guard24
  have hw2 : IntKind.i64.wrap ((n : Int) + 1) = ((n + 1 : Nat) : Int) := by simp only [IntKind.wrap, IntKind.bits, IntKind.signed]; simp; omega
  have hb1 : (n : Int) + 2 ≤ (cap : Int) := by omega
  have hb2 : (0 : Int) ≤ (n : Int) + 2 := by omega
  go_enter Try.func29, Try.ntmps29
  have S1 : SF w g n f (w.alloc (bk f)).drew := ⟨((Below.refl _ w).alloc (Nat.le_refl _) _).drew, bx_new w f, ⟨cell_next (HA.out.1 0 (by omega)) ((Below.refl _ w).alloc (Nat.le_refl _) _).drew, cell_next (HA.out.1 1 (by omega)) ((Below.refl _ w).alloc (Nat.le_refl _) _).drew, cell_next (HA.out.1 2 (by omega)) ((Below.refl _ w).alloc (Nat.le_refl _) _).drew, cell_next (HA.out.1 3 (by omega)) ((Below.refl _ w).alloc (Nat.le_refl _) _).drew⟩, ⟨cell_next (HA.out.2 0 (by omega)) ((Below.refl _ w).alloc (Nat.le_refl _) _).drew, cell_next (HA.out.2 1 (by omega)) ((Below.refl _ w).alloc (Nat.le_refl _) _).drew, cell_next (HA.out.2 2 (by omega)) ((Below.refl _ w).alloc (Nat.le_refl _) _).drew, cell_next (HA.out.2 3 (by omega)) ((Below.refl _ w).alloc (Nat.le_refl _) _).drew⟩⟩
  go_upto_region 2 with fail
  have pa0 : ∀ p : Kp (SF w g n f), p.W.cell? ⟨w.heap.size, 0, none⟩ = some (.int .u64 (f.1.toNat : Int)) := fun p => p.h.2.1.1
  have pa1 : ∀ p : Kp (SF w g n f), p.W.cell? ⟨w.heap.size, 1, none⟩ = some (.int .u64 (f.2.1.toNat : Int)) := fun p => p.h.2.1.2.1
  have pa2 : ∀ p : Kp (SF w g n f), p.W.cell? ⟨w.heap.size, 2, none⟩ = some (.int .u64 (f.2.2.1.toNat : Int)) := fun p => p.h.2.1.2.2.1
  have pa3 : ∀ p : Kp (SF w g n f), p.W.cell? ⟨w.heap.size, 3, none⟩ = some (.int .u64 (f.2.2.2.toNat : Int)) := fun p => p.h.2.1.2.2.2
  have pb0 : ∀ p : Kp (SF w g n f), p.W.cell? ⟨g, n * 4, none⟩ = some (.int .u64 (f.1.toNat : Int)) := fun p => p.h.2.2.1.1
  have pb1 : ∀ p : Kp (SF w g n f), p.W.cell? ⟨g, n * 4 + 1, none⟩ = some (.int .u64 (f.2.1.toNat : Int)) := fun p => p.h.2.2.1.2.1
  have pb2 : ∀ p : Kp (SF w g n f), p.W.cell? ⟨g, n * 4 + 2, none⟩ = some (.int .u64 (f.2.2.1.toNat : Int)) := fun p => p.h.2.2.1.2.2.1
  have pb3 : ∀ p : Kp (SF w g n f), p.W.cell? ⟨g, n * 4 + 3, none⟩ = some (.int .u64 (f.2.2.2.toNat : Int)) := fun p => p.h.2.2.1.2.2.2
  have pc0 : ∀ p : Kp (SF w g n f), p.W.cell? ⟨g, (n + 1) * 4, none⟩ = some (.int .u64 (f.1.toNat : Int)) := fun p => p.h.2.2.2.1
  have pc1 : ∀ p : Kp (SF w g n f), p.W.cell? ⟨g, (n + 1) * 4 + 1, none⟩ = some (.int .u64 (f.2.1.toNat : Int)) := fun p => p.h.2.2.2.2.1
  have pc2 : ∀ p : Kp (SF w g n f), p.W.cell? ⟨g, (n + 1) * 4 + 2, none⟩ = some (.int .u64 (f.2.2.1.toNat : Int)) := fun p => p.h.2.2.2.2.2.1
  have pc3 : ∀ p : Kp (SF w g n f), p.W.cell? ⟨g, (n + 1) * 4 + 3, none⟩ = some (.int .u64 (f.2.2.2.toNat : Int)) := fun p => p.h.2.2.2.2.2.2
  have hne : Nonempty (Kp (SF w g n f)) := ⟨⟨_, S1⟩⟩
  have hi1 : (n : Int) < ((n + 2 : Nat) : Int) := by omega
  have hi2 : ((n + 1 : Nat) : Int) < ((n + 2 : Nat) : Int) := by omega
  refine wp_region_kept mixed (by kernel_rfl) S1 ?_
  clear S1
  repeat (go_big_quiet_step (fail))
  refine wpQuiet_nil ?_
  intro W1 hw1
  obtain ⟨⟨W1, HS⟩, rfl⟩ := hw1
  have HB := HS.1
  clear pa0 pa1 pa2 pa3 pb0 pb1 pb2 pb3 pc0 pc1 pc2 pc3 hne HS hw2
  go_wp2_with fail
  go_ret
  exact ⟨rfl, HB⟩

/-! ### spoil -/
set_option maxHeartbeats 2000000 in
set_option maxRecDepth 20000 in
theorem spoil_any (g n cap : Nat) (c : Cl) (w : World) (cur : Array Value) (_hn : n ≤ cap) (hmax : cap ≤ 9223372036854775807) (hg : w.heap[g]? = some (.cells cur 24 (0, 0))) (hs : cur.size = cap * 4) :
    Calls Try.prog 30 #[.slice (some ⟨g, 0, none⟩) n cap, .agg #[.int .u64 (c.1.toNat : Int), .int .u64 (c.2.1.toNat : Int), .int .u64 (c.2.2.1.toNat : Int), .int .u64 (c.2.2.2.toNat : Int)]] w fun e w' => e = .returned (.tuple #[]) ∧ w.grownBy w' (some g) := by
  have hglt : g < w.heap.size := blk_lt hg
  have HG : Hid (w.heap[g]? = some (.cells cur 24 (0, 0)) ∧ cur.size = cap * 4) := ⟨hg, hs⟩
  clear hg hs
  have hc1 : (cap : Int) ≤ (cap : Int) := Int.le_refl _
  go_enter Try.func30, Try.ntmps30
  go_wp2_with fail
  go_loopw [11] (fun z wr => ∃ k : Nat, k ≤ cap ∧ z = .int .i64 (k : Int) ∧ Hid (∃ cur', wr.heap[g]? = some (.cells cur' 24 (0, 0)) ∧ cur'.size = cap * 4 ∧ w.grownBy wr (some g) ∧ Bx wr w.heap.size c)) (fun z _ => cap - (intOf z).toNat)
  case atStart => exact ⟨0, by omega, rfl, ⟨cur, (Below.heap_alloc _ _ _ hglt).trans HG.out.1, HG.out.2, World.grownBy_alloc w _ _, bx_new w c⟩⟩
  case round =>
    obtain ⟨k, hk, rfl, HR⟩ := hrel
    by_cases hlt : k < cap
    · obtain ⟨cur', h1, h2, h3, h4⟩ := HR.out
      have cell : ∀ j, j < 4 → ∃ u, wr.cell? ⟨g, k * 4 + j, none⟩ = some u := fun j hj => by
        have : k * 4 + j < cur'.size := by omega
        exact ⟨cur'[k * 4 + j], by simp [World.cell?, h1, this]⟩
      obtain ⟨v0, q0⟩ := cell 0 (by omega)
      obtain ⟨v1, q1⟩ := cell 1 (by omega)
      obtain ⟨v2, q2⟩ := cell 2 (by omega)
      obtain ⟨v3, q3⟩ := cell 3 (by omega)
      rw [Nat.add_zero] at q0
      have fr : ∀ o, wr.frozen? ⟨g, o, none⟩ = false := fun o => by simp [World.frozen?, h1]
      have y0 := fr (k * 4)
      have y1 := fr (k * 4 + 1)
      have y2 := fr (k * 4 + 2)
      have y3 := fr (k * 4 + 3)
      obtain ⟨s0, s1, s2, s3⟩ := h4
      have hgw : g < wr.heap.size := blk_lt h1
      clear cell fr h1 h2 h3
      go_wp2_with fail
      go_roundw
      case rel =>
        obtain ⟨cur', h1, h2, h3, h4⟩ := HR.out
        refine ⟨k + 1, by omega, by go_num, ⟨_, by simp [World.setCell, Array.getElem?_modify, h1]; rfl, by simp [h2], h3.trans (grown_set4 _ _ _ _ _ _ _ _ _ _), h4.grown (grown_set4 _ _ _ _ _ _ _ _ _ _) (fun e => by have := Option.some.inj e; omega)⟩⟩
      case measure => simp [intOf]; omega
    · go_wp2_with fail
      go_end0
      obtain ⟨cur', h1, h2, h3, h4⟩ := HR.out
      exact ⟨rfl, h3⟩
end Go.Proofs.Ytgoejdakmbpcmaa
