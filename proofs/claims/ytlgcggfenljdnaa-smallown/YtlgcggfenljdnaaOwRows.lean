/-
  The contract of pushkeep.roomy at rows: a list with room behind it that is filled.
-/
import Derived.Test.YtlgcggfenljdnaaOwRoomy
import Derived.Deep.Cut
import Derived.Great.BuildSlice
namespace Go.Proofs.Ytlgcggfenljdnaa
open Go.RowKit
open Dfa

theorem own_lessC {w : World} {base base' e size n : Nat} {v : Value} {xs : List Value} (h : w.ownsRow base e size v n xs) (hb : base' ≤ base) : w.ownsRow base' e size v n xs := by
  obtain ⟨h1, h2 | ⟨g, cap, cur, hv, hg, h3⟩⟩ := h
  · exact ⟨h1, Or.inl h2⟩
  · exact ⟨h1, Or.inr ⟨g, cap, cur, hv, by omega, h3⟩⟩
theorem fill_two (l : List Value) (h : l.length = 256) (cells : Array Value) (hc : cells.size = 512) : Instr.fill (fun i => some (i * 256, 256)) cells [(0, .agg l.toArray), (1, .agg l.toArray)] = some (l ++ l).toArray := by
  have := Great.fill_whole (s := 256) (by omega) [.agg l.toArray, .agg l.toArray] cells (fun v hv => by simp at hv; subst hv; simp [Value.cells, h]) (by simp [hc])
  simpa [Value.cells] using this
theorem wp_append_run {P : Program} {o : Oper} {a : Act} {K : Act → World → Prop} {Q : Exit → Act → World → Prop} {W W1 : World} {v : Value} (s x : Operand) (t : TypeId)
    (ho : o.op = .call { callee := .builtin .append, args := #[s, x], argTypes := #[t, t] }) (sv xv : Value)
    (hs : a.eval s = sv) (hx : a.eval x = xv) (hr : (Builtin.append_ #[t, t] o.type #[sv, xv]).run P W = .ok v W1) (h : K (a.put o.dst v) W1) : o.wp P a W K Q := by
  unfold Oper.wp execOp
  simp only [ho, resolve, invoke, builtin, Sem.run_bind, Sem.run_pure, Result.andThen_ok, List.map_toArray, List.map_cons, List.map_nil, hs, hx, hr]
  exact h
theorem appR (W : World) (base gm n : Nat) (R : Nat → Nat → Int) (v : Value) (hv : Rw W v n R) (hao : v = .slice none 0 0 ∨ ∃ ad n c, v = .slice (some ad) n c) (hown : W.ownsRow base 42 256 (.slice (some ⟨gm, 0, none⟩) 0 (n + 3)) 0 []) :
    ∃ W1, (Builtin.append_ #[22, 22] 22 #[.slice (some ⟨gm, 0, none⟩) 0 (n + 3), v]).run Try.prog W = .ok (.slice (some ⟨gm, 0, none⟩) n (n + 3)) W1 ∧ W1.ownsRow base 42 256 (.slice (some ⟨gm, 0, none⟩) n (n + 3)) n (rcl (fun j => j) R n) ∧ W.grownBy W1 (some gm) := by
  obtain ⟨i0, hi, hz0, hz1, hz2⟩ := info_parts zero42'
  obtain ⟨ao, cap, rfl, hm, -, hc⟩ := hv
  rcases hao with h | ⟨ad, n', c, h⟩
  · simp only [Value.slice.injEq] at h
    obtain ⟨rfl, rfl, rfl⟩ := h
    exact ⟨W, run_append_owned_none W base 22 22 42 i0 256 Try.underlying22 hi _ _ _ hown, hown, World.grownBy.refl W _⟩
  · simp only [Value.slice.injEq] at h
    obtain ⟨rfl, rfl, rfl⟩ := h
    have := run_append_fits (P := Try.prog) W base 22 22 42 i0 256 Try.underlying22 hi hz1 gm 0 (n + 3) [] hown ad n cap (rcl (fun j => j) R n) (rcl_length _ _ _) (fun j u hj => by
      have hjl : j < n * 256 := by have := (List.getElem?_eq_some_iff.1 hj).1; rwa [rcl_length] at this
      obtain ⟨b, o, e, _, h3⟩ := hc.resolve_left (by omega)
      simp only [Option.some.injEq] at e
      subst e
      rw [rcl_at _ _ n j hjl] at hj
      have := h3 (j / 256) (by omega) (j % 256) (by omega)
      rw [show o + j / 256 * 256 + j % 256 = o + j by omega] at this
      rw [Addr.add_lit, this, hj]) (fun u hu => by
      simp only [rcl, List.mem_map] at hu
      obtain ⟨j, _, rfl⟩ := hu
      rfl) (by omega)
    simpa using this
theorem appR2 (W : World) (base gm n gb : Nat) (l xs : List Value) (hown : W.ownsRow base 42 256 (.slice (some ⟨gm, 0, none⟩) n (n + 3)) n xs) (hl : l.length = 256) (ho : ∀ u ∈ l, u.oneCell' = true) (h0 : W.rangeAt gb 0 (l ++ l)) :
    ∃ W1, (Builtin.append_ #[22, 22] 22 #[.slice (some ⟨gm, 0, none⟩) n (n + 3), .slice (some ⟨gb, 0, none⟩) 2 2]).run Try.prog W = .ok (.slice (some ⟨gm, 0, none⟩) (n + 2) (n + 3)) W1 ∧ W1.ownsRow base 42 256 (.slice (some ⟨gm, 0, none⟩) (n + 2) (n + 3)) (n + 2) (xs ++ (l ++ l)) ∧ W.grownBy W1 (some gm) := by
  obtain ⟨i0, hi, hz0, hz1, hz2⟩ := info_parts zero42'
  exact run_append_fits (P := Try.prog) W base 22 22 42 i0 256 Try.underlying22 hi hz1 gm n (n + 3) xs hown ⟨gb, 0, none⟩ 2 2 (l ++ l) (by simp [hl]) (fun j u hj => by rw [Addr.add_lit]; exact h0 j u hj) (fun u hu => by simp at hu; exact ho u hu) (by omega)
structure RY (w1 : World) (n : Nat) (R : Nat → Nat → Int) (ao : Option Addr) (cap bf : Nat) (l : List Value) (gm : Nat) (gb : Nat) (d : Nat → Bool) (x5 x6 x7 x8 x9 x10 x11 x12 x13 x14 x15 : Value) (W : World) : Prop where
  f0 : d 0 = true → x6 = (.slice ao n cap)
  f1 : d 1 = true → x7 = (.int .i64 (n : Int))
  f2 : d 2 = true → x8 = (.int .i64 ((n : Int) + 3))
  f3 : d 3 = true → x9 = (.slice (some ⟨gm, 0, none⟩) 0 (n + 3))
  f4 : d 4 = true → x10 = (.slice ao n cap)
  f5 : d 5 = true → x11 = (.slice (some ⟨gm, 0, none⟩) n (n + 3))
  f6 : d 6 = true → x12 = (.agg l.toArray)
  f7 : d 7 = true → x13 = (.agg l.toArray)
  f8 : d 8 = true → x14 = (.slice (some ⟨gb, 0, none⟩) 2 2)
  f9 : d 9 = true → x15 = (.slice (some ⟨gm, 0, none⟩) (n + 2) (n + 3))
  f10 : d 10 = true → x5 = (.slice (some ⟨gm, 0, none⟩) (n + 2) (n + 3))
  o5_3 : d 5 = true → d 3 = true
  o9_5 : d 9 = true → d 5 = true
  o9_8 : d 9 = true → d 8 = true
  o10_9 : d 10 = true → d 9 = true
  kp : Below w1.heap.size w1 W
  r0 : d 3 = true → d 5 = false → W.ownsRow w1.heap.size 42 256 (.slice (some ⟨gm, 0, none⟩) 0 (n + 3)) 0 []
  r1 : d 5 = true → d 9 = false → W.ownsRow w1.heap.size 42 256 (.slice (some ⟨gm, 0, none⟩) n (n + 3)) n (rcl (fun j => j) R n)
  r2 : d 9 = true → W.ownsRow w1.heap.size 42 256 (.slice (some ⟨gm, 0, none⟩) (n + 2) (n + 3)) (n + 2) (rcl (fun j => j) R n ++ (l ++ l))
  b0 : d 8 = true → W.rangeAt gb 0 (l ++ l) ∧ gb < W.heap.size
  b1 : d 3 = true → d 8 = true → gb ≠ gm

set_option maxHeartbeats 8000000 in
set_option maxRecDepth 20000 in
theorem roomyR_any (rv : Value) (n : Nat) (R : Nat → Nat → Int) (l : List Value) (w : World) (hr : Rw w rv n R) (hao : rv = .slice none 0 0 ∨ ∃ ad n c, rv = .slice (some ad) n c) (hn : n ≤ 274877906944) (hl : l.length = 256) (ho : ∀ u ∈ l, u.oneCell' = true) :
    Calls Try.prog 21 #[rv, .agg l.toArray] w fun e w' => ∃ gm, e = .returned (.slice (some ⟨gm, 0, none⟩) n (n + 3)) ∧ w'.ownsRow w.heap.size 42 256 (.slice (some ⟨gm, 0, none⟩) (n + 2) (n + 3)) (n + 2) (rcl (fun j => j) R n ++ (l ++ l)) ∧ Below w.heap.size w w' := by
  obtain ⟨ao, cap, hrv, -⟩ := id hr
  subst hrv
  have HAO : Hid ((.slice ao n cap : Value) = .slice none 0 0 ∨ ∃ ad n' c, (.slice ao n cap : Value) = .slice (some ad) n' c) := hao
  have HLL : Hid (l.length = 256) := hl
  have HLS : Hid ((Try.prog.info? 42).map (·.size) = some l.length) := by show _ = _; rw [hl]; exact size42
  have HON : Hid (∀ u ∈ l, u.oneCell' = true) := ho
  have HL : Hid (l.toArray.size = 256) := by show _ = _; simp [hl]
  have HO : Hid (l.toArray.all (·.oneCell') = true) := all_oneCell_toArray ho
  have HW3 : Hid (IntKind.i64.wrap ((n : Int) + 3) = (n : Int) + 3) := by show _ = _; simp only [IntKind.wrap, IntKind.bits, IntKind.signed]; simp; omega
  obtain ⟨i42, hi42, hz42, hs42, hb42⟩ := info_parts zero42'
  have H42 : Hid (Try.prog.info? 42 = some i42 ∧ i42.zero = some (.agg (Array.replicate 256 (.int .i16 0))) ∧ i42.size = 256) := ⟨hi42, hz42, hs42⟩
  obtain ⟨w1, HW1⟩ : ∃ q, Hid (w.alloc (Obj.cells l.toArray 42) = q) := ⟨_, (rfl : _ = _)⟩
  obtain ⟨bf, HBE⟩ : ∃ q, Hid (w.heap.size = q) := ⟨_, (rfl : _ = _)⟩
  have HB1 : Hid (Below w.heap.size w w1 ∧ w.heap.size < w1.heap.size) := by rw [← HW1.out]; exact ⟨(Below.refl _ _).alloc (Nat.le_refl _) _, by simp⟩
  have HBF : Hid (bf < w1.heap.size ∧ w1.rangeAt bf 0 l) := by
    rw [← HBE.out, ← HW1.out]
    exact ⟨by simp, fun j v hv => by rw [Nat.zero_add]; simpa [cell_of_block] using hv⟩
  have HRW : Hid (Rw w1 (.slice ao n cap) n R) := hr.below HB1.out.1 (Nat.le_refl _)
  have HMK : Hid (∀ W : World, w1.heap.size ≤ W.heap.size → ∃ W1, (Instr.makeSlice 22 (.int .i64 0) (.int .i64 ((n : Int) + 3))).run Try.prog W = .ok (.slice (some ⟨W.heap.size, 0, none⟩) 0 (n + 3)) W1 ∧ W1.ownsRow w1.heap.size 42 256 (.slice (some ⟨W.heap.size, 0, none⟩) 0 (n + 3)) 0 [] ∧ W.grownBy W1 none) := fun W hW =>
    run_make_own (P := Try.prog) W w1.heap.size 22 42 i42 _ 256 Try.underlying22 hi42 hz42 hs42 .i64 .i64 (n + 3) (by rw [hb42]; omega) (by unfold maxLen; omega) hW
  obtain ⟨zs, hzz42, hzsz⟩ := zero42
  have HZ : Hid (zs.size = 256) := hzsz
  clear hi42 hz42 hs42 hb42 hao hl ho hr hzsz
  go_enter Try.func21, Try.ntmps21
  go_wp2_with (refine wpList_store_new rfl _ _ rfl _ l.toArray rfl rfl HZ.out HL.out HO.out ?_)
  rw [HW1.out, HBE.out]
  refine wp_region_free mixed (fun a0 d a W => ∃ (gm : Nat) (gb : Nat) (x5 x6 x7 x8 x9 x10 x11 x12 x13 x14 x15 : Value), a = (((((((((((a0.put (some 5) x5).put (some 6) x6).put (some 7) x7).put (some 8) x8).put (some 9) x9).put (some 10) x10).put (some 11) x11).put (some 12) x12).put (some 13) x13).put (some 14) x14).put (some 15) x15) ∧ Hid (RY w1 n R ao cap bf l gm gb d x5 x6 x7 x8 x9 x10 x11 x12 x13 x14 x15 W)) (by kernel_rfl) ⟨0, 0, undef, undef, undef, undef, undef, undef, undef, undef, undef, undef, undef, by simp only [Act.put, List.setIfInBounds_toArray, List.set_cons_zero, List.set_cons_succ], ?_⟩ ?_ ?_
  · exact ⟨fun h => no_way h, fun h => no_way h, fun h => no_way h, fun h => no_way h, fun h => no_way h, fun h => no_way h, fun h => no_way h, fun h => no_way h, fun h => no_way h, fun h => no_way h, fun h => no_way h, fun h => no_way h, fun h => no_way h, fun h => no_way h, fun h => no_way h, (Below.refl _ w1).drew, fun h _ => no_way h, fun h _ => no_way h, fun h => no_way h, fun h => no_way h, fun h _ => no_way h⟩
  · simp only [StepAll, and_true]
    refine ⟨?_, ?_, ?_, ?_, ?_, ?_, ?_, ?_, ?_, ?_, ?_⟩
    · intro d a W hI hd hdep
      obtain ⟨gm, gb, x5, x6, x7, x8, x9, x10, x11, x12, x13, x14, x15, rfl, hF⟩ := hI
      clear hdep hd
      intro K hK
      simp only [Act.put, List.setIfInBounds_toArray, List.set_cons_zero, List.set_cons_succ]
      go_simp
      refine hK.out _ _ ⟨gm, gb, x5, (.slice ao n cap), x7, x8, x9, x10, x11, x12, x13, x14, x15, by simp only [Act.put, List.setIfInBounds_toArray, List.set_cons_zero, List.set_cons_succ], ?_⟩
      exact ⟨fun _ => rfl, fun h => hF.out.f1 (by simpa using h), fun h => hF.out.f2 (by simpa using h), fun h => hF.out.f3 (by simpa using h), fun h => hF.out.f4 (by simpa using h), fun h => hF.out.f5 (by simpa using h), fun h => hF.out.f6 (by simpa using h), fun h => hF.out.f7 (by simpa using h), fun h => hF.out.f8 (by simpa using h), fun h => hF.out.f9 (by simpa using h), fun h => hF.out.f10 (by simpa using h), fun h => by have := hF.out.o5_3 (by simpa using h); simpa using this, fun h => by have := hF.out.o9_5 (by simpa using h); simpa using this, fun h => by have := hF.out.o9_8 (by simpa using h); simpa using this, fun h => by have := hF.out.o10_9 (by simpa using h); simpa using this, hF.out.kp, fun h k => hF.out.r0 (by simpa using h) (by simpa using k), fun h k => hF.out.r1 (by simpa using h) (by simpa using k), fun h => hF.out.r2 (by simpa using h), fun h => hF.out.b0 (by simpa using h), fun h k => hF.out.b1 (by simpa using h) (by simpa using k)⟩
    · intro d a W hI hd hdep
      obtain ⟨gm, gb, x5, x6, x7, x8, x9, x10, x11, x12, x13, x14, x15, rfl, hF⟩ := hI
      have hd0 : d 0 = true := dep_of hdep 0 (by kernel_rfl)
      obtain rfl := hF.out.f0 hd0
      clear hdep hd hd0
      intro K hK
      simp only [Act.put, List.setIfInBounds_toArray, List.set_cons_zero, List.set_cons_succ]
      go_simp
      refine hK.out _ _ ⟨gm, gb, x5, (.slice ao n cap), (.int .i64 (n : Int)), x8, x9, x10, x11, x12, x13, x14, x15, by simp only [Act.put, List.setIfInBounds_toArray, List.set_cons_zero, List.set_cons_succ], ?_⟩
      exact ⟨fun h => hF.out.f0 (by simpa using h), fun _ => rfl, fun h => hF.out.f2 (by simpa using h), fun h => hF.out.f3 (by simpa using h), fun h => hF.out.f4 (by simpa using h), fun h => hF.out.f5 (by simpa using h), fun h => hF.out.f6 (by simpa using h), fun h => hF.out.f7 (by simpa using h), fun h => hF.out.f8 (by simpa using h), fun h => hF.out.f9 (by simpa using h), fun h => hF.out.f10 (by simpa using h), fun h => by have := hF.out.o5_3 (by simpa using h); simpa using this, fun h => by have := hF.out.o9_5 (by simpa using h); simpa using this, fun h => by have := hF.out.o9_8 (by simpa using h); simpa using this, fun h => by have := hF.out.o10_9 (by simpa using h); simpa using this, hF.out.kp, fun h k => hF.out.r0 (by simpa using h) (by simpa using k), fun h k => hF.out.r1 (by simpa using h) (by simpa using k), fun h => hF.out.r2 (by simpa using h), fun h => hF.out.b0 (by simpa using h), fun h k => hF.out.b1 (by simpa using h) (by simpa using k)⟩
    · intro d a W hI hd hdep
      obtain ⟨gm, gb, x5, x6, x7, x8, x9, x10, x11, x12, x13, x14, x15, rfl, hF⟩ := hI
      have hd1 : d 1 = true := dep_of hdep 1 (by kernel_rfl)
      obtain rfl := hF.out.f1 hd1
      have hw := HW3.out
      clear hdep hd hd1
      intro K hK
      simp only [Act.put, List.setIfInBounds_toArray, List.set_cons_zero, List.set_cons_succ]
      go_simp
      refine hK.out _ _ ⟨gm, gb, x5, x6, (.int .i64 (n : Int)), (.int .i64 ((n : Int) + 3)), x9, x10, x11, x12, x13, x14, x15, by simp only [Act.put, List.setIfInBounds_toArray, List.set_cons_zero, List.set_cons_succ], ?_⟩
      exact ⟨fun h => hF.out.f0 (by simpa using h), fun h => hF.out.f1 (by simpa using h), fun _ => rfl, fun h => hF.out.f3 (by simpa using h), fun h => hF.out.f4 (by simpa using h), fun h => hF.out.f5 (by simpa using h), fun h => hF.out.f6 (by simpa using h), fun h => hF.out.f7 (by simpa using h), fun h => hF.out.f8 (by simpa using h), fun h => hF.out.f9 (by simpa using h), fun h => hF.out.f10 (by simpa using h), fun h => by have := hF.out.o5_3 (by simpa using h); simpa using this, fun h => by have := hF.out.o9_5 (by simpa using h); simpa using this, fun h => by have := hF.out.o9_8 (by simpa using h); simpa using this, fun h => by have := hF.out.o10_9 (by simpa using h); simpa using this, hF.out.kp, fun h k => hF.out.r0 (by simpa using h) (by simpa using k), fun h k => hF.out.r1 (by simpa using h) (by simpa using k), fun h => hF.out.r2 (by simpa using h), fun h => hF.out.b0 (by simpa using h), fun h k => hF.out.b1 (by simpa using h) (by simpa using k)⟩
    · intro d a W hI hd hdep
      obtain ⟨gm, gb, x5, x6, x7, x8, x9, x10, x11, x12, x13, x14, x15, rfl, hF⟩ := hI
      have hd2 : d 2 = true := dep_of hdep 2 (by kernel_rfl)
      obtain rfl := hF.out.f2 hd2
      have HN5 : Hid (d 5 = false) := no_later hF.out.o5_3 hd
      have HN9 : Hid (d 9 = false) := no_later hF.out.o9_5 HN5.out
      have HN10 : Hid (d 10 = false) := no_later hF.out.o10_9 HN9.out
      have hm := HMK.out W hF.out.kp.size
      have hmm := hm.choose_spec
      generalize hm.choose = W1 at hmm
      have hrun := hmm.1
      have HM : Hid (W1.ownsRow w1.heap.size 42 256 (.slice (some ⟨W.heap.size, 0, none⟩) 0 (n + 3)) 0 [] ∧ Below W.heap.size W W1) := ⟨hmm.2.1, below_of_grown hmm.2.2⟩
      clear hm hmm
      clear hdep hd hd2
      intro K hK
      simp only [Act.put, List.setIfInBounds_toArray, List.set_cons_zero, List.set_cons_succ]
      go_simp
      refine hK.out _ _ ⟨W.heap.size, gb, x5, x6, x7, (.int .i64 ((n : Int) + 3)), (.slice (some ⟨W.heap.size, 0, none⟩) 0 (n + 3)), x10, x11, x12, x13, x14, x15, by simp only [Act.put, List.setIfInBounds_toArray, List.set_cons_zero, List.set_cons_succ], ?_⟩
      exact ⟨fun h => hF.out.f0 (by simpa using h), fun h => hF.out.f1 (by simpa using h), fun h => hF.out.f2 (by simpa using h), fun _ => rfl, fun h => hF.out.f4 (by simpa using h), fun h => by have := HN5.out; simp [this] at h, fun h => hF.out.f6 (by simpa using h), fun h => hF.out.f7 (by simpa using h), fun h => hF.out.f8 (by simpa using h), fun h => by have := HN9.out; simp [this] at h, fun h => by have := HN10.out; simp [this] at h, fun _ => by simp, fun h => by have := hF.out.o9_5 (by simpa using h); simpa using this, fun h => by have := hF.out.o9_8 (by simpa using h); simpa using this, fun h => by have := hF.out.o10_9 (by simpa using h); simpa using this, hF.out.kp.trans (HM.out.2.mono hF.out.kp.size), fun _ _ => HM.out.1, fun h _ => by have := HN5.out; simp [this] at h, fun h => by have := HN9.out; simp [this] at h, fun h => have q := hF.out.b0 (by simpa using h); ⟨fun j v hv => (HM.out.2.cell (p := ⟨gb, 0 + j, none⟩) q.2).trans (q.1 j v hv), Nat.lt_of_lt_of_le q.2 HM.out.2.size⟩, fun _ k => by have := (hF.out.b0 (by simpa using k)).2; omega⟩
    · intro d a W hI hd hdep
      obtain ⟨gm, gb, x5, x6, x7, x8, x9, x10, x11, x12, x13, x14, x15, rfl, hF⟩ := hI
      clear hdep hd
      intro K hK
      simp only [Act.put, List.setIfInBounds_toArray, List.set_cons_zero, List.set_cons_succ]
      go_simp
      refine hK.out _ _ ⟨gm, gb, x5, x6, x7, x8, x9, (.slice ao n cap), x11, x12, x13, x14, x15, by simp only [Act.put, List.setIfInBounds_toArray, List.set_cons_zero, List.set_cons_succ], ?_⟩
      exact ⟨fun h => hF.out.f0 (by simpa using h), fun h => hF.out.f1 (by simpa using h), fun h => hF.out.f2 (by simpa using h), fun h => hF.out.f3 (by simpa using h), fun _ => rfl, fun h => hF.out.f5 (by simpa using h), fun h => hF.out.f6 (by simpa using h), fun h => hF.out.f7 (by simpa using h), fun h => hF.out.f8 (by simpa using h), fun h => hF.out.f9 (by simpa using h), fun h => hF.out.f10 (by simpa using h), fun h => by have := hF.out.o5_3 (by simpa using h); simpa using this, fun h => by have := hF.out.o9_5 (by simpa using h); simpa using this, fun h => by have := hF.out.o9_8 (by simpa using h); simpa using this, fun h => by have := hF.out.o10_9 (by simpa using h); simpa using this, hF.out.kp, fun h k => hF.out.r0 (by simpa using h) (by simpa using k), fun h k => hF.out.r1 (by simpa using h) (by simpa using k), fun h => hF.out.r2 (by simpa using h), fun h => hF.out.b0 (by simpa using h), fun h k => hF.out.b1 (by simpa using h) (by simpa using k)⟩
    · intro d a W hI hd hdep
      obtain ⟨gm, gb, x5, x6, x7, x8, x9, x10, x11, x12, x13, x14, x15, rfl, hF⟩ := hI
      have hd3 : d 3 = true := dep_of hdep 3 (by kernel_rfl)
      have hd4 : d 4 = true := dep_of hdep 4 (by kernel_rfl)
      obtain rfl := hF.out.f3 hd3
      obtain rfl := hF.out.f4 hd4
      have e5_3 := hd3
      have HN9 : Hid (d 9 = false) := no_later hF.out.o9_5 hd
      have hown := hF.out.r0 hd3 hd
      have hgm := (hown.lt gm rfl).1
      have ha := appR W w1.heap.size gm n R (.slice ao n cap) (HRW.out.below hF.out.kp (Nat.le_refl _)) HAO.out hown
      have hmm := ha.choose_spec
      generalize ha.choose = W1 at hmm
      have HRUN : Hid ((Builtin.append_ #[22, 22] 22 #[.slice (some ⟨gm, 0, none⟩) 0 (n + 3), .slice ao n cap]).run Try.prog W = .ok (.slice (some ⟨gm, 0, none⟩) n (n + 3)) W1) := hmm.1
      have HM : Hid (W1.ownsRow w1.heap.size 42 256 (.slice (some ⟨gm, 0, none⟩) n (n + 3)) n (rcl (fun j => j) R n) ∧ W.grownBy W1 (some gm) ∧ w1.heap.size ≤ gm) := ⟨hmm.2.1, hmm.2.2, hgm⟩
      clear ha hmm hown hgm
      clear hdep hd hd3 hd4
      intro K hK
      simp only [Act.put, List.setIfInBounds_toArray, List.set_cons_zero, List.set_cons_succ]
      refine wp_append_run _ _ 22 rfl _ _ rfl rfl HRUN.out ?_
      simp only [Act.put, List.setIfInBounds_toArray, List.set_cons_zero, List.set_cons_succ]
      refine hK.out _ _ ⟨gm, gb, x5, x6, x7, x8, (.slice (some ⟨gm, 0, none⟩) 0 (n + 3)), (.slice ao n cap), (.slice (some ⟨gm, 0, none⟩) n (n + 3)), x12, x13, x14, x15, by simp only [Act.put, List.setIfInBounds_toArray, List.set_cons_zero, List.set_cons_succ], ?_⟩
      exact ⟨fun h => hF.out.f0 (by simpa using h), fun h => hF.out.f1 (by simpa using h), fun h => hF.out.f2 (by simpa using h), fun h => hF.out.f3 (by simpa using h), fun h => hF.out.f4 (by simpa using h), fun _ => rfl, fun h => hF.out.f6 (by simpa using h), fun h => hF.out.f7 (by simpa using h), fun h => hF.out.f8 (by simpa using h), fun h => hF.out.f9 (by simpa using h), fun h => hF.out.f10 (by simpa using h), fun _ => by simpa using e5_3, fun _ => by simp, fun h => by have := hF.out.o9_8 (by simpa using h); simpa using this, fun h => by have := hF.out.o10_9 (by simpa using h); simpa using this, hF.out.kp.grown HM.out.2.1 hF.out.kp.size (fun k hk => by simp at hk; have := HM.out.2.2; omega), fun _ h => by simp at h, fun _ _ => HM.out.1, fun h => by have := HN9.out; simp [this] at h, fun h => have q := hF.out.b0 (by simpa using h); have ne : gb ≠ gm := hF.out.b1 (by simpa using e5_3) (by simpa using h); have eb := HM.out.2.1.block gb q.2 (by simp; exact ne); ⟨fun j v hv => (cell_blk eb).trans (q.1 j v hv), Nat.lt_of_lt_of_le q.2 HM.out.2.1.size⟩, fun h k => hF.out.b1 (by simpa using h) (by simpa using k)⟩
    · intro d a W hI hd hdep
      obtain ⟨gm, gb, x5, x6, x7, x8, x9, x10, x11, x12, x13, x14, x15, rfl, hF⟩ := hI
      have hrg : W.rangeAt bf 0 l := fun j v hv => (hF.out.kp.cell (p := ⟨bf, 0 + j, none⟩) HBF.out.1).trans (HBF.out.2 j v hv)
      clear hdep hd
      intro K hK
      simp only [Act.put, List.setIfInBounds_toArray, List.set_cons_zero, List.set_cons_succ]
      refine wp_load_mid 42 _ rfl bf 0 rfl l _ hrg Try.underlying42 rfl HLS.out ?_
      simp only [Act.put, List.setIfInBounds_toArray, List.set_cons_zero, List.set_cons_succ]
      refine hK.out _ _ ⟨gm, gb, x5, x6, x7, x8, x9, x10, x11, (.agg l.toArray), x13, x14, x15, by simp only [Act.put, List.setIfInBounds_toArray, List.set_cons_zero, List.set_cons_succ], ?_⟩
      exact ⟨fun h => hF.out.f0 (by simpa using h), fun h => hF.out.f1 (by simpa using h), fun h => hF.out.f2 (by simpa using h), fun h => hF.out.f3 (by simpa using h), fun h => hF.out.f4 (by simpa using h), fun h => hF.out.f5 (by simpa using h), fun _ => rfl, fun h => hF.out.f7 (by simpa using h), fun h => hF.out.f8 (by simpa using h), fun h => hF.out.f9 (by simpa using h), fun h => hF.out.f10 (by simpa using h), fun h => by have := hF.out.o5_3 (by simpa using h); simpa using this, fun h => by have := hF.out.o9_5 (by simpa using h); simpa using this, fun h => by have := hF.out.o9_8 (by simpa using h); simpa using this, fun h => by have := hF.out.o10_9 (by simpa using h); simpa using this, hF.out.kp, fun h k => hF.out.r0 (by simpa using h) (by simpa using k), fun h k => hF.out.r1 (by simpa using h) (by simpa using k), fun h => hF.out.r2 (by simpa using h), fun h => hF.out.b0 (by simpa using h), fun h k => hF.out.b1 (by simpa using h) (by simpa using k)⟩
    · intro d a W hI hd hdep
      obtain ⟨gm, gb, x5, x6, x7, x8, x9, x10, x11, x12, x13, x14, x15, rfl, hF⟩ := hI
      have hrg : W.rangeAt bf 0 l := fun j v hv => (hF.out.kp.cell (p := ⟨bf, 0 + j, none⟩) HBF.out.1).trans (HBF.out.2 j v hv)
      clear hdep hd
      intro K hK
      simp only [Act.put, List.setIfInBounds_toArray, List.set_cons_zero, List.set_cons_succ]
      refine wp_load_mid 42 _ rfl bf 0 rfl l _ hrg Try.underlying42 rfl HLS.out ?_
      simp only [Act.put, List.setIfInBounds_toArray, List.set_cons_zero, List.set_cons_succ]
      refine hK.out _ _ ⟨gm, gb, x5, x6, x7, x8, x9, x10, x11, x12, (.agg l.toArray), x14, x15, by simp only [Act.put, List.setIfInBounds_toArray, List.set_cons_zero, List.set_cons_succ], ?_⟩
      exact ⟨fun h => hF.out.f0 (by simpa using h), fun h => hF.out.f1 (by simpa using h), fun h => hF.out.f2 (by simpa using h), fun h => hF.out.f3 (by simpa using h), fun h => hF.out.f4 (by simpa using h), fun h => hF.out.f5 (by simpa using h), fun h => hF.out.f6 (by simpa using h), fun _ => rfl, fun h => hF.out.f8 (by simpa using h), fun h => hF.out.f9 (by simpa using h), fun h => hF.out.f10 (by simpa using h), fun h => by have := hF.out.o5_3 (by simpa using h); simpa using this, fun h => by have := hF.out.o9_5 (by simpa using h); simpa using this, fun h => by have := hF.out.o9_8 (by simpa using h); simpa using this, fun h => by have := hF.out.o10_9 (by simpa using h); simpa using this, hF.out.kp, fun h k => hF.out.r0 (by simpa using h) (by simpa using k), fun h k => hF.out.r1 (by simpa using h) (by simpa using k), fun h => hF.out.r2 (by simpa using h), fun h => hF.out.b0 (by simpa using h), fun h k => hF.out.b1 (by simpa using h) (by simpa using k)⟩
    · intro d a W hI hd hdep
      obtain ⟨gm, gb, x5, x6, x7, x8, x9, x10, x11, x12, x13, x14, x15, rfl, hF⟩ := hI
      have hd6 : d 6 = true := dep_of hdep 6 (by kernel_rfl)
      have hd7 : d 7 = true := dep_of hdep 7 (by kernel_rfl)
      obtain rfl := hF.out.f6 hd6
      obtain rfl := hF.out.f7 hd7
      have HN9 : Hid (d 9 = false) := no_later hF.out.o9_8 hd
      clear hdep hd hd6 hd7
      intro K hK
      simp only [Act.put, List.setIfInBounds_toArray, List.set_cons_zero, List.set_cons_succ]
      refine wp_buildSlice 22 42 2 _ rfl (l ++ l).toArray i42 _ Try.underlying22 H42.out.1 H42.out.2.1 (by rw [H42.out.2.2]; omega) (by rw [H42.out.2.2]; omega) ?hf ?_
      case hf =>
        rw [H42.out.2.2]
        simp only [List.map_toArray, List.map_cons, List.map_nil]
        exact fill_two l HLL.out _ (by simp)
      simp only [Act.put, List.setIfInBounds_toArray, List.set_cons_zero, List.set_cons_succ]
      refine hK.out _ _ ⟨gm, W.heap.size, x5, x6, x7, x8, x9, x10, x11, (.agg l.toArray), (.agg l.toArray), (.slice (some ⟨W.heap.size, 0, none⟩) 2 2), x15, by simp only [Act.put, List.setIfInBounds_toArray, List.set_cons_zero, List.set_cons_succ], ?_⟩
      have hb1 : Below W.heap.size W (W.alloc (Obj.cells (l ++ l).toArray 42)) := (Below.refl _ _).alloc (Nat.le_refl _) _
      exact ⟨fun h => hF.out.f0 (by simpa using h), fun h => hF.out.f1 (by simpa using h), fun h => hF.out.f2 (by simpa using h), fun h => hF.out.f3 (by simpa using h), fun h => hF.out.f4 (by simpa using h), fun h => hF.out.f5 (by simpa using h), fun h => hF.out.f6 (by simpa using h), fun h => hF.out.f7 (by simpa using h), fun _ => rfl, fun h => hF.out.f9 (by simpa using h), fun h => hF.out.f10 (by simpa using h), fun h => by have := hF.out.o5_3 (by simpa using h); simpa using this, fun h => by have := hF.out.o9_5 (by simpa using h); simpa using this, fun _ => by simp, fun h => by have := hF.out.o10_9 (by simpa using h); simpa using this, hF.out.kp.trans (hb1.mono hF.out.kp.size), fun h k => have q := hF.out.r0 (by simpa using h) (by simpa using k); own_same q fun x hx => hb1.block x (q.lt x hx).2, fun h k => have q := hF.out.r1 (by simpa using h) HN9.out; own_same q fun x hx => hb1.block x (q.lt x hx).2, fun h => by have := HN9.out; simp [this] at h, fun _ => ⟨fun j v hv => by rw [Nat.zero_add]; simpa [cell_of_block] using hv, by simp⟩, fun k _ => by
        have k3 : d 3 = true := by simpa using k
        cases h5 : d 5 with
        | false => have := ((hF.out.r0 k3 h5).lt gm rfl).2; omega
        | true => have := ((hF.out.r1 h5 HN9.out).lt gm rfl).2; omega⟩
    · intro d a W hI hd hdep
      obtain ⟨gm, gb, x5, x6, x7, x8, x9, x10, x11, x12, x13, x14, x15, rfl, hF⟩ := hI
      have hd5 : d 5 = true := dep_of hdep 5 (by kernel_rfl)
      have hd8 : d 8 = true := dep_of hdep 8 (by kernel_rfl)
      obtain rfl := hF.out.f5 hd5
      obtain rfl := hF.out.f8 hd8
      have e9_5 := hd5
      have e9_8 := hd8
      have hown := hF.out.r1 hd5 hd
      have hgm := (hown.lt gm rfl).1
      have hb := hF.out.b0 hd8
      have ha := appR2 W w1.heap.size gm n gb l _ hown HLL.out HON.out hb.1
      have hmm := ha.choose_spec
      generalize ha.choose = W1 at hmm
      have HRUN : Hid ((Builtin.append_ #[22, 22] 22 #[.slice (some ⟨gm, 0, none⟩) n (n + 3), .slice (some ⟨gb, 0, none⟩) 2 2]).run Try.prog W = .ok (.slice (some ⟨gm, 0, none⟩) (n + 2) (n + 3)) W1) := hmm.1
      have HM : Hid (W1.ownsRow w1.heap.size 42 256 (.slice (some ⟨gm, 0, none⟩) (n + 2) (n + 3)) (n + 2) (rcl (fun j => j) R n ++ (l ++ l)) ∧ W.grownBy W1 (some gm) ∧ w1.heap.size ≤ gm) := ⟨hmm.2.1, hmm.2.2, hgm⟩
      clear ha hmm hown hgm hb
      clear hdep hd hd5 hd8
      intro K hK
      simp only [Act.put, List.setIfInBounds_toArray, List.set_cons_zero, List.set_cons_succ]
      refine wp_append_run _ _ 22 rfl _ _ rfl rfl HRUN.out ?_
      simp only [Act.put, List.setIfInBounds_toArray, List.set_cons_zero, List.set_cons_succ]
      refine hK.out _ _ ⟨gm, gb, x5, x6, x7, x8, x9, x10, (.slice (some ⟨gm, 0, none⟩) n (n + 3)), x12, x13, (.slice (some ⟨gb, 0, none⟩) 2 2), (.slice (some ⟨gm, 0, none⟩) (n + 2) (n + 3)), by simp only [Act.put, List.setIfInBounds_toArray, List.set_cons_zero, List.set_cons_succ], ?_⟩
      exact ⟨fun h => hF.out.f0 (by simpa using h), fun h => hF.out.f1 (by simpa using h), fun h => hF.out.f2 (by simpa using h), fun h => hF.out.f3 (by simpa using h), fun h => hF.out.f4 (by simpa using h), fun h => hF.out.f5 (by simpa using h), fun h => hF.out.f6 (by simpa using h), fun h => hF.out.f7 (by simpa using h), fun h => hF.out.f8 (by simpa using h), fun _ => rfl, fun h => hF.out.f10 (by simpa using h), fun h => by have := hF.out.o5_3 (by simpa using h); simpa using this, fun _ => by simpa using e9_5, fun _ => by simpa using e9_8, fun _ => by simp, hF.out.kp.grown HM.out.2.1 hF.out.kp.size (fun k hk => by simp at hk; have := HM.out.2.2; omega), fun _ h => by have := e9_5; simp [this] at h, fun _ h => by simp at h, fun _ => HM.out.1, fun h => have q := hF.out.b0 (by simpa using h); have ne : gb ≠ gm := hF.out.b1 (by simpa using hF.out.o5_3 e9_5) (by simpa using h); have eb := HM.out.2.1.block gb q.2 (by simp; exact ne); ⟨fun j v hv => (cell_blk eb).trans (q.1 j v hv), Nat.lt_of_lt_of_le q.2 HM.out.2.1.size⟩, fun h k => hF.out.b1 (by simpa using h) (by simpa using k)⟩
    · intro d a W hI hd hdep
      obtain ⟨gm, gb, x5, x6, x7, x8, x9, x10, x11, x12, x13, x14, x15, rfl, hF⟩ := hI
      have hd9 : d 9 = true := dep_of hdep 9 (by kernel_rfl)
      obtain rfl := hF.out.f9 hd9
      have e10_9 := hd9
      clear hdep hd hd9
      intro K hK
      simp only [Act.put, List.setIfInBounds_toArray, List.set_cons_zero, List.set_cons_succ]
      go_simp
      refine hK.out _ _ ⟨gm, gb, (.slice (some ⟨gm, 0, none⟩) (n + 2) (n + 3)), x6, x7, x8, x9, x10, x11, x12, x13, x14, (.slice (some ⟨gm, 0, none⟩) (n + 2) (n + 3)), by simp only [Act.put, List.setIfInBounds_toArray, List.set_cons_zero, List.set_cons_succ], ?_⟩
      exact ⟨fun h => hF.out.f0 (by simpa using h), fun h => hF.out.f1 (by simpa using h), fun h => hF.out.f2 (by simpa using h), fun h => hF.out.f3 (by simpa using h), fun h => hF.out.f4 (by simpa using h), fun h => hF.out.f5 (by simpa using h), fun h => hF.out.f6 (by simpa using h), fun h => hF.out.f7 (by simpa using h), fun h => hF.out.f8 (by simpa using h), fun h => hF.out.f9 (by simpa using h), fun _ => rfl, fun h => by have := hF.out.o5_3 (by simpa using h); simpa using this, fun h => by have := hF.out.o9_5 (by simpa using h); simpa using this, fun h => by have := hF.out.o9_8 (by simpa using h); simpa using this, fun _ => by simpa using e10_9, hF.out.kp, fun h k => hF.out.r0 (by simpa using h) (by simpa using k), fun h k => hF.out.r1 (by simpa using h) (by simpa using k), fun h => hF.out.r2 (by simpa using h), fun h => hF.out.b0 (by simpa using h), fun h k => hF.out.b1 (by simpa using h) (by simpa using k)⟩
  · intro d a W hI hall
    obtain ⟨gm, gb, x5, x6, x7, x8, x9, x10, x11, x12, x13, x14, x15, rfl, hF⟩ := hI
    simp only [List.length_cons, List.length_nil] at hall
    obtain rfl := hF.out.f0 (hall 0 (by omega))
    obtain rfl := hF.out.f1 (hall 1 (by omega))
    obtain rfl := hF.out.f2 (hall 2 (by omega))
    obtain rfl := hF.out.f3 (hall 3 (by omega))
    obtain rfl := hF.out.f4 (hall 4 (by omega))
    obtain rfl := hF.out.f5 (hall 5 (by omega))
    obtain rfl := hF.out.f6 (hall 6 (by omega))
    obtain rfl := hF.out.f7 (hall 7 (by omega))
    obtain rfl := hF.out.f8 (hall 8 (by omega))
    obtain rfl := hF.out.f9 (hall 9 (by omega))
    obtain rfl := hF.out.f10 (hall 10 (by omega))
    have HE : Hid (W.ownsRow w1.heap.size 42 256 (.slice (some ⟨gm, 0, none⟩) (n + 2) (n + 3)) (n + 2) (rcl (fun j => j) R n ++ (l ++ l)) ∧ Below w1.heap.size w1 W) := ⟨hF.out.r2 (hall 9 (by omega)), hF.out.kp⟩
    clear hF hall
    simp only [Act.put, List.setIfInBounds_toArray, List.set_cons_zero, List.set_cons_succ]
    have h2 : (n : Int) ≤ ((n + 3 : Nat) : Int) := by omega
    have h3 : n ≤ n + 3 := by omega
    go_wp2_with fail
    go_ret
    exact ⟨gm, rfl, own_lessC HE.out.1 (Nat.le_of_lt HB1.out.2), HB1.out.1.trans (HE.out.2.mono HB1.out.1.size)⟩

end Go.Proofs.Ytlgcggfenljdnaa
