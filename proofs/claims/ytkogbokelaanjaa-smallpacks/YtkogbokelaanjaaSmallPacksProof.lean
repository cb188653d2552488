/-
  SmallPacks returns true whatever automaton is handed in, and changes nothing that it was handed; no condition.
-/
import Derived.Test.YtkogbokelaanjaaRows
import Derived.WalkKit
import Derived.ProofKit
import Derived.OpenShut
import Derived.ShutString
import Derived.SizedLaws
import Derived.ChangeOld
import Derived.Below
import Derived.Carry
import Derived.WalkLawsBesides
import Derived.WalkSpells
import Derived.Test.YtkogbokelaanjaaOpens
import Derived.Test.YtkogbokelaanjaaPkRef
import Derived.Test.YtkogbokelaanjaaPkBad
namespace Go.Proofs.Ytkogbokelaanjaa.smallPacks
open Go.ChangeShapes Go.WideShapes Go.ChangeAt Go.RowKit
open Go.ChangeMaps (open_string shut_string)
open Dfa
set_option linter.unusedVariables false

theorem own : ownKnob Try.prog.godebug = none := by kernel_rfl
theorem laidOut : laidOutB Try.prog = true := by kernel_rfl
theorem wpList_store_new29 {ops : Array Oper} {rest : List Oper} {op : Oper} {a : Act} {w : World} {Q : Exit → Act → World → Prop} (hgd : op.guard = none) (x y : Operand) (ho : op.op = .store 29 x y)
    (c c' : Array Value) (hx : a.eval x = .pointer (some ⟨w.heap.size, 0, none⟩)) (hy : a.eval y = .agg c') (hc : c.size = 258) (hc' : c'.size = 258) (h1 : c'.all (·.oneCell') = true)
    (h : wpList Try.prog ops Q rest (a.put op.dst undef) (w.alloc (.cells c' 29))) : wpList Try.prog ops Q (op :: rest) a (w.alloc (.cells c 29)) :=
  wpList_plain hgd fun K hK => by
    unfold Oper.wp execOp
    simp only [ho, hx, hy, Sem.run_bind, run_storeAt_new w 29 c c' (by rw [hc']; exact size29) (by omega) h1, Result.andThen_ok]
    exact hK _ _ h
theorem nx_nil (w : World) : Nx w (.slice none 0 0) 0 (fun _ => 0) (fun _ _ => 0) := ⟨none, 0, rfl, by omega, Or.inl rfl⟩
theorem ts_nil (w : World) : Ts w (.slice none 0 0) 0 (fun _ => 0) := ⟨none, 0, rfl, by omega, fun _ => by simp, Or.inl rfl⟩
theorem eqO_refl (O : Nat → Nat) : eqO O O = true := by simp [eqO]
theorem eqN_refl (n : Nat) (L : Nat → Nat) (X : Nat → Nat → Int) : eqN n n L L X X = true := by
  simp only [eqN, beq_self_eq_true, Bool.true_and]
  exact all_true fun i _ => eqT_refl _ _ _ fun _ _ => rfl
/-- What the law holds where all is right. -/
structure Pk (w : World) (g3 n : Nat) (R : Nat → Nat → Int) (T : Nat → Int) (rv tv nv1 tv1 : Value) (l : List Value) (W : World) : Prop where
  below : Below w.heap.size w W
  c0 : W.cell? ⟨w.heap.size, 0, none⟩ = some rv
  c1 : W.cell? ⟨w.heap.size, 1, none⟩ = some tv
  rng : W.rangeAt g3 0 l
  lt : g3 < W.heap.size
  nx : Nx W nv1 n (fun _ => (fsts n R 256).length) (fun i t => R i ((fsts n R 256).getD t 0))
  ts : Ts W tv1 n T
  l0 : w.heap.size < W.heap.size
theorem Pk.next {w : World} {g3 n : Nat} {R : Nat → Nat → Int} {T : Nat → Int} {rv tv nv1 tv1 : Value} {l : List Value} {W W' : World} (h : Pk w g3 n R T rv tv nv1 tv1 l W) (hb : Below W.heap.size W W') : Pk w g3 n R T rv tv nv1 tv1 l W' :=
  ⟨h.below.trans (hb.mono h.below.size), (hb.cell (p := ⟨w.heap.size, 0, none⟩) h.l0).trans h.c0, (hb.cell (p := ⟨w.heap.size, 1, none⟩) h.l0).trans h.c1, fun j v hv => (hb.cell (p := ⟨g3, 0 + j, none⟩) h.lt).trans (h.rng j v hv), Nat.lt_of_lt_of_le h.lt hb.size, h.nx.below hb (Nat.le_refl _), h.ts.below hb (Nat.le_refl _), Nat.lt_of_lt_of_le h.l0 hb.size⟩
structure RL5 (w : World) (g3 n : Nat) (R : Nat → Nat → Int) (T : Nat → Int) (rv tv nv1 tv1 : Value) (l : List Value) (lq : List Value) (nv2 : Value) (d : Nat → Bool) (x2 x23 x24 x25 x26 x27 x28 x29 x30 : Value) (W : World) : Prop where
  f0 : d 0 = true → x23 = (.int .i64 0)
  f1 : d 1 = true → x24 = (.bool true)
  f2 : d 2 = true → x25 = (.bool true)
  f3 : d 3 = true → x26 = (.agg l.toArray)
  f4 : d 4 = true → x27 = (.agg #[rv, tv])
  f5 : d 5 = true → x28 = (.agg lq.toArray)
  f6 : d 6 = true → x29 = (.bool true)
  f7 : d 7 = true → x30 = (.bool true)
  f8 : d 8 = true → x2 = (.bool true)
  kp : Pk w g3 n R T rv tv nv1 tv1 l W
  lqe : d 5 = true → lq = pl (fun b => idx n R (fsts n R b) b) nv2 tv
  nx : d 5 = true → Nx W nv2 n (fun _ => (fsts n R 256).length) (fun i t => R i ((fsts n R 256).getD t 0))


/-! ### The walk: the Go text returns true. -/
set_option maxHeartbeats 4000000 in
set_option maxRecDepth 20000 in
theorem walk (a0r : Value) (a0t : Value) (a0n : Nat) (a0m : Nat) (a0R : Nat → Nat → Int) (a0T : Nat → Int) (w : World) (w0s : Rw w a0r a0n a0R) (w0u : Ts w a0t a0m a0T) :
    Calls Try.prog 3 #[.agg #[a0r, a0t]] w fun e w' => e = .returned (.bool true) ∧ Below w.heap.size w w' := by
  have HRW : Hid (Rw w a0r a0n a0R) := w0s
  have HTS : Hid (Ts w a0t a0m a0T) := w0u
  obtain ⟨zs, hz29, hzsz, hzs⟩ := zero29
  have HZS : Hid (zs.size = 258) := hzsz
  have B0 : Below w.heap.size w (w.alloc (Obj.cells #[a0r, a0t] 25)) := (Below.refl _ _).alloc (Nat.le_refl _) _
  have HR0 : Hid (Rw (w.alloc (Obj.cells #[a0r, a0t] 25)) a0r a0n a0R) := w0s.below B0 (Nat.le_refl _)
  have HT0 : Hid (Ts (w.alloc (Obj.cells #[a0r, a0t] 25)) a0t a0m a0T) := w0u.below B0 (Nat.le_refl _)
  obtain ⟨c, HC⟩ : ∃ c, Hid (chk a0n a0m a0R a0T = c) := ⟨_, (rfl : _ = _)⟩
  by_cases h0 : c = 0
  · subst h0
    obtain ⟨g0, g1, g2, -⟩ := chk_zero HC.out
    have g2s := g2.symm
    subst g2s
    have hpk := pack_ok a0r a0t a0n a0R a0T _ HR0.out HT0.out HC.out
    have HPK : Hid (∀ W, Below w.heap.size w W → Calls Try.prog 8 #[.agg #[a0r, a0t]] W fun e w' => ∃ lq nv, lq = pl (fun b => idx a0n a0R (fsts a0n a0R b) b) nv a0t ∧ e = .returned (.agg lq.toArray) ∧ Nx w' nv a0n (fun _ => (fsts a0n a0R 256).length) (fun i t => a0R i ((fsts a0n a0R 256).getD t 0)) ∧ Below W.heap.size W w') := fun W hb =>
      (packed_ok a0r a0t a0n a0R a0T W (HRW.out.below hb (Nat.le_refl _)) (HTS.out.below hb (Nat.le_refl _)) g0 g1).mono fun e w' ⟨nv, e1, e2, _, e4⟩ => ⟨_, nv, rfl, e1, e2, e4⟩
    clear w0s w0u hzs hzsz g0 g1
    go_enter Try.func3, Try.ntmps3
    go_wp2_with fail
    refine hpk.mono ?_
    rintro _ w2 ⟨nv1, tv1, rfl, hnx, hts, hb⟩
    have B2 : Below w.heap.size w w2 := B0.trans (hb.mono B0.size)
    have hw2 : w.heap.size < w2.heap.size := by have := hb.size; simp at this; omega
    obtain ⟨l, HLL⟩ : ∃ l, Hid (pl (fun b => idx a0n a0R (fsts a0n a0R b) b) nv1 tv1 = l) := ⟨_, (rfl : _ = _)⟩
    have HSL : Hid ((Try.prog.info? 29).map (·.size) = some l.length) := by show _ = _; rw [← HLL.out, pl_length]; exact size29
    have HSL2 : Hid (l.toArray.size = 258) := by show _ = _; rw [List.size_toArray, ← HLL.out, pl_length]
    have HONE : Hid (l.toArray.all (·.oneCell') = true) := by
      obtain ⟨_, _, e1, _⟩ := hnx
      obtain ⟨_, _, e2, _⟩ := hts
      show _ = _
      rw [← HLL.out, e1, e2]
      exact pl_one _ _ _ _ _ _ _
    have HK : Hid (Pk w w2.heap.size a0n a0R a0T a0r a0t nv1 tv1 l (w2.alloc (Obj.cells l.toArray 29))) := by
      have Ba := (Below.refl w2.heap.size w2).alloc (Nat.le_refl _) (Obj.cells l.toArray 29)
      refine ⟨B2.trans (Ba.mono B2.size), Go.Lib.cell?_alloc_some _ ((hb.cell (by simp)).trans (by simp)), Go.Lib.cell?_alloc_some _ ((hb.cell (by simp)).trans (by simp)), range_block w2 l 29, by simp, hnx.below Ba (Nat.le_refl _), hts.below Ba (Nat.le_refl _), by simp; omega⟩
    have HSM : Hid (∀ (W : World) (nv2 : Value) (lq : List Value), Pk w w2.heap.size a0n a0R a0T a0r a0t nv1 tv1 l W → lq = pl (fun b => idx a0n a0R (fsts a0n a0R b) b) nv2 a0t → Nx W nv2 a0n (fun _ => (fsts a0n a0R 256).length) (fun i t => a0R i ((fsts a0n a0R 256).getD t 0)) → Calls Try.prog 7 #[.agg l.toArray, .agg lq.toArray] W fun e w' => e = .returned (.bool true) ∧ Below W.heap.size W w') := fun W nv2 lq hk e hn => by
      have := samePacked_any (fun b => idx a0n a0R (fsts a0n a0R b) b) (fun b => idx a0n a0R (fsts a0n a0R b) b) nv1 tv1 nv2 a0t a0n a0n a0n a0n (fun _ => (fsts a0n a0R 256).length) (fun _ => (fsts a0n a0R 256).length) (fun i t => a0R i ((fsts a0n a0R 256).getD t 0)) (fun i t => a0R i ((fsts a0n a0R 256).getD t 0)) a0T a0T W hk.nx hk.ts hn (HTS.out.below hk.below (Nat.le_refl _))
      rw [eqO_refl, eqN_refl, eqT_refl a0n _ _ (fun _ _ => rfl), HLL.out, ← e] at this
      exact this
    rw [HLL.out]
    clear hnx hts hb hpk HLL B2
    have y0 := HK.out.c0
    have y1 := HK.out.c1
    go_wp2_with (refine wpList_store_new29 rfl _ _ rfl zs l.toArray rfl rfl HZS.out HSL2.out HONE.out ?_)
    have hri := right_any a0r a0t a0n a0n a0R a0T _ (HRW.out.below HK.out.below (Nat.le_refl _)) (HTS.out.below HK.out.below (Nat.le_refl _))
    rw [HC.out] at hri
    refine hri.mono ?_
    rintro _ w3 ⟨rfl, hb⟩
    have HK3 : Hid (Pk w w2.heap.size a0n a0R a0T a0r a0t nv1 tv1 l w3) := HK.out.next hb
    obtain ⟨g3, HG3⟩ : ∃ q, Hid (w2.heap.size = q) := ⟨_, (rfl : _ = _)⟩
    rw [HG3.out] at HK3 HSM
    rw [HG3.out]
    have HPK2 : Hid (∀ W, Pk w g3 a0n a0R a0T a0r a0t nv1 tv1 l W → Calls Try.prog 8 #[.agg #[a0r, a0t]] W fun e w' => ∃ lq nv, lq = pl (fun b => idx a0n a0R (fsts a0n a0R b) b) nv a0t ∧ e = .returned (.agg lq.toArray) ∧ Nx w' nv a0n (fun _ => (fsts a0n a0R 256).length) (fun i t => a0R i ((fsts a0n a0R 256).getD t 0)) ∧ Below W.heap.size W w') := fun W h => HPK.out W h.below
    clear hb hri y0 y1 HK HPK HSL2 HONE HZS hz29 B0 HR0 HT0 g2 hw2
    have HPK := HPK2
    clear HPK2
    go_wp2_with fail
    refine wp_region_free mixed (fun a0 d a W => ∃ (lq : List Value) (nv2 : Value) (x2 x23 x24 x25 x26 x27 x28 x29 x30 : Value), a = (((((((((a0.put (some 2) x2).put (some 23) x23).put (some 24) x24).put (some 25) x25).put (some 26) x26).put (some 27) x27).put (some 28) x28).put (some 29) x29).put (some 30) x30) ∧ Hid (RL5 w g3 a0n a0R a0T a0r a0t nv1 tv1 l lq nv2 d x2 x23 x24 x25 x26 x27 x28 x29 x30 W)) (by kernel_rfl) ⟨[], undef, (.bool false), undef, undef, undef, undef, undef, undef, undef, undef, by simp only [Act.put, List.setIfInBounds_toArray, List.set_cons_zero, List.set_cons_succ], ?_⟩ ?_ ?_
    · exact ⟨fun h => no_way h, fun h => no_way h, fun h => no_way h, fun h => no_way h, fun h => no_way h, fun h => no_way h, fun h => no_way h, fun h => no_way h, fun h => no_way h, HK3.out.next (Below.refl _ _).drew, fun h => no_way h, fun h => no_way h⟩
    · simp only [StepAll, and_true]
      refine ⟨?_, ?_, ?_, ?_, ?_, ?_, ?_, ?_, ?_⟩
      · intro d a W hI hd hdep
        obtain ⟨lq, nv2, x2, x23, x24, x25, x26, x27, x28, x29, x30, rfl, hF⟩ := hI
        clear hdep hd
        intro K hK
        simp only [Act.put, List.setIfInBounds_toArray, List.set_cons_zero, List.set_cons_succ]
        go_simp
        refine hK.out _ _ ⟨lq, nv2, x2, (.int .i64 0), x24, x25, x26, x27, x28, x29, x30, by simp only [Act.put, List.setIfInBounds_toArray, List.set_cons_zero, List.set_cons_succ], ?_⟩
        exact ⟨fun _ => rfl, fun h => hF.out.f1 (by simpa using h), fun h => hF.out.f2 (by simpa using h), fun h => hF.out.f3 (by simpa using h), fun h => hF.out.f4 (by simpa using h), fun h => hF.out.f5 (by simpa using h), fun h => hF.out.f6 (by simpa using h), fun h => hF.out.f7 (by simpa using h), fun h => hF.out.f8 (by simpa using h), hF.out.kp, fun h => hF.out.lqe (by simpa using h), fun h => hF.out.nx (by simpa using h)⟩
      · intro d a W hI hd hdep
        obtain ⟨lq, nv2, x2, x23, x24, x25, x26, x27, x28, x29, x30, rfl, hF⟩ := hI
        have hd0 : d 0 = true := dep_of hdep 0 (by kernel_rfl)
        obtain rfl := hF.out.f0 hd0
        clear hdep hd hd0
        intro K hK
        simp only [Act.put, List.setIfInBounds_toArray, List.set_cons_zero, List.set_cons_succ]
        go_simp
        refine hK.out _ _ ⟨lq, nv2, x2, (.int .i64 0), (.bool true), x25, x26, x27, x28, x29, x30, by simp only [Act.put, List.setIfInBounds_toArray, List.set_cons_zero, List.set_cons_succ], ?_⟩
        exact ⟨fun h => hF.out.f0 (by simpa using h), fun _ => rfl, fun h => hF.out.f2 (by simpa using h), fun h => hF.out.f3 (by simpa using h), fun h => hF.out.f4 (by simpa using h), fun h => hF.out.f5 (by simpa using h), fun h => hF.out.f6 (by simpa using h), fun h => hF.out.f7 (by simpa using h), fun h => hF.out.f8 (by simpa using h), hF.out.kp, fun h => hF.out.lqe (by simpa using h), fun h => hF.out.nx (by simpa using h)⟩
      · intro d a W hI hd hdep
        obtain ⟨lq, nv2, x2, x23, x24, x25, x26, x27, x28, x29, x30, rfl, hF⟩ := hI
        have hd1 : d 1 = true := dep_of hdep 1 (by kernel_rfl)
        obtain rfl := hF.out.f1 hd1
        clear hdep hd hd1
        intro K hK
        simp only [Act.put, List.setIfInBounds_toArray, List.set_cons_zero, List.set_cons_succ]
        go_simp
        refine hK.out _ _ ⟨lq, nv2, x2, x23, (.bool true), (.bool true), x26, x27, x28, x29, x30, by simp only [Act.put, List.setIfInBounds_toArray, List.set_cons_zero, List.set_cons_succ], ?_⟩
        exact ⟨fun h => hF.out.f0 (by simpa using h), fun h => hF.out.f1 (by simpa using h), fun _ => rfl, fun h => hF.out.f3 (by simpa using h), fun h => hF.out.f4 (by simpa using h), fun h => hF.out.f5 (by simpa using h), fun h => hF.out.f6 (by simpa using h), fun h => hF.out.f7 (by simpa using h), fun h => hF.out.f8 (by simpa using h), hF.out.kp, fun h => hF.out.lqe (by simpa using h), fun h => hF.out.nx (by simpa using h)⟩
      · intro d a W hI hd hdep
        obtain ⟨lq, nv2, x2, x23, x24, x25, x26, x27, x28, x29, x30, rfl, hF⟩ := hI
        have hd2 : d 2 = true := dep_of hdep 2 (by kernel_rfl)
        obtain rfl := hF.out.f2 hd2
        clear hdep hd hd2
        intro K hK
        simp only [Act.put, List.setIfInBounds_toArray, List.set_cons_zero, List.set_cons_succ]
        rw [if_pos (by rfl)]
        refine wp_load_mid 29 _ rfl g3 0 rfl l _ hF.out.kp.rng Try.underlying29 rfl HSL.out ?_
        simp only [Act.put, List.setIfInBounds_toArray, List.set_cons_zero, List.set_cons_succ]
        refine hK.out _ _ ⟨lq, nv2, x2, x23, x24, (.bool true), (.agg l.toArray), x27, x28, x29, x30, by simp only [Act.put, List.setIfInBounds_toArray, List.set_cons_zero, List.set_cons_succ], ?_⟩
        exact ⟨fun h => hF.out.f0 (by simpa using h), fun h => hF.out.f1 (by simpa using h), fun h => hF.out.f2 (by simpa using h), fun _ => rfl, fun h => hF.out.f4 (by simpa using h), fun h => hF.out.f5 (by simpa using h), fun h => hF.out.f6 (by simpa using h), fun h => hF.out.f7 (by simpa using h), fun h => hF.out.f8 (by simpa using h), hF.out.kp, fun h => hF.out.lqe (by simpa using h), fun h => hF.out.nx (by simpa using h)⟩
      · intro d a W hI hd hdep
        obtain ⟨lq, nv2, x2, x23, x24, x25, x26, x27, x28, x29, x30, rfl, hF⟩ := hI
        have hd2 : d 2 = true := dep_of hdep 2 (by kernel_rfl)
        obtain rfl := hF.out.f2 hd2
        have y0 := hF.out.kp.c0
        have y1 := hF.out.kp.c1
        clear hdep hd hd2
        intro K hK
        simp only [Act.put, List.setIfInBounds_toArray, List.set_cons_zero, List.set_cons_succ]
        go_simp
        refine hK.out _ _ ⟨lq, nv2, x2, x23, x24, (.bool true), x26, (.agg #[a0r, a0t]), x28, x29, x30, by simp only [Act.put, List.setIfInBounds_toArray, List.set_cons_zero, List.set_cons_succ], ?_⟩
        exact ⟨fun h => hF.out.f0 (by simpa using h), fun h => hF.out.f1 (by simpa using h), fun h => hF.out.f2 (by simpa using h), fun h => hF.out.f3 (by simpa using h), fun _ => rfl, fun h => hF.out.f5 (by simpa using h), fun h => hF.out.f6 (by simpa using h), fun h => hF.out.f7 (by simpa using h), fun h => hF.out.f8 (by simpa using h), hF.out.kp, fun h => hF.out.lqe (by simpa using h), fun h => hF.out.nx (by simpa using h)⟩
      · intro d a W hI hd hdep
        obtain ⟨lq, nv2, x2, x23, x24, x25, x26, x27, x28, x29, x30, rfl, hF⟩ := hI
        have hd2 : d 2 = true := dep_of hdep 2 (by kernel_rfl)
        have hd4 : d 4 = true := dep_of hdep 4 (by kernel_rfl)
        obtain rfl := hF.out.f2 hd2
        obtain rfl := hF.out.f4 hd4
        have hcl := HPK.out W hF.out.kp
        clear hdep hd hd2 hd4
        intro K hK
        simp only [Act.put, List.setIfInBounds_toArray, List.set_cons_zero, List.set_cons_succ]
        go_simp
        refine hcl.mono ?_
        rintro _ W1 ⟨lq1, nv1q, e1, rfl, hnx, hb1⟩
        have HE1 : Hid (lq1 = pl (fun b => idx a0n a0R (fsts a0n a0R b) b) nv1q a0t) := e1
        clear e1
        go_simp
        refine hK.out _ _ ⟨lq1, nv1q, x2, x23, x24, (.bool true), x26, (.agg #[a0r, a0t]), (.agg lq1.toArray), x29, x30, by simp only [Act.put, List.setIfInBounds_toArray, List.set_cons_zero, List.set_cons_succ], ?_⟩
        exact ⟨fun h => hF.out.f0 (by simpa using h), fun h => hF.out.f1 (by simpa using h), fun h => hF.out.f2 (by simpa using h), fun h => hF.out.f3 (by simpa using h), fun h => hF.out.f4 (by simpa using h), fun _ => rfl, fun h => hF.out.f6 (by simpa using h), fun h => hF.out.f7 (by simpa using h), fun h => hF.out.f8 (by simpa using h), hF.out.kp.next hb1, fun _ => HE1.out, fun _ => hnx⟩
      · intro d a W hI hd hdep
        obtain ⟨lq, nv2, x2, x23, x24, x25, x26, x27, x28, x29, x30, rfl, hF⟩ := hI
        have hd2 : d 2 = true := dep_of hdep 2 (by kernel_rfl)
        have hd3 : d 3 = true := dep_of hdep 3 (by kernel_rfl)
        have hd5 : d 5 = true := dep_of hdep 5 (by kernel_rfl)
        obtain rfl := hF.out.f2 hd2
        obtain rfl := hF.out.f3 hd3
        obtain rfl := hF.out.f5 hd5
        have hcl := HSM.out W nv2 lq hF.out.kp (hF.out.lqe hd5) (hF.out.nx hd5)
        clear hdep hd hd2 hd3 hd5
        intro K hK
        simp only [Act.put, List.setIfInBounds_toArray, List.set_cons_zero, List.set_cons_succ]
        go_simp
        refine hcl.mono ?_
        rintro _ W1 ⟨rfl, hb1⟩
        go_simp
        refine hK.out _ _ ⟨lq, nv2, x2, x23, x24, (.bool true), (.agg l.toArray), x27, (.agg lq.toArray), (.bool true), x30, by simp only [Act.put, List.setIfInBounds_toArray, List.set_cons_zero, List.set_cons_succ], ?_⟩
        exact ⟨fun h => hF.out.f0 (by simpa using h), fun h => hF.out.f1 (by simpa using h), fun h => hF.out.f2 (by simpa using h), fun h => hF.out.f3 (by simpa using h), fun h => hF.out.f4 (by simpa using h), fun h => hF.out.f5 (by simpa using h), fun _ => rfl, fun h => hF.out.f7 (by simpa using h), fun h => hF.out.f8 (by simpa using h), hF.out.kp.next hb1, fun h => hF.out.lqe (by simpa using h), fun h => (hF.out.nx (by simpa using h)).below hb1 (Nat.le_refl _)⟩
      · intro d a W hI hd hdep
        obtain ⟨lq, nv2, x2, x23, x24, x25, x26, x27, x28, x29, x30, rfl, hF⟩ := hI
        have hd2 : d 2 = true := dep_of hdep 2 (by kernel_rfl)
        have hd6 : d 6 = true := dep_of hdep 6 (by kernel_rfl)
        obtain rfl := hF.out.f2 hd2
        obtain rfl := hF.out.f6 hd6
        clear hdep hd hd2 hd6
        intro K hK
        simp only [Act.put, List.setIfInBounds_toArray, List.set_cons_zero, List.set_cons_succ]
        go_simp
        refine hK.out _ _ ⟨lq, nv2, x2, x23, x24, (.bool true), x26, x27, x28, (.bool true), (.bool true), by simp only [Act.put, List.setIfInBounds_toArray, List.set_cons_zero, List.set_cons_succ], ?_⟩
        exact ⟨fun h => hF.out.f0 (by simpa using h), fun h => hF.out.f1 (by simpa using h), fun h => hF.out.f2 (by simpa using h), fun h => hF.out.f3 (by simpa using h), fun h => hF.out.f4 (by simpa using h), fun h => hF.out.f5 (by simpa using h), fun h => hF.out.f6 (by simpa using h), fun _ => rfl, fun h => hF.out.f8 (by simpa using h), hF.out.kp, fun h => hF.out.lqe (by simpa using h), fun h => hF.out.nx (by simpa using h)⟩
      · intro d a W hI hd hdep
        obtain ⟨lq, nv2, x2, x23, x24, x25, x26, x27, x28, x29, x30, rfl, hF⟩ := hI
        have hd7 : d 7 = true := dep_of hdep 7 (by kernel_rfl)
        obtain rfl := hF.out.f7 hd7
        clear hdep hd hd7
        intro K hK
        simp only [Act.put, List.setIfInBounds_toArray, List.set_cons_zero, List.set_cons_succ]
        go_simp
        refine hK.out _ _ ⟨lq, nv2, (.bool true), x23, x24, x25, x26, x27, x28, x29, (.bool true), by simp only [Act.put, List.setIfInBounds_toArray, List.set_cons_zero, List.set_cons_succ], ?_⟩
        exact ⟨fun h => hF.out.f0 (by simpa using h), fun h => hF.out.f1 (by simpa using h), fun h => hF.out.f2 (by simpa using h), fun h => hF.out.f3 (by simpa using h), fun h => hF.out.f4 (by simpa using h), fun h => hF.out.f5 (by simpa using h), fun h => hF.out.f6 (by simpa using h), fun h => hF.out.f7 (by simpa using h), fun _ => rfl, hF.out.kp, fun h => hF.out.lqe (by simpa using h), fun h => hF.out.nx (by simpa using h)⟩
    · intro d a W hI hall
      obtain ⟨lq, nv2, x2, x23, x24, x25, x26, x27, x28, x29, x30, rfl, hF⟩ := hI
      simp only [List.length_cons, List.length_nil] at hall
      obtain rfl := hF.out.f0 (hall 0 (by omega))
      obtain rfl := hF.out.f1 (hall 1 (by omega))
      obtain rfl := hF.out.f2 (hall 2 (by omega))
      obtain rfl := hF.out.f3 (hall 3 (by omega))
      obtain rfl := hF.out.f4 (hall 4 (by omega))
      obtain rfl := hF.out.f5 (hall 5 (by omega))
      obtain rfl := hF.out.f6 (hall 6 (by omega))
      obtain rfl := hF.out.f7 (hall 7 (by omega))
      obtain rfl := hF.out.f8 (hall 8 (by omega))
      have HBX : Hid (Below w.heap.size w W) := hF.out.kp.below
      clear hF hall
      simp only [Act.put, List.setIfInBounds_toArray, List.set_cons_zero, List.set_cons_succ]
      go_wp2_with fail
      go_ret
      exact ⟨rfl, HBX.out⟩
  · have hc0 : (c == 0) = false := by simp [h0]
    have hcc : (c == c) = true := by simp
    have hpk := pack_bad a0r a0t a0n a0m a0R a0T _ HR0.out HT0.out (by rw [HC.out]; exact h0)
    have HSM : Hid (∀ W : World, Calls Try.prog 7 #[.agg zs, .agg zs] W fun e w' => e = .returned (.bool true) ∧ Below W.heap.size W w') := fun W => by
      have := samePacked_any (fun _ => 0) (fun _ => 0) (.slice none 0 0) (.slice none 0 0) (.slice none 0 0) (.slice none 0 0) 0 0 0 0 (fun _ => 0) (fun _ => 0) (fun _ _ => 0) (fun _ _ => 0) (fun _ => 0) (fun _ => 0) W (nx_nil W) (ts_nil W) (nx_nil W) (ts_nil W)
      rw [eqO_refl, eqN_refl, eqT_refl 0 _ _ (fun _ _ => rfl), ← hzs] at this
      exact this
    rw [HC.out] at hpk
    have HONE : Hid (zs.all (·.oneCell') = true) := by show _ = _; rw [hzs]; exact pl_one _ _ _ _ _ _ _
    have HRG : Hid (∀ W : World, (W.alloc (Obj.cells zs 29)).rangeAt W.heap.size 0 zs.toList) := fun W => by have := range_block W zs.toList 29; simpa using this
    have HSL : Hid ((Try.prog.info? 29).map (·.size) = some zs.toList.length) := by show _ = _; rw [Array.length_toList, hzsz]; exact size29
    rw [← hzs] at hpk
    clear w0s w0u hzs hzsz h0
    go_enter Try.func3, Try.ntmps3
    go_wp2_with fail
    refine hpk.mono ?_
    rintro _ w2 ⟨rfl, hb⟩
    have B2 : Below w.heap.size w (w2.alloc (Obj.cells zs 29)) := (B0.trans (hb.mono B0.size)).alloc (B0.trans (hb.mono B0.size)).size _
    have y0 : (w2.alloc (Obj.cells zs 29)).cell? ⟨w.heap.size, 0, none⟩ = some a0r := Go.Lib.cell?_alloc_some _ ((hb.cell (by simp)).trans (by simp))
    have y1 : (w2.alloc (Obj.cells zs 29)).cell? ⟨w.heap.size, 1, none⟩ = some a0t := Go.Lib.cell?_alloc_some _ ((hb.cell (by simp)).trans (by simp))
    clear hb hpk
    go_wp2_with (refine wpList_store_new29 rfl _ _ rfl zs zs rfl rfl HZS.out HZS.out HONE.out ?_)
    have hri := right_any a0r a0t a0n a0m a0R a0T _ (HRW.out.below B2 (Nat.le_refl _)) (HTS.out.below B2 (Nat.le_refl _))
    rw [HC.out] at hri
    refine hri.mono ?_
    rintro _ w3 ⟨rfl, hb⟩
    have HR3 : Hid (w3.rangeAt w2.heap.size 0 zs.toList) := fun j v hv => (hb.cell (p := ⟨w2.heap.size, 0 + j, none⟩) (by simp)).trans (HRG.out w2 j v hv)
    have B3 : Below w.heap.size w w3 := B2.trans (hb.mono B2.size)
    clear hb hri y0 y1 HRG B2
    go_wp2_with fail
    refine wp_load_mid 29 _ rfl w2.heap.size 0 rfl zs.toList _ HR3.out Try.underlying29 rfl HSL.out ?_
    simp only [Act.put, List.setIfInBounds_toArray, List.set_cons_zero, List.set_cons_succ, Array.toArray_toList]
    go_wp2_with fail
    refine (HSM.out w3).mono ?_
    rintro _ w4 ⟨rfl, hb⟩
    have B4 : Below w.heap.size w w4 := B3.trans (hb.mono B3.size)
    clear hb
    go_wp2_with fail
    go_ret
    exact ⟨rfl, B4⟩

/-! ### What the walk gives, for every argument -/
set_option maxRecDepth 100000 in
theorem contract (H : Type) (enc : TypeId × Value → H) (W : World) (base : Nat) (args : Array Value) (ds gs : List (DataW H)) (before : List MemPlace)
    (hval : ∀ (j : Nat) t v, Try.f3.params[j]? = some t → args[j]? = some v → Value.okWide Try.prog W .any base t v)
    (hW : DataW.Whole enc Try.prog Try.f3.params.toList Rows.smallPacksSpec.vars false W args.toList ds gs before) (hsz : (DataW.weightsEach Try.prog (Try.f3.params.toList ++ Rows.smallPacksSpec.plain.varTypes Try.prog) (ds ++ gs)).all (· ≤ reachBytes) = true) :
    Calls Try.prog 3 args W fun e W' => ∃ v, e = .returned v ∧ Rows.smallPacksSpec.post enc Try.prog Try.f3 false true false false W args v W' := by
  have hW' := hW
  obtain ⟨p, q, hA0, hV, rfl, hfz, hnd⟩ := hW
  have hA : DataW.TrodAll enc Try.prog W 0 (fun _ => true) true Try.f3.params.toList args.toList ds p := hA0
  rw [Try.params3] at hA hval hsz
  obtain ⟨v0, vs0, d0, ds0, p0, q0, hargs, rfl, rfl, h0, r0⟩ := trodAll_cons hA
  obtain ⟨rfl, rfl, rfl⟩ := trodAll_nil r0
  obtain rfl : args = #[v0] := by cases args; simp_all
  obtain ⟨rfl, rfl⟩ := trodVars_none hV
  have k0 := h0
  have lt0 : ∀ x ∈ p0, x.block < W.heap.size := by obtain ⟨m, hm⟩ := k0; exact DataW.trod_lt m _ _ _ hm
  obtain ⟨a0r, a0t, a0n, a0m, a0R, a0T, rfl, w0s, w0u⟩ := open_dfa (hval 0 25 v0 rfl rfl) h0
  clear hA0
  refine (walk a0r a0t a0n a0m a0R a0T W w0s w0u).mono fun e W' ⟨he, bel⟩ => ?_
  subst he
  exact ⟨_, rfl, _, _, _, [], _, [], hW', trodAll_mk1 (shut_bool Try.underlying4 _), (trodAll_cons_mk (Below.trod laidOut (by kernel_rfl) (of_decide_eq_true (by kernel_rfl)) k0 bel lt0) trodAll_mk0), rfl, bel.frame _, fun h => by cases h⟩

/-! ### The row's step -/
set_option maxRecDepth 100000 in
theorem lifted (os : Os) (started : os.Started) (H : Type) (enc : TypeId × Value → H) :
    ReturnsInHanded {} Try.checked os 3 .any (Rows.smallPacksSpec.pre6 enc Try.prog Try.f3 Rows.smallPacksRow.domain false) (Rows.smallPacksSpec.post enc Try.prog Try.f3 false true false false) := by
  refine returnsInHanded_of_change_sized (C := Try.checked) own started (by kernel_rfl) Try.func3
    (ChangeSpec.witness6 (enc := enc) (C := Try.checked) false ⟨#[], #[.agg #[.slice none 0 0, .slice none 0 0]], []⟩ 8 (by kernel_rfl) (by kernel_rfl) (by kernel_rfl) (by kernel_rfl)) ?_
  intro W base args ds gs before hval hW hcnd hsz _
  exact contract H enc W base args ds gs before hval hW hsz

theorem over : Rows.smallPacksRow.holds Try.pinned (OpenSpec.ofChange Rows.smallPacksSpec) :=
  OpenClaim.holds_of_wide 3 Try.f3 rfl rfl rfl rfl rfl rfl rfl ⟨rfl, rfl, rfl, rfl, rfl⟩ rfl rfl rfl rfl rfl (by kernel_rfl) Try.func3 (by kernel_rfl)
    (of_decide_eq_true (by kernel_rfl)) (by unfold Func.isWrapper; first | (rw [if_pos (by decide +kernel)]; kernel_rfl) | (rw [if_neg (by decide +kernel)]; exact ⟨rfl, rfl⟩))
    (fun os started H enc _ => lifted os started H enc)

end Go.Proofs.Ytkogbokelaanjaa.smallPacks
namespace Go.Proofs.Ytkogbokelaanjaa
/-- The given statement. -/
theorem smallPacks_holds : Rows.SmallPacksSaid := smallPacks.over
#print axioms smallPacks_holds
end Go.Proofs.Ytkogbokelaanjaa
