/-
  LexerSays returns true whatever packed automaton, text and place are handed in, and changes nothing that it was handed; no condition.
-/
import Derived.Test.YtichmhlnjjejmaaRows
import Derived.WalkKit
import Derived.ProofKit
import Derived.OpenShut
import Derived.ShutString
import Derived.SizedLaws
import Derived.ChangeOld
import Derived.Below
import Derived.Carry
import Derived.WalkLawsBesides
import Derived.WalkSpells
import Derived.Test.YtichmhlnjjejmaaOpens
import Derived.Test.YtichmhlnjjejmaaLxOne
import Derived.Test.YtichmhlnjjejmaaLxTok
import Derived.Test.YtichmhlnjjejmaaLxEq
namespace Go.Proofs.Ytichmhlnjjejmaa.lexerSays
open Go.ChangeShapes Go.WideShapes Go.ChangeAt Go.RowKit
open Go.ChangeMaps (open_string shut_string)
open Dfa
set_option linter.unusedVariables false

theorem own : ownKnob Try.prog.godebug = none := by kernel_rfl
theorem laidOut : laidOutB Try.prog = true := by kernel_rfl
theorem tk_len (R : Nat → Nat → Int) (T : Nat → Int) (s : List UInt8) : ∀ f p, (tk R T s f p).1.length ≤ f := by
  intro f
  induction f with
  | zero => intro p; simp [tk]
  | succ f ih =>
    intro p
    unfold tk
    split
    · simp
    · split
      · simp
      · simp; exact ih _
theorem tks_below {w w' : World} {v : Value} {fs : List (Int × Nat × Nat)} (h : Tks w v fs) {B : Nat} (hb : Below B w w') (hB : w.heap.size ≤ B) : Tks w' v fs := by
  obtain ⟨ao, cap, hv, hm, h | ⟨b, o, h1, h2, h3⟩⟩ := h
  · exact ⟨ao, cap, hv, hm, Or.inl h⟩
  · exact ⟨ao, cap, hv, hm, Or.inr ⟨b, o, h1, Nat.lt_of_lt_of_le h2 hb.size, fun i hi => ⟨(hb.cell (p := ⟨b, o + i * 3, none⟩) (by simp; omega)).trans (h3 i hi).1, (hb.cell (p := ⟨b, o + i * 3 + 1, none⟩) (by simp; omega)).trans (h3 i hi).2.1, (hb.cell (p := ⟨b, o + i * 3 + 2, none⟩) (by simp; omega)).trans (h3 i hi).2.2⟩⟩⟩
/-- What One says where all is right. -/
def OneSays (n : Nat) (O : Nat → Nat) (X : Nat → Nat → Int) (T : Nat → Int) (s : ByteArray) (f ta tb tc g : Int) (bb : Bool) : Prop :=
  ((f < 0 ∨ (s.size : Int) < f) ∧ ta = 0 ∧ tb = 0 ∧ tc = 0 ∧ g = 1 ∧ bb = false) ∨
  ∃ k : Nat, f = (k : Int) ∧ k ≤ s.size ∧ g = 0 ∧ Tv k (lng (RR n O X) T (s.data.toList.drop k)).1 (lng (RR n O X) T (s.data.toList.drop k)).2 bb ta tb tc
/-- What the law holds behind its calls. -/
structure Ls (w : World) (g1 g2 : Nat) (ta tb tc : Int) (rv tv : Value) (W : World) : Prop where
  t0 : W.cell? ⟨g1, 0, none⟩ = some (.int .i64 ta)
  t1 : W.cell? ⟨g1, 1, none⟩ = some (.int .i64 tb)
  t2 : W.cell? ⟨g1, 2, none⟩ = some (.int .i64 tc)
  d0 : W.cell? ⟨g2, 0, none⟩ = some rv
  d1 : W.cell? ⟨g2, 1, none⟩ = some tv
  l1 : g1 < W.heap.size
  l2 : g2 < W.heap.size
  below : Below w.heap.size w W
theorem Ls.next {w : World} {g1 g2 : Nat} {ta tb tc : Int} {rv tv : Value} {W W' : World} (h : Ls w g1 g2 ta tb tc rv tv W) (hb : Below W.heap.size W W') : Ls w g1 g2 ta tb tc rv tv W' :=
  ⟨(hb.cell (p := ⟨g1, 0, none⟩) h.l1).trans h.t0, (hb.cell (p := ⟨g1, 1, none⟩) h.l1).trans h.t1, (hb.cell (p := ⟨g1, 2, none⟩) h.l1).trans h.t2, (hb.cell (p := ⟨g2, 0, none⟩) h.l2).trans h.d0, (hb.cell (p := ⟨g2, 1, none⟩) h.l2).trans h.d1, Nat.lt_of_lt_of_le h.l1 hb.size, Nat.lt_of_lt_of_le h.l2 hb.size, h.below.trans (hb.mono h.below.size)⟩

/-! ### The walk: the Go text returns true. -/
set_option maxHeartbeats 4000000 in
set_option maxRecDepth 20000 in
theorem walk (a0O : Nat → Nat) (a0p : Value) (a0t : Value) (a0n : Nat) (a0m : Nat) (a0L : Nat → Nat) (a0X : Nat → Nat → Int) (a0T : Nat → Int) (a1 : ByteArray) (a2 : Int) (w : World) (w0o : ∀ j, a0O j < 256) (w0s : Nx w a0p a0n a0L a0X) (w0u : Ts w a0t a0m a0T) (w1 : a1.size ≤ 140737488351232) (w2 : (Lit.int .i64 a2).wf = true) :
    Calls Try.prog 3 #[.agg (pl a0O a0p a0t).toArray, .string a1, .int .i64 a2] w fun e w' => e = .returned (.bool true) ∧ Below w.heap.size w w' := by
  have hs1 : a1.size ≤ 9223372036854775807 := by omega
  obtain ⟨l, HLL⟩ : ∃ l, Hid (pl a0O a0p a0t = l) := ⟨_, (rfl : pl a0O a0p a0t = pl a0O a0p a0t)⟩
  have H0 : Hid (Px w w.heap.size a0O a0p a0t a0n a0m a0L a0X a0T l (w.alloc (Obj.cells l.toArray 26))) := Px.box HLL.out w0s w0u
  have HS : Hid ((Try.prog.info? 26).map (·.size) = some l.length) := by show _ = _; rw [← HLL.out, pl_length]; exact size26
  have HAL : Hid (∀ W, Px w w.heap.size a0O a0p a0t a0n a0m a0L a0X a0T l W → W.rangeAt w.heap.size 0 l) := fun W h => by have := h.all; rwa [HLL.out] at this
  obtain ⟨c, HC⟩ : ∃ c, Hid (chkP a0n a0m a0O a0L a0X a0T = c) := ⟨_, (rfl : chkP a0n a0m a0O a0L a0X a0T = chkP a0n a0m a0O a0L a0X a0T)⟩
  have HRI : Hid (∀ W, Px w w.heap.size a0O a0p a0t a0n a0m a0L a0X a0T l W → Calls Try.prog 4 #[.agg l.toArray] W fun e w' => e = .returned (.int .i64 c) ∧ Below W.heap.size W w') := fun W h => by have := rightP_any a0O a0p a0t a0n a0m a0L a0X a0T W w0o h.next h.tags; rwa [HLL.out, HC.out] at this
  obtain ⟨cs, HCS⟩ : ∃ c, Hid (chkS a0n a0m a0O a0L a0X a0T a1.size = c) := ⟨_, (rfl : chkS a0n a0m a0O a0L a0X a0T a1.size = chkS a0n a0m a0O a0L a0X a0T a1.size)⟩
  rw [HLL.out]
  by_cases h0 : cs = 0
  · subst h0
    have hC : c = 0 ∧ ¬ 2000 < a1.size := by
      have h := HCS.out
      unfold chkS at h
      rw [HC.out] at h
      by_cases e : c = 0
      · refine ⟨e, fun g => ?_⟩
        rw [if_pos e, if_pos g] at h
        omega
      · rw [if_neg e] at h; exact absurd h e
    obtain ⟨hC0, hsz⟩ := hC
    subst hC0
    have hs2 : a1.size ≤ 2000 := by omega
    obtain ⟨hn0, hn1, hmn, hcols, hsts, -⟩ := chkP_zero HC.out
    have hmn2 := hmn.symm
    subst hmn2
    have hrow : rowsOk a0n (RR a0n a0O a0X) = true := all_true fun i hi => all_true fun j hj => by
      obtain ⟨g1, g2, g3⟩ := cols_at hcols
      have h2 : a0O j < a0L i := by rw [g1 i hi]; exact g3 j hj
      have h3 := states_at hsts i (a0O j) hi h2
      unfold numOk RR
      rw [if_pos ⟨hi, hj⟩]
      simp; omega
    have HROW : Hid (rowsOk a0n (RR a0n a0O a0X) = true) := hrow
    obtain ⟨an, HA⟩ : ∃ a, Hid (Dfa.all (RR a0n a0O a0X) a0T a1.data.toList = a) := ⟨_, (rfl : Dfa.all (RR a0n a0O a0X) a0T a1.data.toList = Dfa.all (RR a0n a0O a0X) a0T a1.data.toList)⟩
    have HLX : Hid (∀ W, Px w w.heap.size a0O a0p a0t a0n a0n a0L a0X a0T l W → Calls Try.prog 5 #[.agg l.toArray, .string a1] W fun e w' => ∃ v, e = .returned (.tuple #[v, .int .i64 ((an.2.getD 0 : Nat) : Int), .int .i64 (errOf an.2)]) ∧ w'.ownsRow W.heap.size 33 3 v an.1.length (tcs an.1) ∧ Below W.heap.size W w') := fun W h => by have := lex_ok a0O a0p a0t a0n a0L a0X a0T a1 W w0o h.next h.tags HC.out hs2; rwa [HLL.out, HA.out] at this
    have HON : Hid (∀ W, Px w w.heap.size a0O a0p a0t a0n a0n a0L a0X a0T l W → Calls Try.prog 6 #[.agg l.toArray, .string a1, .int .i64 a2] W fun e w' => (∃ (ta tb tc g : Int) (bb : Bool), e = .returned (.tuple #[.agg #[.int .i64 ta, .int .i64 tb, .int .i64 tc], .bool bb, .int .i64 g]) ∧ Hid (OneSays a0n a0O a0X a0T a1 a2 ta tb tc g bb)) ∧ Below W.heap.size W w') := fun W h => by
      by_cases hf : 0 ≤ a2 ∧ a2 ≤ (a1.size : Int)
      · have := one_ok a0O a0p a0t a0n a0L a0X a0T a1 a2.toNat W w0o h.next h.tags hs2 HC.out (by omega)
        rw [HLL.out, show ((a2.toNat : Nat) : Int) = a2 by omega] at this
        refine this.mono ?_
        rintro e w' ⟨⟨a, b, c, bb, e1, e2⟩, hb⟩
        exact ⟨⟨a, b, c, 0, bb, e1, Or.inr ⟨a2.toNat, by omega, by omega, rfl, e2⟩⟩, hb⟩
      · have := one_arg a0O a0p a0t a0n a0n a0L a0X a0T a1 a2 W w0o h.next h.tags hs1 HCS.out (by omega)
        rw [HLL.out] at this
        refine this.mono ?_
        rintro e w' ⟨e1, hb⟩
        exact ⟨⟨0, 0, 0, 1, false, e1, Or.inl ⟨by omega, rfl, rfl, rfl, rfl, rfl⟩⟩, hb⟩
    have HWI : Hid (∀ W, Px w w.heap.size a0O a0p a0t a0n a0n a0L a0X a0T l W → Calls Try.prog 7 #[.agg l.toArray] W fun e w' => ∃ rv, e = .returned (.agg #[rv, a0t]) ∧ Rw w' rv a0n (RR a0n a0O a0X) ∧ Below W.heap.size W w') := fun W h => by
      have := wide_ok a0O a0p a0t a0n a0L a0X a0T W h.next h.tags HC.out
      rw [HLL.out] at this
      exact this.mono fun e w' ⟨rv, e1, e2, _, e4⟩ => ⟨rv, e1, e2, e4⟩
    have HT0 : Hid (Ts w a0t a0n a0T) := w0u
    obtain ⟨ta0, tc0, rfl, -⟩ := w0u
    obtain ⟨ts, er⟩ := an
    have htl : ts.length ≤ a1.size := by
      have := tk_len (RR a0n a0O a0X) a0T a1.data.toList a1.data.toList.length 0
      have e : Dfa.all (RR a0n a0O a0X) a0T a1.data.toList = (ts, er) := HA.out
      unfold Dfa.all at e
      rw [e, data_size] at this
      exact this
    clear hmn hcols hsts hrow w0s w0o HLL hsz hn1
    have hle : ¬ (2000 : Int) < (a1.size : Int) := by omega
    go_enter Try.func3, Try.ntmps3
    go_wp2_with (refine wpList_load_mid rfl 26 _ rfl w.heap.size 0 rfl l _ (HAL.out _ H0.out) Try.underlying26 rfl HS.out ?_)
    refine (HRI.out _ H0.out).mono ?_
    rintro _ w1 ⟨rfl, hb⟩
    have H1 : Hid (Px w w.heap.size a0O a0p (.slice ta0 a0n tc0) a0n a0n a0L a0X a0T l w1) := H0.out.step hb
    clear hb H0 HRI
    go_wp2_with (refine wpList_load_mid rfl 26 _ rfl w.heap.size 0 rfl l _ (HAL.out _ H1.out) Try.underlying26 rfl HS.out ?_)
    refine (HLX.out _ H1.out).mono ?_
    rintro _ w2 ⟨v1, rfl, hown, hb⟩
    have H2 : Hid (Px w w.heap.size a0O a0p (.slice ta0 a0n tc0) a0n a0n a0L a0X a0T l w2) := H1.out.step hb
    have HT2 : Hid (Tks w2 v1 ts) := tks_of_own hown (by show ts.length ≤ _; omega)
    obtain ⟨va, vc, rfl⟩ := own_form hown
    clear hb H1 HLX hown
    simp only
    go_wp2_with (refine wpList_load_mid rfl 26 _ rfl w.heap.size 0 rfl l _ (HAL.out _ H2.out) Try.underlying26 rfl HS.out ?_)
    refine (HON.out _ H2.out).mono ?_
    rintro _ w3 ⟨⟨ta, tb, tc, g, bb, rfl, HSY⟩, hb⟩
    have H3 : Hid (Px w w.heap.size a0O a0p (.slice ta0 a0n tc0) a0n a0n a0L a0X a0T l (w3.alloc (Obj.cells #[.int .i64 ta, .int .i64 tb, .int .i64 tc] 33))) := (H2.out.step hb).step ((Below.refl _ _).alloc (Nat.le_refl _) _)
    have HT3 : Hid (Tks (w3.alloc (Obj.cells #[.int .i64 ta, .int .i64 tb, .int .i64 tc] 33)) (.slice va ts.length vc) ts) := tks_below (tks_below HT2.out hb (Nat.le_refl _)) ((Below.refl _ _).alloc (Nat.le_refl _) _) (Nat.le_refl _)
    clear hb H2 HON HT2
    go_wp2_with (refine wpList_load_mid rfl 26 _ rfl w.heap.size 0 rfl l _ (HAL.out _ H3.out) Try.underlying26 rfl HS.out ?_)
    refine (HWI.out _ H3.out).mono ?_
    rintro _ w5 ⟨rv, rfl, hR, hb⟩
    have H5 : Hid (Px w w.heap.size a0O a0p (.slice ta0 a0n tc0) a0n a0n a0L a0X a0T l w5) := H3.out.step hb
    have HT5 : Hid (Tks (w5.alloc (Obj.cells #[rv, .slice ta0 a0n tc0] 38)) (.slice va ts.length vc) ts) := tks_below (tks_below HT3.out hb (Nat.le_refl _)) ((Below.refl _ _).alloc (Nat.le_refl _) _) (Nat.le_refl _)
    have HR5 : Hid (Rw w5 rv a0n (RR a0n a0O a0X)) := hR
    have HLS : Hid (Ls w w3.heap.size w5.heap.size ta tb tc rv (.slice ta0 a0n tc0) (w5.alloc (Obj.cells #[rv, .slice ta0 a0n tc0] 38))) := by
      have h1 : ∀ j, (w5.alloc (Obj.cells #[rv, .slice ta0 a0n tc0] 38)).cell? ⟨w3.heap.size, j, none⟩ = (#[Value.int .i64 ta, .int .i64 tb, .int .i64 tc])[j]? := fun j => by
        have e := (((Below.refl w5.heap.size w5).alloc (Nat.le_refl _) (Obj.cells #[rv, .slice ta0 a0n tc0] 38)).block w3.heap.size (by have := hb.size; simp at this; omega)).trans ((hb.block w3.heap.size (by simp)).trans (heap_alloc_new w3 _))
        exact block_cell e j
      exact ⟨h1 0, h1 1, h1 2, by simp, by simp, by have := hb.size; simp at this ⊢; omega, by simp, H5.out.below.alloc H5.out.below.size _⟩
    obtain ⟨ra, rc, rfl, -⟩ := hR
    clear hb H3 HT3 HWI
    go_wp2_with fail
    refine (tokens_ok _ _ a0n (RR a0n a0O a0X) a0T a1 _ (HR5.out.below ((Below.refl _ _).alloc (Nat.le_refl _) _) (Nat.le_refl _)) (HT0.out.below HLS.out.below (Nat.le_refl _)) hn0 HROW.out hs2).mono ?_
    rintro _ w7 ⟨v2, rfl, hown, hb⟩
    rw [HA.out] at hown ⊢
    have HT7 : Hid (Tks w7 (.slice va ts.length vc) ts) := tks_below HT5.out hb (Nat.le_refl _)
    have HU7 : Hid (Tks w7 v2 ts) := tks_of_own hown (by show ts.length ≤ _; omega)
    have HL7 : Hid (Ls w w3.heap.size w5.heap.size ta tb tc (.slice ra a0n rc) (.slice ta0 a0n tc0) w7) := HLS.out.next hb
    have HR7 : Hid (Rw w7 (.slice ra a0n rc) a0n (RR a0n a0O a0X)) := ((HR5.out.below ((Below.refl _ _).alloc (Nat.le_refl _) _) (Nat.le_refl _)).below hb (Nat.le_refl _))
    obtain ⟨vb, vd, rfl⟩ := own_form hown
    clear hb hown HT5 HLS HR5
    rcases er with _ | pp
    · simp only [errOf, badOf, Option.getD_none]
      go_wp2_with fail
      refine (equal_true w7 _ _ ts HT7.out HU7.out).mono ?_
      rintro _ w8 ⟨rfl, hb⟩
      have HL8 : Hid (Ls w w3.heap.size w5.heap.size ta tb tc (.slice ra a0n rc) (.slice ta0 a0n tc0) w8) := HL7.out.next hb
      have HR8 : Hid (Rw w8 (.slice ra a0n rc) a0n (RR a0n a0O a0X)) := HR7.out.below hb (Nat.le_refl _)
      have c0 := HL8.out.t0
      have c1 := HL8.out.t1
      have c2 := HL8.out.t2
      clear hb HT7 HU7 HL7 HR7
      rcases HSY.out with ⟨hf, rfl, rfl, rfl, rfl, rfl⟩ | ⟨k, rfl, hk, rfl, hv⟩
      · by_cases hf0 : a2 < 0
        · go_wp2_with fail
          go_ret
          exact ⟨rfl, HL8.out.below⟩
        · have hf1 : (a1.size : Int) < a2 := hf.resolve_left hf0
          go_wp2_with fail
          go_ret
          exact ⟨rfl, HL8.out.below⟩
      · have hk0 : ¬ (k : Int) < 0 := by omega
        have hk1 : ¬ (a1.size : Int) < (k : Int) := by omega
        have hk2 : (0 : Int) ≤ (k : Int) := by omega
        have hk3 : (k : Int) ≤ (a1.size : Int) := by omega
        have hle2 := lng_le (RR a0n a0O a0X) a0T (a1.data.toList.drop k)
        rw [List.length_drop, data_size] at hle2
        have HCL : Hid (∀ q : Kp (fun W => Ls w w3.heap.size w5.heap.size ta tb tc (.slice ra a0n rc) (.slice ta0 a0n tc0) W ∧ Below w8.heap.size w8 W), Calls Try.prog 10 #[.agg #[.slice ra a0n rc, .slice ta0 a0n tc0], .string (a1.extract k a1.size)] q.W fun e w'' => e = .returned (.tuple #[.int .i64 (lng (RR a0n a0O a0X) a0T (a1.data.toList.drop k)).1, .int .i64 ((lng (RR a0n a0O a0X) a0T (a1.data.toList.drop k)).2 : Int)]) ∧ ∃ q2 : Kp (fun W => Ls w w3.heap.size w5.heap.size ta tb tc (.slice ra a0n rc) (.slice ta0 a0n tc0) W ∧ Below w8.heap.size w8 W), w'' = q2.W) := fun q => by
          have := refLong_any (.slice ra a0n rc) (.slice ta0 a0n tc0) a0n (RR a0n a0O a0X) a0T (a1.extract k a1.size) q.W (HR8.out.below q.h.2 (Nat.le_refl _)) (HT0.out.below q.h.1.below (Nat.le_refl _)) hn0 HROW.out (by simp; omega)
          rw [tail_list] at this
          exact Kp.calls q (fun _ _ h hb => ⟨h.1.next hb, h.2.trans (hb.mono h.2.size)⟩) this
        obtain ⟨zr, HZ⟩ : ∃ z, Hid (lng (RR a0n a0O a0X) a0T (a1.data.toList.drop k) = z) := ⟨_, (rfl : lng _ _ _ = lng _ _ _)⟩
        rw [HZ.out] at hv HCL hle2
        obtain ⟨r, z⟩ := zr
        simp only at hv HCL hle2
        have p0 : ∀ q : Kp (fun W => Ls w w3.heap.size w5.heap.size ta tb tc (.slice ra a0n rc) (.slice ta0 a0n tc0) W ∧ Below w8.heap.size w8 W), q.W.cell? ⟨w5.heap.size, 0, none⟩ = some (.slice ra a0n rc) := fun q => q.h.1.d0
        have p1 : ∀ q : Kp (fun W => Ls w w3.heap.size w5.heap.size ta tb tc (.slice ra a0n rc) (.slice ta0 a0n tc0) W ∧ Below w8.heap.size w8 W), q.W.cell? ⟨w5.heap.size, 1, none⟩ = some (.slice ta0 a0n tc0) := fun q => q.h.1.d1
        have hne : Nonempty (Kp (fun W => Ls w w3.heap.size w5.heap.size ta tb tc (.slice ra a0n rc) (.slice ta0 a0n tc0) W ∧ Below w8.heap.size w8 W)) := ⟨⟨_, HL8.out, Below.refl _ _⟩⟩
        clear c0 c1 c2
        go_wp2_with fail
        refine wp_region_kept (S := fun W => Ls w w3.heap.size w5.heap.size ta tb tc (.slice ra a0n rc) (.slice ta0 a0n tc0) W ∧ Below w8.heap.size w8 W) mixed (by kernel_rfl) ⟨HL8.out.next (Below.refl _ _).drew, (Below.refl _ _).drew⟩ ?_
        repeat (go_big_quiet_step (first | (go_at_call 10; with_reducible exact HCL.out _)))
        refine wpQuiet_nil ?_
        intro W2 hw2
        obtain ⟨⟨W2, HS2, -⟩, rfl⟩ := hw2
        have HL9 : Hid (Ls w w3.heap.size w5.heap.size ta tb tc (.slice ra a0n rc) (.slice ta0 a0n tc0) W2) := HS2
        clear HS2 HL8 HCL hne p0 p1 HSY
        have c0 := HL9.out.t0
        have c1 := HL9.out.t1
        have c2 := HL9.out.t2
        rcases hv with ⟨rfl, rfl, rfl, rfl, rfl⟩ | ⟨hz, rfl, rfl, rfl, rfl⟩
        · go_wp2_with fail
          go_ret
          exact ⟨rfl, HL9.out.below⟩
        · have hz1 : ((z : Int) == 0) = false := by simp; omega
          have hkz : (k : Int) + (z : Int) ≤ 2000 := by omega
          go_wp2_with fail
          go_ret
          exact ⟨rfl, HL9.out.below⟩
    · have hmx : max (pp : Int) 0 = (pp : Int) := by omega
      have hpp : (0 : Int) ≤ (pp : Int) := by omega
      simp only [errOf, badOf, Option.getD_some]
      go_wp2_with fail
      refine (equal_true w7 _ _ ts HT7.out HU7.out).mono ?_
      rintro _ w8 ⟨rfl, hb⟩
      have HL8 : Hid (Ls w w3.heap.size w5.heap.size ta tb tc (.slice ra a0n rc) (.slice ta0 a0n tc0) w8) := HL7.out.next hb
      have HR8 : Hid (Rw w8 (.slice ra a0n rc) a0n (RR a0n a0O a0X)) := HR7.out.below hb (Nat.le_refl _)
      have c0 := HL8.out.t0
      have c1 := HL8.out.t1
      have c2 := HL8.out.t2
      clear hb HT7 HU7 HL7 HR7
      rcases HSY.out with ⟨hf, rfl, rfl, rfl, rfl, rfl⟩ | ⟨k, rfl, hk, rfl, hv⟩
      · by_cases hf0 : a2 < 0
        · go_wp2_with fail
          go_ret
          exact ⟨rfl, HL8.out.below⟩
        · have hf1 : (a1.size : Int) < a2 := hf.resolve_left hf0
          go_wp2_with fail
          go_ret
          exact ⟨rfl, HL8.out.below⟩
      · have hk0 : ¬ (k : Int) < 0 := by omega
        have hk1 : ¬ (a1.size : Int) < (k : Int) := by omega
        have hk2 : (0 : Int) ≤ (k : Int) := by omega
        have hk3 : (k : Int) ≤ (a1.size : Int) := by omega
        have hle2 := lng_le (RR a0n a0O a0X) a0T (a1.data.toList.drop k)
        rw [List.length_drop, data_size] at hle2
        have HCL : Hid (∀ q : Kp (fun W => Ls w w3.heap.size w5.heap.size ta tb tc (.slice ra a0n rc) (.slice ta0 a0n tc0) W ∧ Below w8.heap.size w8 W), Calls Try.prog 10 #[.agg #[.slice ra a0n rc, .slice ta0 a0n tc0], .string (a1.extract k a1.size)] q.W fun e w'' => e = .returned (.tuple #[.int .i64 (lng (RR a0n a0O a0X) a0T (a1.data.toList.drop k)).1, .int .i64 ((lng (RR a0n a0O a0X) a0T (a1.data.toList.drop k)).2 : Int)]) ∧ ∃ q2 : Kp (fun W => Ls w w3.heap.size w5.heap.size ta tb tc (.slice ra a0n rc) (.slice ta0 a0n tc0) W ∧ Below w8.heap.size w8 W), w'' = q2.W) := fun q => by
          have := refLong_any (.slice ra a0n rc) (.slice ta0 a0n tc0) a0n (RR a0n a0O a0X) a0T (a1.extract k a1.size) q.W (HR8.out.below q.h.2 (Nat.le_refl _)) (HT0.out.below q.h.1.below (Nat.le_refl _)) hn0 HROW.out (by simp; omega)
          rw [tail_list] at this
          exact Kp.calls q (fun _ _ h hb => ⟨h.1.next hb, h.2.trans (hb.mono h.2.size)⟩) this
        obtain ⟨zr, HZ⟩ : ∃ z, Hid (lng (RR a0n a0O a0X) a0T (a1.data.toList.drop k) = z) := ⟨_, (rfl : lng _ _ _ = lng _ _ _)⟩
        rw [HZ.out] at hv HCL hle2
        obtain ⟨r, z⟩ := zr
        simp only at hv HCL hle2
        have p0 : ∀ q : Kp (fun W => Ls w w3.heap.size w5.heap.size ta tb tc (.slice ra a0n rc) (.slice ta0 a0n tc0) W ∧ Below w8.heap.size w8 W), q.W.cell? ⟨w5.heap.size, 0, none⟩ = some (.slice ra a0n rc) := fun q => q.h.1.d0
        have p1 : ∀ q : Kp (fun W => Ls w w3.heap.size w5.heap.size ta tb tc (.slice ra a0n rc) (.slice ta0 a0n tc0) W ∧ Below w8.heap.size w8 W), q.W.cell? ⟨w5.heap.size, 1, none⟩ = some (.slice ta0 a0n tc0) := fun q => q.h.1.d1
        have hne : Nonempty (Kp (fun W => Ls w w3.heap.size w5.heap.size ta tb tc (.slice ra a0n rc) (.slice ta0 a0n tc0) W ∧ Below w8.heap.size w8 W)) := ⟨⟨_, HL8.out, Below.refl _ _⟩⟩
        clear c0 c1 c2
        go_wp2_with fail
        refine wp_region_kept (S := fun W => Ls w w3.heap.size w5.heap.size ta tb tc (.slice ra a0n rc) (.slice ta0 a0n tc0) W ∧ Below w8.heap.size w8 W) mixed (by kernel_rfl) ⟨HL8.out.next (Below.refl _ _).drew, (Below.refl _ _).drew⟩ ?_
        repeat (go_big_quiet_step (first | (go_at_call 10; with_reducible exact HCL.out _)))
        refine wpQuiet_nil ?_
        intro W2 hw2
        obtain ⟨⟨W2, HS2, -⟩, rfl⟩ := hw2
        have HL9 : Hid (Ls w w3.heap.size w5.heap.size ta tb tc (.slice ra a0n rc) (.slice ta0 a0n tc0) W2) := HS2
        clear HS2 HL8 HCL hne p0 p1 HSY
        have c0 := HL9.out.t0
        have c1 := HL9.out.t1
        have c2 := HL9.out.t2
        rcases hv with ⟨rfl, rfl, rfl, rfl, rfl⟩ | ⟨hz, rfl, rfl, rfl, rfl⟩
        · go_wp2_with fail
          go_ret
          exact ⟨rfl, HL9.out.below⟩
        · have hz1 : ((z : Int) == 0) = false := by simp; omega
          have hkz : (k : Int) + (z : Int) ≤ 2000 := by omega
          go_wp2_with fail
          go_ret
          exact ⟨rfl, HL9.out.below⟩
  · have hcx : c = cs ∧ ¬ c = 0 ∨ c = 0 ∧ 2000 < a1.size ∧ cs = 2 := by
      have h := HCS.out
      unfold chkS at h
      rw [HC.out] at h
      by_cases e : c = 0
      · right
        refine ⟨e, ?_⟩
        rw [if_pos e] at h
        by_cases g : 2000 < a1.size
        · rw [if_pos g] at h; exact ⟨g, h.symm⟩
        · rw [if_neg g] at h; exact absurd h.symm h0
      · left; rw [if_neg e] at h; exact ⟨h, e⟩
    have HLX : Hid (∀ W, Px w w.heap.size a0O a0p a0t a0n a0m a0L a0X a0T l W → Calls Try.prog 5 #[.agg l.toArray, .string a1] W fun e w' => e = .returned (.tuple #[.slice none 0 0, .int .i64 0, .int .i64 cs]) ∧ Below W.heap.size W w') := fun W h => by have := lex_bad a0O a0p a0t a0n a0m a0L a0X a0T a1 W w0o h.next h.tags hs1 (by rw [HCS.out]; exact h0); rwa [HLL.out, HCS.out] at this
    have HON : Hid (∀ W, Px w w.heap.size a0O a0p a0t a0n a0m a0L a0X a0T l W → Calls Try.prog 6 #[.agg l.toArray, .string a1, .int .i64 a2] W fun e w' => e = .returned (.tuple #[.agg #[.int .i64 0, .int .i64 0, .int .i64 0], .bool false, .int .i64 cs]) ∧ Below W.heap.size W w') := fun W h => by have := one_bad a0O a0p a0t a0n a0m a0L a0X a0T a1 a2 W w0o h.next h.tags hs1 (by rw [HCS.out]; exact h0); rwa [HLL.out, HCS.out] at this
    have hcc : (cs == cs) = true := by simp
    have hc0 : (cs == 0) = false := by simp [h0]
    rcases hcx with ⟨rfl, hn⟩ | ⟨rfl, hg, rfl⟩
    · clear w0s w0o w0u HLL h0
      go_enter Try.func3, Try.ntmps3
      go_wp2_with (refine wpList_load_mid rfl 26 _ rfl w.heap.size 0 rfl l _ (HAL.out _ H0.out) Try.underlying26 rfl HS.out ?_)
      refine (HRI.out _ H0.out).mono ?_
      rintro _ w1 ⟨rfl, hb⟩
      have H1 : Hid (Px w w.heap.size a0O a0p a0t a0n a0m a0L a0X a0T l w1) := H0.out.step hb
      clear hb H0 HRI
      go_wp2_with (refine wpList_load_mid rfl 26 _ rfl w.heap.size 0 rfl l _ (HAL.out _ H1.out) Try.underlying26 rfl HS.out ?_)
      refine (HLX.out _ H1.out).mono ?_
      rintro _ w2 ⟨rfl, hb⟩
      have H2 : Hid (Px w w.heap.size a0O a0p a0t a0n a0m a0L a0X a0T l w2) := H1.out.step hb
      clear hb H1 HLX
      go_wp2_with (refine wpList_load_mid rfl 26 _ rfl w.heap.size 0 rfl l _ (HAL.out _ H2.out) Try.underlying26 rfl HS.out ?_)
      refine (HON.out _ H2.out).mono ?_
      rintro _ w3 ⟨rfl, hb⟩
      have B3 : Below w.heap.size w w3 := (H2.out.step hb).below
      clear hb H2 HON
      have B4 : Below w.heap.size w (w3.alloc (Obj.cells #[Value.int .i64 0, Value.int .i64 0, Value.int .i64 0] 33)) := B3.alloc B3.size _
      go_wp2_with fail
      go_ret
      exact ⟨rfl, B4⟩
    · have hg' : (2000 : Int) < (a1.size : Int) := by omega
      clear w0s w0o w0u HLL h0 hcc hc0
      go_enter Try.func3, Try.ntmps3
      go_wp2_with (refine wpList_load_mid rfl 26 _ rfl w.heap.size 0 rfl l _ (HAL.out _ H0.out) Try.underlying26 rfl HS.out ?_)
      refine (HRI.out _ H0.out).mono ?_
      rintro _ w1 ⟨rfl, hb⟩
      have H1 : Hid (Px w w.heap.size a0O a0p a0t a0n a0m a0L a0X a0T l w1) := H0.out.step hb
      clear hb H0 HRI
      go_wp2_with (refine wpList_load_mid rfl 26 _ rfl w.heap.size 0 rfl l _ (HAL.out _ H1.out) Try.underlying26 rfl HS.out ?_)
      refine (HLX.out _ H1.out).mono ?_
      rintro _ w2 ⟨rfl, hb⟩
      have H2 : Hid (Px w w.heap.size a0O a0p a0t a0n a0m a0L a0X a0T l w2) := H1.out.step hb
      clear hb H1 HLX
      go_wp2_with (refine wpList_load_mid rfl 26 _ rfl w.heap.size 0 rfl l _ (HAL.out _ H2.out) Try.underlying26 rfl HS.out ?_)
      refine (HON.out _ H2.out).mono ?_
      rintro _ w3 ⟨rfl, hb⟩
      have B3 : Below w.heap.size w w3 := (H2.out.step hb).below
      clear hb H2 HON
      have B4 : Below w.heap.size w (w3.alloc (Obj.cells #[Value.int .i64 0, Value.int .i64 0, Value.int .i64 0] 33)) := B3.alloc B3.size _
      go_wp2_with fail
      go_ret
      exact ⟨rfl, B4⟩

/-! ### What the walk gives, for every argument -/
set_option maxRecDepth 100000 in
theorem contract (H : Type) (enc : TypeId × Value → H) (W : World) (base : Nat) (args : Array Value) (ds gs : List (DataW H)) (before : List MemPlace)
    (hval : ∀ (j : Nat) t v, Try.f3.params[j]? = some t → args[j]? = some v → Value.okWide Try.prog W .any base t v)
    (hW : DataW.Whole enc Try.prog Try.f3.params.toList Rows.lexerSaysSpec.vars false W args.toList ds gs before) (hsz : (DataW.weightsEach Try.prog (Try.f3.params.toList ++ Rows.lexerSaysSpec.plain.varTypes Try.prog) (ds ++ gs)).all (· ≤ reachBytes) = true) :
    Calls Try.prog 3 args W fun e W' => ∃ v, e = .returned v ∧ Rows.lexerSaysSpec.post enc Try.prog Try.f3 false true false false W args v W' := by
  have hW' := hW
  obtain ⟨p, q, hA0, hV, rfl, hfz, hnd⟩ := hW
  have hA : DataW.TrodAll enc Try.prog W 0 (fun _ => true) true Try.f3.params.toList args.toList ds p := hA0
  rw [Try.params3] at hA hval hsz
  obtain ⟨v0, vs0, d0, ds0, p0, q0, hargs, rfl, rfl, h0, r0⟩ := trodAll_cons hA
  obtain ⟨v1, vs1, d1, ds1, p1, q1, rfl, rfl, rfl, h1, r1⟩ := trodAll_cons r0
  obtain ⟨v2, vs2, d2, ds2, p2, q2, rfl, rfl, rfl, h2, r2⟩ := trodAll_cons r1
  obtain ⟨rfl, rfl, rfl⟩ := trodAll_nil r2
  obtain rfl : args = #[v0, v1, v2] := by cases args; simp_all
  obtain ⟨rfl, rfl⟩ := trodVars_none hV
  have k0 := h0
  have lt0 : ∀ x ∈ p0, x.block < W.heap.size := by obtain ⟨m, hm⟩ := k0; exact DataW.trod_lt m _ _ _ hm
  obtain ⟨a0O, a0p, a0t, a0n, a0m, a0L, a0X, a0T, rfl, w0o, w0s, w0u⟩ := open_packed (hval 0 26 v0 rfl rfl) h0
  obtain ⟨a1, rfl, rfl, rfl, w1⟩ := open_string Try.underlying9 (hval 1 9 v1 rfl rfl) h1
  obtain ⟨a2, rfl, rfl, rfl, w2⟩ := open_int Try.underlying3 (hval 2 3 v2 rfl rfl) h2
  have r1z : a1.size ≤ 140737488351232 := by have := sized_string hsz (j := 1) (t := 9) rfl rfl; simpa [reachBytes] using this
  clear hA0
  refine (walk a0O a0p a0t a0n a0m a0L a0X a0T a1 a2 W w0o w0s w0u r1z w2).mono fun e W' ⟨he, bel⟩ => ?_
  subst he
  exact ⟨_, rfl, _, _, _, [], _, [], hW', trodAll_mk1 (shut_bool Try.underlying4 _), (trodAll_cons_mk (Below.trod laidOut (by kernel_rfl) (of_decide_eq_true (by kernel_rfl)) k0 bel lt0) (trodAll_cons_mk (shut_string Try.underlying9 w1) (trodAll_cons_mk (shut_int Try.underlying3 w2) trodAll_mk0))), rfl, bel.frame _, fun h => by cases h⟩

/-! ### The row's step -/
set_option maxRecDepth 100000 in
theorem lifted (os : Os) (started : os.Started) (H : Type) (enc : TypeId × Value → H) :
    ReturnsInHanded {} Try.checked os 3 .any (Rows.lexerSaysSpec.pre6 enc Try.prog Try.f3 Rows.lexerSaysRow.domain false) (Rows.lexerSaysSpec.post enc Try.prog Try.f3 false true false false) := by
  refine returnsInHanded_of_change_sized (C := Try.checked) own started (by kernel_rfl) Try.func3
    (ChangeSpec.witness6 (enc := enc) (C := Try.checked) false ⟨#[], #[.agg (Array.replicate 256 (.int .u8 0) ++ #[.slice none 0 0, .slice none 0 0]), .string .empty, .int .i64 0], []⟩ 8 (by kernel_rfl) (by kernel_rfl) (by kernel_rfl) (by kernel_rfl)) ?_
  intro W base args ds gs before hval hW hcnd hsz _
  exact contract H enc W base args ds gs before hval hW hsz

theorem over : Rows.lexerSaysRow.holds Try.pinned (OpenSpec.ofChange Rows.lexerSaysSpec) :=
  OpenClaim.holds_of_wide 3 Try.f3 rfl rfl rfl rfl rfl rfl rfl ⟨rfl, rfl, rfl, rfl, rfl⟩ rfl rfl rfl rfl rfl (by kernel_rfl) Try.func3 (by kernel_rfl)
    (of_decide_eq_true (by kernel_rfl)) (by unfold Func.isWrapper; first | (rw [if_pos (by decide +kernel)]; kernel_rfl) | (rw [if_neg (by decide +kernel)]; exact ⟨rfl, rfl⟩))
    (fun os started H enc _ => lifted os started H enc)

end Go.Proofs.Ytichmhlnjjejmaa.lexerSays
namespace Go.Proofs.Ytichmhlnjjejmaa
/-- The given statement. -/
theorem lexerSays_holds : Rows.LexerSaysSaid := lexerSays.over
#print axioms lexerSays_holds
end Go.Proofs.Ytichmhlnjjejmaa
