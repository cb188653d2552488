/-
  FeedSays returns true whatever packed automaton, held text and text are handed in, and changes nothing that it was handed; no condition.
-/
import Derived.Test.YtcdnbkfjiigdmaaRows
import Derived.WalkKit
import Derived.ProofKit
import Derived.OpenShut
import Derived.ShutString
import Derived.SizedLaws
import Derived.ChangeOld
import Derived.Below
import Derived.Carry
import Derived.WalkLawsBesides
import Derived.WalkSpells
import Derived.Test.YtcdnbkfjiigdmaaOpens
import Derived.Deep.Cut
import Derived.BigQuiet
import Derived.Test.YtcdnbkfjiigdmaaFdRefText
import Derived.Test.YtcdnbkfjiigdmaaLxEq
namespace Go.Proofs.Ytcdnbkfjiigdmaa.feedSays
open Go.ChangeShapes Go.WideShapes Go.ChangeAt Go.RowKit
open Go.ChangeMaps (open_string shut_string)
open Dfa
set_option linter.unusedVariables false

theorem own : ownKnob Try.prog.godebug = none := by kernel_rfl
theorem laidOut : laidOutB Try.prog = true := by kernel_rfl
theorem cells29 : Try.prog.cellsOf 29 = 3 := by kernel_rfl
section
variable {H : Type} {enc : TypeId × Value → H}
theorem open_held {W : World} {r : Reach} {b0 : Nat} {v : Value} {d : DataW H} {p : List MemPlace} (hv : Value.okWide Try.prog W r b0 29 v) (h : DataW.Trod enc Try.prog W 0 (fun _ => true) true 29 v d p) :
    ∃ a b o, v = .agg #[.int .i64 a, .string b, .int .i64 o] ∧ b.size ∈ d.weights Try.prog 29 := by
  obtain ⟨c0, c1, c2, y0, y1, y2, m, rfl, rfl, rfl, h0, h1, h2⟩ := Go.Joins.open_agg3 Try.underlying29 (by kernel_rfl) cells29 hv h
  obtain ⟨k, e0, _, _⟩ := DataW.trod_int Try.underlying3 h0
  obtain ⟨b, e1, x1, _⟩ := DataW.trod_string Try.underlying9 h1
  obtain ⟨o, e2, _, _⟩ := DataW.trod_int Try.underlying27 h2
  simp at e0 e1 e2
  subst e0 e1 e2
  refine ⟨k, b, o, rfl, ?_⟩
  rw [x1, DataW.weights, Try.underlying29]
  simp only [List.map_cons, List.map_nil, DataW.weightsEach, List.append_nil, List.mem_append]
  refine Or.inr (Or.inl ?_)
  rw [DataW.weights]
  simp
theorem sized_each {P : Program} {ts : List TypeId} {ds : List (DataW H)} (h : (DataW.weightsEach P ts ds).all (· ≤ reachBytes) = true) {j : Nat} {t : TypeId} {d : DataW H} (ht : ts[j]? = some t) (hd : ds[j]? = some d) {n : Nat} (hn : n ∈ d.weights P t) : n ≤ reachBytes := by
  have := List.all_eq_true.1 h _ (DataW.weights_mem_each ht hd n hn)
  simpa using this
end
theorem chkH_zero {c ia : Int} {k : Nat} {o : Int} (h : chkH c ia k o = 0) : c = 0 ∧ (0 ≤ ia ∧ ia ≤ 1099511627776) ∧ o = 0 ∧ k ≤ 64 := by
  unfold chkH at h
  by_cases h1 : c = 0
  · rw [if_neg (by omega)] at h
    by_cases h2 : ia < 0 ∨ 1099511627776 < ia ∨ 64 < k
    · rw [if_pos h2] at h; omega
    · rw [if_neg h2] at h
      by_cases h3 : o = 0
      · exact ⟨h1, by omega, h3, by omega⟩
      · rw [if_pos h3] at h; omega
  · rw [if_pos h1] at h; exact absurd h h1
theorem end_few (a k : Nat) (al : List (Int × Nat × Nat) × Option Nat) : (endAns a k al).2.2.1.length = al.1.length := by
  unfold endAns
  split <;> simp
theorem fd_few (R : Nat → Nat → Int) (T : Nat → Int) (L : Nat → Nat) (X : Nat → Nat → Int) : ∀ (s : List UInt8) (a : Nat) (b : List UInt8) (ts : List (Int × Nat × Nat)), (fd R T L X s a b ts).2.2.1.length ≤ ts.length + b.length + s.length
  | [], a, b, ts => by simp [fd]
  | x :: s, a, b, ts => by
    have h1 := st1_bound (R := R) (T := T) (L := L) (X := X) a (b ++ [x]) ts
    rw [fd]
    simp only [List.length_append, List.length_cons, List.length_nil] at h1 ⊢
    split
    · have := fd_few R T L X s (st1 R T L X a (b ++ [x]) ts).1 (st1 R T L X a (b ++ [x]) ts).2.1 (st1 R T L X a (b ++ [x]) ts).2.2.1
      omega
    · omega
/-- The boxes of what was handed in. -/
structure Fb (w : World) (l : List Value) (ia : Int) (bf : ByteArray) (o : Int) (W : World) : Prop where
  rng : W.rangeAt w.heap.size 0 l
  hb : W.heap[w.heap.size + 1]? = some (.cells #[.int .i64 ia, .string bf, .int .i64 o] 29 (0, 0))
  lt : w.heap.size + 1 < W.heap.size
  below : Below w.heap.size w W
theorem Fb.next {w : World} {l : List Value} {ia : Int} {bf : ByteArray} {o : Int} {W W' : World} (h : Fb w l ia bf o W) (hb : Below W.heap.size W W') : Fb w l ia bf o W' :=
  ⟨fun j v hv => (hb.cell (p := ⟨w.heap.size, 0 + j, none⟩) (Nat.lt_of_succ_lt h.lt)).trans (h.rng j v hv), (hb.block _ h.lt).trans h.hb, Nat.lt_of_lt_of_le h.lt hb.size, h.below.trans (hb.mono h.below.size)⟩
/-- A box of three cells. -/
structure Ab (g : Nat) (cs : Array Value) (W : World) : Prop where
  hb : W.heap[g]? = some (.cells cs 29 (0, 0))
  lt : g < W.heap.size
theorem Ab.next {g : Nat} {cs : Array Value} {W W' : World} (h : Ab g cs W) (hb : Below W.heap.size W W') : Ab g cs W' := ⟨(hb.block _ h.lt).trans h.hb, Nat.lt_of_lt_of_le h.lt hb.size⟩

/-! ### The walk: the Go text returns true. -/
set_option maxHeartbeats 16000000 in
set_option maxRecDepth 20000 in
theorem walk (a0O : Nat → Nat) (a0p : Value) (a0t : Value) (a0n : Nat) (a0m : Nat) (a0L : Nat → Nat) (a0X : Nat → Nat → Int) (a0T : Nat → Int) (a1a : Int) (a1b : ByteArray) (a1o : Int) (a2 : ByteArray) (w : World) (w0o : ∀ j, a0O j < 256) (w0s : Nx w a0p a0n a0L a0X) (w0u : Ts w a0t a0m a0T) (w1z : a1b.size ≤ 140737488351232) (w2 : a2.size ≤ 140737488351232) :
    Calls Try.prog 3 #[.agg (pl a0O a0p a0t).toArray, .agg #[.int .i64 a1a, .string a1b, .int .i64 a1o], .string a2] w fun e w' => e = .returned (.bool true) ∧ Below w.heap.size w w' := by
  obtain ⟨l, HLL⟩ : ∃ l, Hid (pl a0O a0p a0t = l) := ⟨_, (rfl : _ = _)⟩
  have HLN : Hid ((pl a0O a0p a0t).length = 258) := pl_length _ _ _
  rw [HLL.out] at HLN ⊢
  have HSI : Hid ((Try.prog.info? 26).map (·.size) = some l.length) := by show _ = _; rw [HLN.out]; exact size26
  obtain ⟨c, HC⟩ : ∃ q, Hid (chkH (chkP a0n a0m a0O a0L a0X a0T) a1a a1b.size a1o = q) := ⟨_, (rfl : _ = _)⟩
  obtain ⟨w2b, HW2⟩ : ∃ q, Hid ((w.alloc (Obj.cells l.toArray 26)).alloc (Obj.cells #[.int .i64 a1a, .string a1b, .int .i64 a1o] 29) = q) := ⟨_, (rfl : _ = _)⟩
  have HF0 : Hid (Fb w l a1a a1b a1o w2b) := by
    rw [← HW2.out]
    refine ⟨fun j u hu => Go.Lib.cell?_alloc_some _ (range_block w l 26 j u hu), ?_, by simp, ((Below.refl _ _).alloc (Nat.le_refl _) _).alloc (by simp) _⟩
    have := heap_alloc_new (w.alloc (Obj.cells l.toArray 26)) (Obj.cells #[.int .i64 a1a, .string a1b, .int .i64 a1o] 29)
    rwa [World.size_alloc] at this
  have hrh := rightH_any a0O a0p a0t a0n a0m a0L a0X a0T a1a a1b a1o w2b w0o (w0s.below HF0.out.below (Nat.le_refl _)) (w0u.below HF0.out.below (Nat.le_refl _))
  rw [HLL.out, HC.out] at hrh
  by_cases h0 : c = 0
  · have hz := HC.out
    rw [h0] at hz
    obtain ⟨hz1, hz2, hz3⟩ := chkH_zero hz
    have hmn : a0n = a0m := by obtain ⟨_, _, e, _⟩ := chkP_zero hz1; exact e.symm
    subst hmn
    obtain ⟨at0, hat0⟩ : ∃ q : Nat, a1a = (q : Int) := ⟨a1a.toNat, by omega⟩
    subst hat0
    obtain ⟨rfl, hbl⟩ := hz3
    have hat : at0 ≤ 1099511627776 := by omega
    have HCP : Hid (chkP a0n a0n a0O a0L a0X a0T = 0) := hz1
    subst h0
    clear hz hz1 hz2
    obtain ⟨R, HR⟩ : ∃ q, Hid (RR a0n a0O a0X = q) := ⟨_, (rfl : _ = _)⟩
    obtain ⟨al, HAL⟩ : ∃ q, Hid (Dfa.all R a0T a1b.data.toList = q) := ⟨_, (rfl : _ = _)⟩
    have HAF : Hid (al.1.length ≤ 64) := by show _ ≤ _; rw [← HAL.out]; have := all_few R a0T a1b.data.toList; rw [data_size] at this; omega
    obtain ⟨an2, HAN2F⟩ : ∃ q, Hid (endAns at0 a1b.size (Dfa.all R a0T a1b.data.toList) = q) := ⟨_, (rfl : _ = _)⟩
    have HAN2E := HAN2F
    obtain ⟨er2, HER2⟩ : ∃ q, Hid (errOf (Dfa.all R a0T a1b.data.toList).2 = q) := ⟨_, (rfl : _ = _)⟩
    have HTL2 : Hid (∀ {ia : Nat} {b : List UInt8} {ts : List (Int × Nat × Nat)} {o : Int}, an2 = (ia, b, ts, o) → ts.length ≤ 9223372036854775807) := fun {ia b ts o} h => by
      have h2 := end_few at0 a1b.size (Dfa.all R a0T a1b.data.toList)
      rw [HAN2E.out, h] at h2
      have := HAF.out
      rw [HAL.out] at h2
      simp only at h2
      omega
    by_cases hs2 : 2000 < a2.size
    · go_enter Try.func3, Try.ntmps3
      go_upto_region 1 with fail
      rw [HW2.out]
      clear HW2
      have x0 := block_cell HF0.out.hb 0
      have x1 := block_cell HF0.out.hb 1
      have x2 := block_cell HF0.out.hb 2
      simp only [List.getElem?_toArray, List.getElem?_cons_zero, List.getElem?_cons_succ] at x0 x1 x2
      go_wp2_with (refine wpList_load_mid rfl 26 _ rfl w.heap.size 0 rfl l _ HF0.out.rng Try.underlying26 rfl HSI.out ?_)
      refine hrh.mono ?_
      rintro _ w1 ⟨rfl, hb⟩
      have HF1 : Hid (Fb w l (at0 : Int) a1b 0 w1) := HF0.out.next hb
      clear hb hrh HF0 x0 x1 x2
      have x0 := block_cell HF1.out.hb 0
      have x1 := block_cell HF1.out.hb 1
      have x2 := block_cell HF1.out.hb 2
      simp only [List.getElem?_toArray, List.getElem?_cons_zero, List.getElem?_cons_succ] at x0 x1 x2
      have hfd := feed_bad a0O a0p a0t a0n a0n a0L a0X a0T (at0 : Int) a1b a2 0 2 w1 w0o (w0s.below HF1.out.below (Nat.le_refl _)) (w0u.below HF1.out.below (Nat.le_refl _)) (by omega) (Or.inr ⟨HC.out, hs2, rfl⟩)
      rw [HLL.out] at hfd
      go_wp2_with (refine wpList_load_mid rfl 26 _ rfl w.heap.size 0 rfl l _ HF1.out.rng Try.underlying26 rfl HSI.out ?_)
      refine hfd.mono ?_
      rintro _ w2 ⟨rfl, hb⟩
      have HF2 : Hid (Fb w l (at0 : Int) a1b 0 w2) := HF1.out.next hb
      clear hb hfd HF1 x0 x1 x2
      have hbx := (Below.refl w2.heap.size w2).alloc (Nat.le_refl _) (Obj.cells #[.int .i64 (at0 : Int), .string a1b, .int .i64 0] 29)
      have hnb := heap_alloc_new w2 (Obj.cells #[.int .i64 (at0 : Int), .string a1b, .int .i64 0] 29)
      have hlt9 : w2.heap.size < (w2.alloc (Obj.cells #[.int .i64 (at0 : Int), .string a1b, .int .i64 0] 29)).heap.size := by simp
      obtain ⟨ga, HGga⟩ : ∃ q, Hid (w2.heap.size = q) := ⟨_, (rfl : _ = _)⟩
      obtain ⟨x2, HXx2⟩ : ∃ q, Hid (w2.alloc (Obj.cells #[.int .i64 (at0 : Int), .string a1b, .int .i64 0] 29) = q) := ⟨_, (rfl : _ = _)⟩
      rw [HXx2.out] at hbx hnb hlt9
      rw [HGga.out] at hnb hlt9
      have HAga : Hid (Ab ga #[.int .i64 (at0 : Int), .string a1b, .int .i64 0] x2) := ⟨hnb, hlt9⟩
      have HF3 : Hid (Fb w l (at0 : Int) a1b 0 x2) := HF2.out.next hbx
      clear hbx hnb hlt9 HF2
      have hed := end_ok a0O a0p a0t a0n a0L a0X a0T at0 a1b x2 w0o (w0s.below HF3.out.below (Nat.le_refl _)) (w0u.below HF3.out.below (Nat.le_refl _)) HCP.out hat hbl
      rw [HLL.out, HR.out, HAN2E.out, HER2.out] at hed
      go_upto_region 3 with fail
      rw [HXx2.out, HGga.out]
      clear HXx2 HGga
      have x0 := block_cell HF3.out.hb 0
      have x1 := block_cell HF3.out.hb 1
      have x2 := block_cell HF3.out.hb 2
      simp only [List.getElem?_toArray, List.getElem?_cons_zero, List.getElem?_cons_succ] at x0 x1 x2
      go_wp2_with (refine wpList_load_mid rfl 26 _ rfl w.heap.size 0 rfl l _ HF3.out.rng Try.underlying26 rfl HSI.out ?_)
      refine hed.mono ?_
      rintro _ w4 ⟨ia2, bf2, v2, ts2, o2, rfl, han2, hown2, hb⟩
      obtain ⟨va2, vc2, rfl⟩ := own_form hown2
      have HAN2 : Hid (an2 = (ia2, bf2.data.toList, ts2, o2)) := han2
      have HP4 : Hid ((w4).ownsRow w.heap.size 37 3 (.slice va2 ts2.length vc2) ts2.length (tcs ts2)) := own_less hown2 HF3.out.below.size
      have HF4 : Hid (Fb w l (at0 : Int) a1b 0 w4) := HF3.out.next hb
      have HA4 : Hid (Ab ga #[.int .i64 (at0 : Int), .string a1b, .int .i64 0] w4) := HAga.out.next hb
      clear hb hed HF3 HAga x0 x1 x2 han2 hown2
      have hbx := (Below.refl w4.heap.size w4).alloc (Nat.le_refl _) (Obj.cells #[.int .i64 (ia2 : Int), .string bf2, .int .i64 o2] 29)
      have hnb := heap_alloc_new w4 (Obj.cells #[.int .i64 (ia2 : Int), .string bf2, .int .i64 o2] 29)
      have hlt9 : w4.heap.size < (w4.alloc (Obj.cells #[.int .i64 (ia2 : Int), .string bf2, .int .i64 o2] 29)).heap.size := by simp
      obtain ⟨gb, HGgb⟩ : ∃ q, Hid (w4.heap.size = q) := ⟨_, (rfl : _ = _)⟩
      obtain ⟨x4, HXx4⟩ : ∃ q, Hid (w4.alloc (Obj.cells #[.int .i64 (ia2 : Int), .string bf2, .int .i64 o2] 29) = q) := ⟨_, (rfl : _ = _)⟩
      rw [HXx4.out] at hbx hnb hlt9
      rw [HGgb.out] at hnb hlt9
      have HAgb : Hid (Ab gb #[.int .i64 (ia2 : Int), .string bf2, .int .i64 o2] x4) := ⟨hnb, hlt9⟩
      have HF5 : Hid (Fb w l (at0 : Int) a1b 0 x4) := HF4.out.next hbx
      have HA5 : Hid (Ab ga #[.int .i64 (at0 : Int), .string a1b, .int .i64 0] x4) := HA4.out.next hbx
      have HP5 : Hid ((x4).ownsRow w.heap.size 37 3 (.slice va2 ts2.length vc2) ts2.length (tcs ts2)) := own_below HP4.out hbx (Nat.le_refl _)
      clear HP4
      clear hbx hnb hlt9 HF4 HA4
      go_upto_region 4 with fail
      rw [HXx4.out, HGgb.out]
      clear HXx4 HGgb
      have hre := refEnd_ok a0O a0p a0t a0n a0L a0X a0T at0 a1b x4 (w0s.below HF5.out.below (Nat.le_refl _)) (w0u.below HF5.out.below (Nat.le_refl _)) HCP.out hat hbl
      rw [HLL.out, HR.out, HAN2E.out, HER2.out] at hre
      have x0 := block_cell HF5.out.hb 0
      have x1 := block_cell HF5.out.hb 1
      have x2 := block_cell HF5.out.hb 2
      simp only [List.getElem?_toArray, List.getElem?_cons_zero, List.getElem?_cons_succ] at x0 x1 x2
      go_wp2_with (refine wpList_load_mid rfl 26 _ rfl w.heap.size 0 rfl l _ HF5.out.rng Try.underlying26 rfl HSI.out ?_)
      refine hre.mono ?_
      rintro _ w6 ⟨ia3, bf3, v3, ts3, o3, rfl, han3, hown3, hb⟩
      have hsame := HAN2.out.symm.trans han3
      simp only [Prod.mk.injEq] at hsame
      obtain ⟨h31, h32, h33, h34⟩ := hsame
      have h35 : bf2 = bf3 := ByteArray.ext (Array.toList_inj.1 h32)
      subst h31 h33 h34 h35
      obtain ⟨va3, vc3, rfl⟩ := own_form hown3
      have HQ6 : Hid ((w6).ownsRow w.heap.size 37 3 (.slice va3 ts2.length vc3) ts2.length (tcs ts2)) := own_less hown3 HF5.out.below.size
      have HF6 : Hid (Fb w l (at0 : Int) a1b 0 w6) := HF5.out.next hb
      have HA6 : Hid (Ab ga #[.int .i64 (at0 : Int), .string a1b, .int .i64 0] w6) := HA5.out.next hb
      have HB6 : Hid (Ab gb #[.int .i64 (ia2 : Int), .string bf2, .int .i64 o2] w6) := HAgb.out.next hb
      have HP6 : Hid ((w6).ownsRow w.heap.size 37 3 (.slice va2 ts2.length vc2) ts2.length (tcs ts2)) := own_below HP5.out hb (Nat.le_refl _)
      clear hb hre HF5 HA5 HAgb HP5 x0 x1 x2 han3 hown3 h32
      have hbx := (Below.refl w6.heap.size w6).alloc (Nat.le_refl _) (Obj.cells #[.int .i64 (ia2 : Int), .string bf2, .int .i64 o2] 29)
      have hnb := heap_alloc_new w6 (Obj.cells #[.int .i64 (ia2 : Int), .string bf2, .int .i64 o2] 29)
      have hlt9 : w6.heap.size < (w6.alloc (Obj.cells #[.int .i64 (ia2 : Int), .string bf2, .int .i64 o2] 29)).heap.size := by simp
      obtain ⟨gc, HGgc⟩ : ∃ q, Hid (w6.heap.size = q) := ⟨_, (rfl : _ = _)⟩
      obtain ⟨x6, HXx6⟩ : ∃ q, Hid (w6.alloc (Obj.cells #[.int .i64 (ia2 : Int), .string bf2, .int .i64 o2] 29) = q) := ⟨_, (rfl : _ = _)⟩
      rw [HXx6.out] at hbx hnb hlt9
      rw [HGgc.out] at hnb hlt9
      have HAgc : Hid (Ab gc #[.int .i64 (ia2 : Int), .string bf2, .int .i64 o2] x6) := ⟨hnb, hlt9⟩
      have HF7 : Hid (Fb w l (at0 : Int) a1b 0 x6) := HF6.out.next hbx
      have HA7 : Hid (Ab ga #[.int .i64 (at0 : Int), .string a1b, .int .i64 0] x6) := HA6.out.next hbx
      have HB7 : Hid (Ab gb #[.int .i64 (ia2 : Int), .string bf2, .int .i64 o2] x6) := HB6.out.next hbx
      have HP7 : Hid ((x6).ownsRow w.heap.size 37 3 (.slice va2 ts2.length vc2) ts2.length (tcs ts2)) := own_below HP6.out hbx (Nat.le_refl _)
      clear HP6
      have HQ7 : Hid ((x6).ownsRow w.heap.size 37 3 (.slice va3 ts2.length vc3) ts2.length (tcs ts2)) := own_below HQ6.out hbx (Nat.le_refl _)
      clear HQ6
      clear hbx hnb hlt9 HF6 HA6 HB6
      go_upto_region 7 with fail
      rw [HXx6.out, HGgc.out]
      clear HXx6 HGgc
      have hts2 : ts2.length ≤ 9223372036854775807 := HTL2.out HAN2.out
      have heq := equal_true x6 (.slice va2 ts2.length vc2) (.slice va3 ts2.length vc3) ts2 (tks_of_own HP7.out hts2) (tks_of_own HQ7.out hts2)
      have y0 := block_cell HB7.out.hb 0
      have y1 := block_cell HB7.out.hb 1
      have y2 := block_cell HB7.out.hb 2
      have z0 := block_cell HAgc.out.hb 0
      have z1 := block_cell HAgc.out.hb 1
      have z2 := block_cell HAgc.out.hb 2
      simp only [List.getElem?_toArray, List.getElem?_cons_zero, List.getElem?_cons_succ] at y0 y1 y2 z0 z1 z2
      go_wp2_with fail
      refine heq.mono ?_
      rintro _ w8 ⟨rfl, hb⟩
      have HF8 : Hid (Fb w l (at0 : Int) a1b 0 w8) := HF7.out.next hb
      have HA8 : Hid (Ab ga #[.int .i64 (at0 : Int), .string a1b, .int .i64 0] w8) := HA7.out.next hb
      have HC8 : Hid (Ab gc #[.int .i64 (ia2 : Int), .string bf2, .int .i64 o2] w8) := HAgc.out.next hb
      clear hb heq HF7 HA7 HAgc y0 y1 y2 z0 z1 z2 hts2
      have x0 := block_cell HF8.out.hb 0
      have x1 := block_cell HF8.out.hb 1
      have x2 := block_cell HF8.out.hb 2
      simp only [List.getElem?_toArray, List.getElem?_cons_zero, List.getElem?_cons_succ] at x0 x1 x2
      have y0 := block_cell HA8.out.hb 0
      have y1 := block_cell HA8.out.hb 1
      have y2 := block_cell HA8.out.hb 2
      simp only [List.getElem?_toArray, List.getElem?_cons_zero, List.getElem?_cons_succ] at y0 y1 y2
      have hs3 : (2000 : Int) < (a2.size : Int) := by omega
      go_wp2_with fail
      go_ret
      exact ⟨rfl, HF8.out.below⟩
    · obtain ⟨an1, HAN1E⟩ : ∃ q, Hid (fd R a0T a0L a0X a2.data.toList at0 a1b.data.toList [] = q) := ⟨_, (rfl : _ = _)⟩
      obtain ⟨er1, HER1⟩ : ∃ q, Hid (an1.2.2.2 = q) := ⟨_, (rfl : _ = _)⟩
      have HTL1 : Hid (∀ {ia : Nat} {b : List UInt8} {ts : List (Int × Nat × Nat)} {o : Int}, an1 = (ia, b, ts, o) → ts.length ≤ 9223372036854775807) := fun {ia b ts o} h => by
        have h2 := fd_few R a0T a0L a0X a2.data.toList at0 a1b.data.toList []
        rw [HAN1E.out, h, data_size, data_size] at h2
        simp only [List.length_nil] at h2
        omega
      go_enter Try.func3, Try.ntmps3
      go_upto_region 1 with fail
      rw [HW2.out]
      clear HW2
      have x0 := block_cell HF0.out.hb 0
      have x1 := block_cell HF0.out.hb 1
      have x2 := block_cell HF0.out.hb 2
      simp only [List.getElem?_toArray, List.getElem?_cons_zero, List.getElem?_cons_succ] at x0 x1 x2
      go_wp2_with (refine wpList_load_mid rfl 26 _ rfl w.heap.size 0 rfl l _ HF0.out.rng Try.underlying26 rfl HSI.out ?_)
      refine hrh.mono ?_
      rintro _ w1 ⟨rfl, hb⟩
      have HF1 : Hid (Fb w l (at0 : Int) a1b 0 w1) := HF0.out.next hb
      clear hb hrh HF0 x0 x1 x2
      have x0 := block_cell HF1.out.hb 0
      have x1 := block_cell HF1.out.hb 1
      have x2 := block_cell HF1.out.hb 2
      simp only [List.getElem?_toArray, List.getElem?_cons_zero, List.getElem?_cons_succ] at x0 x1 x2
      have hfd := feed_ok a0O a0p a0t a0n a0L a0X a0T at0 a1b a2 w1 w0o (w0s.below HF1.out.below (Nat.le_refl _)) (w0u.below HF1.out.below (Nat.le_refl _)) HCP.out hat hbl (by omega)
      rw [HLL.out, HR.out, HAN1E.out, HER1.out] at hfd
      go_wp2_with (refine wpList_load_mid rfl 26 _ rfl w.heap.size 0 rfl l _ HF1.out.rng Try.underlying26 rfl HSI.out ?_)
      refine hfd.mono ?_
      rintro _ w2 ⟨ia1, bf1, v1, ts1, o1, rfl, han1, hown1, hb⟩
      have HF2 : Hid (Fb w l (at0 : Int) a1b 0 w2) := HF1.out.next hb
      have HAN1 : Hid (an1 = (ia1, bf1.data.toList, ts1, o1)) := han1
      obtain ⟨va1, vc1, rfl⟩ := own_form hown1
      have HO2 : Hid (w2.ownsRow w.heap.size 37 3 (.slice va1 ts1.length vc1) ts1.length (tcs ts1)) := own_less hown1 HF1.out.below.size
      clear han1 hown1
      clear hb hfd HF1 x0 x1 x2
      have hbx := (Below.refl w2.heap.size w2).alloc (Nat.le_refl _) (Obj.cells #[.int .i64 (ia1 : Int), .string bf1, .int .i64 o1] 29)
      have hnb := heap_alloc_new w2 (Obj.cells #[.int .i64 (ia1 : Int), .string bf1, .int .i64 o1] 29)
      have hlt9 : w2.heap.size < (w2.alloc (Obj.cells #[.int .i64 (ia1 : Int), .string bf1, .int .i64 o1] 29)).heap.size := by simp
      obtain ⟨ga, HGga⟩ : ∃ q, Hid (w2.heap.size = q) := ⟨_, (rfl : _ = _)⟩
      obtain ⟨x2, HXx2⟩ : ∃ q, Hid (w2.alloc (Obj.cells #[.int .i64 (ia1 : Int), .string bf1, .int .i64 o1] 29) = q) := ⟨_, (rfl : _ = _)⟩
      rw [HXx2.out] at hbx hnb hlt9
      rw [HGga.out] at hnb hlt9
      have HAga : Hid (Ab ga #[.int .i64 (ia1 : Int), .string bf1, .int .i64 o1] x2) := ⟨hnb, hlt9⟩
      have HF3 : Hid (Fb w l (at0 : Int) a1b 0 x2) := HF2.out.next hbx
      have HO3 : Hid ((x2).ownsRow w.heap.size 37 3 (.slice va1 ts1.length vc1) ts1.length (tcs ts1)) := own_below HO2.out hbx (Nat.le_refl _)
      clear HO2
      clear hbx hnb hlt9 HF2
      have hed := end_ok a0O a0p a0t a0n a0L a0X a0T at0 a1b x2 w0o (w0s.below HF3.out.below (Nat.le_refl _)) (w0u.below HF3.out.below (Nat.le_refl _)) HCP.out hat hbl
      rw [HLL.out, HR.out, HAN2E.out, HER2.out] at hed
      go_upto_region 3 with fail
      rw [HXx2.out, HGga.out]
      clear HXx2 HGga
      have x0 := block_cell HF3.out.hb 0
      have x1 := block_cell HF3.out.hb 1
      have x2 := block_cell HF3.out.hb 2
      simp only [List.getElem?_toArray, List.getElem?_cons_zero, List.getElem?_cons_succ] at x0 x1 x2
      go_wp2_with (refine wpList_load_mid rfl 26 _ rfl w.heap.size 0 rfl l _ HF3.out.rng Try.underlying26 rfl HSI.out ?_)
      refine hed.mono ?_
      rintro _ w4 ⟨ia2, bf2, v2, ts2, o2, rfl, han2, hown2, hb⟩
      obtain ⟨va2, vc2, rfl⟩ := own_form hown2
      have HAN2 : Hid (an2 = (ia2, bf2.data.toList, ts2, o2)) := han2
      have HP4 : Hid ((w4).ownsRow w.heap.size 37 3 (.slice va2 ts2.length vc2) ts2.length (tcs ts2)) := own_less hown2 HF3.out.below.size
      have HF4 : Hid (Fb w l (at0 : Int) a1b 0 w4) := HF3.out.next hb
      have HA4 : Hid (Ab ga #[.int .i64 (ia1 : Int), .string bf1, .int .i64 o1] w4) := HAga.out.next hb
      have HO4 : Hid ((w4).ownsRow w.heap.size 37 3 (.slice va1 ts1.length vc1) ts1.length (tcs ts1)) := own_below HO3.out hb (Nat.le_refl _)
      clear hb hed HF3 HAga x0 x1 x2 han2 hown2
      have hbx := (Below.refl w4.heap.size w4).alloc (Nat.le_refl _) (Obj.cells #[.int .i64 (ia2 : Int), .string bf2, .int .i64 o2] 29)
      have hnb := heap_alloc_new w4 (Obj.cells #[.int .i64 (ia2 : Int), .string bf2, .int .i64 o2] 29)
      have hlt9 : w4.heap.size < (w4.alloc (Obj.cells #[.int .i64 (ia2 : Int), .string bf2, .int .i64 o2] 29)).heap.size := by simp
      obtain ⟨gb, HGgb⟩ : ∃ q, Hid (w4.heap.size = q) := ⟨_, (rfl : _ = _)⟩
      obtain ⟨x4, HXx4⟩ : ∃ q, Hid (w4.alloc (Obj.cells #[.int .i64 (ia2 : Int), .string bf2, .int .i64 o2] 29) = q) := ⟨_, (rfl : _ = _)⟩
      rw [HXx4.out] at hbx hnb hlt9
      rw [HGgb.out] at hnb hlt9
      have HAgb : Hid (Ab gb #[.int .i64 (ia2 : Int), .string bf2, .int .i64 o2] x4) := ⟨hnb, hlt9⟩
      have HF5 : Hid (Fb w l (at0 : Int) a1b 0 x4) := HF4.out.next hbx
      have HA5 : Hid (Ab ga #[.int .i64 (ia1 : Int), .string bf1, .int .i64 o1] x4) := HA4.out.next hbx
      have HP5 : Hid ((x4).ownsRow w.heap.size 37 3 (.slice va2 ts2.length vc2) ts2.length (tcs ts2)) := own_below HP4.out hbx (Nat.le_refl _)
      clear HP4
      have HO5 : Hid ((x4).ownsRow w.heap.size 37 3 (.slice va1 ts1.length vc1) ts1.length (tcs ts1)) := own_below HO4.out hbx (Nat.le_refl _)
      clear HO4
      clear hbx hnb hlt9 HF4 HA4
      go_upto_region 4 with fail
      rw [HXx4.out, HGgb.out]
      clear HXx4 HGgb
      have hre := refEnd_ok a0O a0p a0t a0n a0L a0X a0T at0 a1b x4 (w0s.below HF5.out.below (Nat.le_refl _)) (w0u.below HF5.out.below (Nat.le_refl _)) HCP.out hat hbl
      rw [HLL.out, HR.out, HAN2E.out, HER2.out] at hre
      have x0 := block_cell HF5.out.hb 0
      have x1 := block_cell HF5.out.hb 1
      have x2 := block_cell HF5.out.hb 2
      simp only [List.getElem?_toArray, List.getElem?_cons_zero, List.getElem?_cons_succ] at x0 x1 x2
      go_wp2_with (refine wpList_load_mid rfl 26 _ rfl w.heap.size 0 rfl l _ HF5.out.rng Try.underlying26 rfl HSI.out ?_)
      refine hre.mono ?_
      rintro _ w6 ⟨ia3, bf3, v3, ts3, o3, rfl, han3, hown3, hb⟩
      have hsame := HAN2.out.symm.trans han3
      simp only [Prod.mk.injEq] at hsame
      obtain ⟨h31, h32, h33, h34⟩ := hsame
      have h35 : bf2 = bf3 := ByteArray.ext (Array.toList_inj.1 h32)
      subst h31 h33 h34 h35
      obtain ⟨va3, vc3, rfl⟩ := own_form hown3
      have HQ6 : Hid ((w6).ownsRow w.heap.size 37 3 (.slice va3 ts2.length vc3) ts2.length (tcs ts2)) := own_less hown3 HF5.out.below.size
      have HF6 : Hid (Fb w l (at0 : Int) a1b 0 w6) := HF5.out.next hb
      have HA6 : Hid (Ab ga #[.int .i64 (ia1 : Int), .string bf1, .int .i64 o1] w6) := HA5.out.next hb
      have HB6 : Hid (Ab gb #[.int .i64 (ia2 : Int), .string bf2, .int .i64 o2] w6) := HAgb.out.next hb
      have HP6 : Hid ((w6).ownsRow w.heap.size 37 3 (.slice va2 ts2.length vc2) ts2.length (tcs ts2)) := own_below HP5.out hb (Nat.le_refl _)
      have HO6 : Hid ((w6).ownsRow w.heap.size 37 3 (.slice va1 ts1.length vc1) ts1.length (tcs ts1)) := own_below HO5.out hb (Nat.le_refl _)
      clear hb hre HF5 HA5 HAgb HP5 HO5 x0 x1 x2 han3 hown3 h32
      have HA6L : Hid (ga < w6.heap.size) := HA6.out.lt
      have HF6L : Hid (w.heap.size ≤ w6.heap.size) := HF6.out.below.size
      have HO6L : Hid ((w6).ownsRow w.heap.size 37 3 (.slice va1 ts1.length vc1) ts1.length (tcs ts1)) := HO6.out
      have hbx := (Below.refl w6.heap.size w6).alloc (Nat.le_refl _) (Obj.cells #[.int .i64 (ia2 : Int), .string bf2, .int .i64 o2] 29)
      have hnb := heap_alloc_new w6 (Obj.cells #[.int .i64 (ia2 : Int), .string bf2, .int .i64 o2] 29)
      have hlt9 : w6.heap.size < (w6.alloc (Obj.cells #[.int .i64 (ia2 : Int), .string bf2, .int .i64 o2] 29)).heap.size := by simp
      obtain ⟨gc, HGgc⟩ : ∃ q, Hid (w6.heap.size = q) := ⟨_, (rfl : _ = _)⟩
      obtain ⟨x6, HXx6⟩ : ∃ q, Hid (w6.alloc (Obj.cells #[.int .i64 (ia2 : Int), .string bf2, .int .i64 o2] 29) = q) := ⟨_, (rfl : _ = _)⟩
      rw [HXx6.out] at hbx hnb hlt9
      rw [HGgc.out] at hnb hlt9
      have HAgc : Hid (Ab gc #[.int .i64 (ia2 : Int), .string bf2, .int .i64 o2] x6) := ⟨hnb, hlt9⟩
      have HF7 : Hid (Fb w l (at0 : Int) a1b 0 x6) := HF6.out.next hbx
      have HA7 : Hid (Ab ga #[.int .i64 (ia1 : Int), .string bf1, .int .i64 o1] x6) := HA6.out.next hbx
      have HB7 : Hid (Ab gb #[.int .i64 (ia2 : Int), .string bf2, .int .i64 o2] x6) := HB6.out.next hbx
      have HP7 : Hid ((x6).ownsRow w.heap.size 37 3 (.slice va2 ts2.length vc2) ts2.length (tcs ts2)) := own_below HP6.out hbx (Nat.le_refl _)
      clear HP6
      have HQ7 : Hid ((x6).ownsRow w.heap.size 37 3 (.slice va3 ts2.length vc3) ts2.length (tcs ts2)) := own_below HQ6.out hbx (Nat.le_refl _)
      clear HQ6
      have HO7 : Hid ((x6).ownsRow w.heap.size 37 3 (.slice va1 ts1.length vc1) ts1.length (tcs ts1)) := own_below HO6.out hbx (Nat.le_refl _)
      clear HO6
      clear hbx hnb hlt9 HF6 HA6 HB6
      have HNE : Hid (ga ≠ gc) := by show _ ≠ _; have := HA7.out.lt; have := HGgc.out; have := HA6L.out; omega
      have HGC : Hid (w.heap.size ≤ gc) := by show _ ≤ _; have := HGgc.out; have := HF6L.out; omega
      have HGN : Hid ((∀ k, (.slice va1 ts1.length vc1 : Value).ownBlock = some k → k < gc) ∧ gc < x6.heap.size) := ⟨fun k hk => by have := (HO6L.out.lt k hk).2; have := HGgc.out; omega, HAgc.out.lt⟩
      go_upto_region 7 with fail
      rw [HXx6.out, HGgc.out]
      clear HXx6 HGgc
      have hts2 : ts2.length ≤ 9223372036854775807 := HTL2.out HAN2.out
      have heq := equal_true x6 (.slice va2 ts2.length vc2) (.slice va3 ts2.length vc3) ts2 (tks_of_own HP7.out hts2) (tks_of_own HQ7.out hts2)
      have y0 := block_cell HB7.out.hb 0
      have y1 := block_cell HB7.out.hb 1
      have y2 := block_cell HB7.out.hb 2
      have z0 := block_cell HAgc.out.hb 0
      have z1 := block_cell HAgc.out.hb 1
      have z2 := block_cell HAgc.out.hb 2
      simp only [List.getElem?_toArray, List.getElem?_cons_zero, List.getElem?_cons_succ] at y0 y1 y2 z0 z1 z2
      go_wp2_with fail
      refine heq.mono ?_
      rintro _ w8 ⟨rfl, hb⟩
      have HF8 : Hid (Fb w l (at0 : Int) a1b 0 w8) := HF7.out.next hb
      have HA8 : Hid (Ab ga #[.int .i64 (ia1 : Int), .string bf1, .int .i64 o1] w8) := HA7.out.next hb
      have HC8 : Hid (Ab gc #[.int .i64 (ia2 : Int), .string bf2, .int .i64 o2] w8) := HAgc.out.next hb
      have HO8 : Hid ((w8).ownsRow w.heap.size 37 3 (.slice va1 ts1.length vc1) ts1.length (tcs ts1)) := own_below HO7.out hb (Nat.le_refl _)
      clear hb heq HF7 HA7 HAgc y0 y1 y2 z0 z1 z2 hts2
      have x0 := block_cell HF8.out.hb 0
      have x1 := block_cell HF8.out.hb 1
      have x2 := block_cell HF8.out.hb 2
      simp only [List.getElem?_toArray, List.getElem?_cons_zero, List.getElem?_cons_succ] at x0 x1 x2
      have hrt := refText_ok a0O a0p a0t a0n a0L a0X a0T at0 a1b a2 w8 w0o (w0s.below HF8.out.below (Nat.le_refl _)) (w0u.below HF8.out.below (Nat.le_refl _)) HCP.out hat hbl (by omega)
      rw [HLL.out, HR.out, HAN1E.out, HER1.out] at hrt
      have hs3 : ¬ (2000 : Int) < (a2.size : Int) := by omega
      go_wp2_with (refine wpList_load_mid rfl 26 _ rfl w.heap.size 0 rfl l _ HF8.out.rng Try.underlying26 rfl HSI.out ?_)
      refine hrt.mono ?_
      rintro _ w9 ⟨ia4, bf4, v4, ts4, o4, rfl, han4, hown4, hb⟩
      have hsame := HAN1.out.symm.trans han4
      simp only [Prod.mk.injEq] at hsame
      obtain ⟨h41, h42, h43, h44⟩ := hsame
      have h45 : bf1 = bf4 := ByteArray.ext (Array.toList_inj.1 h42)
      subst h41 h43 h44 h45
      obtain ⟨va4, vc4, rfl⟩ := own_form hown4
      have HGN4 : Hid (∀ k, (.slice va4 ts1.length vc4 : Value).ownBlock = some k → gc < k) := fun k hk => by have := (hown4.lt k hk).1; have := HC8.out.lt; omega
      have HR9 : Hid ((w9).ownsRow w.heap.size 37 3 (.slice va4 ts1.length vc4) ts1.length (tcs ts1)) := own_less hown4 HF8.out.below.size
      have HF9 : Hid (Fb w l (at0 : Int) a1b 0 w9) := HF8.out.next hb
      have HA9 : Hid (Ab ga #[.int .i64 (ia1 : Int), .string bf1, .int .i64 o1] w9) := HA8.out.next hb
      have HC9 : Hid (Ab gc #[.int .i64 (ia2 : Int), .string bf2, .int .i64 o2] w9) := HC8.out.next hb
      have HO9 : Hid ((w9).ownsRow w.heap.size 37 3 (.slice va1 ts1.length vc1) ts1.length (tcs ts1)) := own_below HO8.out hb (Nat.le_refl _)
      clear hb hrt HF8 HA8 HC8 HO8 x0 x1 x2 han4 hown4 h42
      have c0 := block_cell HC9.out.hb 0
      have c1 := block_cell HC9.out.hb 1
      have c2 := block_cell HC9.out.hb 2
      have k0 := block_free HC9.out.hb 0
      have k1 := block_free HC9.out.hb 1
      have k2 := block_free HC9.out.hb 2
      have y0 := block_cell HA9.out.hb 0
      have y1 := block_cell HA9.out.hb 1
      have y2 := block_cell HA9.out.hb 2
      simp only [List.getElem?_toArray, List.getElem?_cons_zero, List.getElem?_cons_succ] at y0 y1 y2 c0 c1 c2
      have hth := three HC9.out.hb (.int .i64 (ia1 : Int)) (.string bf1) (.int .i64 o1)
      have hst := same_three w9 gc (.int .i64 (ia1 : Int)) (.string bf1) (.int .i64 o1)
      have hne : ga ≠ gc := HNE.out
      have hts1 : ts1.length ≤ 9223372036854775807 := HTL1.out HAN1.out
      obtain ⟨xw, HXW⟩ : ∃ q, Hid (((w9.setCell ⟨gc, 0, none⟩ (.int .i64 (ia1 : Int))).setCell ⟨gc, 1, none⟩ (.string bf1)).setCell ⟨gc, 2, none⟩ (.int .i64 o1) = q) := ⟨_, (rfl : _ = _)⟩
      have hbe : Below w.heap.size w (((w9.setCell ⟨gc, 0, none⟩ (.int .i64 (ia1 : Int))).setCell ⟨gc, 1, none⟩ (.string bf1)).setCell ⟨gc, 2, none⟩ (.int .i64 o1)) := ((HF9.out.below.setCell (by have := HGC.out; simpa using this) _).setCell (by have := HGC.out; simpa using this) _).setCell (by have := HGC.out; simpa using this) _
      rw [HXW.out] at hth hst hbe
      have HBEE : Hid (Below w.heap.size w xw) := hbe
      have u0 := (cell_same (hst.2.2.2.2 ga hne) 0).trans y0
      have u1 := (cell_same (hst.2.2.2.2 ga hne) 1).trans y1
      have u2 := (cell_same (hst.2.2.2.2 ga hne) 2).trans y2
      have t0 := block_cell hth 0
      have t1 := block_cell hth 1
      have t2 := block_cell hth 2
      simp only [List.getElem?_toArray, List.getElem?_cons_zero, List.getElem?_cons_succ] at t0 t1 t2
      have hk1 := tks_of_own (own_same HO9.out fun k hk => hst.2.2.2.2 k (fun e => by have := HGN.out.1 k hk; omega)) hts1
      have hk2 := tks_of_own (own_same HR9.out fun k hk => hst.2.2.2.2 k (fun e => by have := HGN4.out k hk; omega)) hts1
      have heq := equal_true xw (.slice va1 ts1.length vc1) (.slice va4 ts1.length vc4) ts1 hk1 hk2
      clear hth hst hbe hk1 hk2
      go_upto_region 12 with fail
      rw [HXW.out]
      clear c0 c1 c2 k0 k1 k2 y0 y1 y2
      go_wp2_with fail
      refine heq.mono ?_
      rintro _ wz ⟨rfl, hb⟩
      have HFIN : Hid (Below w.heap.size w wz) := HBEE.out.trans (hb.mono HBEE.out.size)
      clear hb heq u0 u1 u2 t0 t1 t2
      go_wp2_with fail
      go_ret
      exact ⟨rfl, HFIN.out⟩
  · have hbs : a1b.size ≤ 281474976710656 := by omega
    go_enter Try.func3, Try.ntmps3
    go_upto_region 1 with fail
    rw [HW2.out]
    clear HW2
    have x0 := block_cell HF0.out.hb 0
    have x1 := block_cell HF0.out.hb 1
    have x2 := block_cell HF0.out.hb 2
    simp only [List.getElem?_toArray, List.getElem?_cons_zero, List.getElem?_cons_succ] at x0 x1 x2
    go_wp2_with (refine wpList_load_mid rfl 26 _ rfl w.heap.size 0 rfl l _ HF0.out.rng Try.underlying26 rfl HSI.out ?_)
    refine hrh.mono ?_
    rintro _ w1 ⟨rfl, hb⟩
    have HF1 : Hid (Fb w l a1a a1b a1o w1) := HF0.out.next hb
    clear hb hrh HF0 x0 x1 x2
    have x0 := block_cell HF1.out.hb 0
    have x1 := block_cell HF1.out.hb 1
    have x2 := block_cell HF1.out.hb 2
    simp only [List.getElem?_toArray, List.getElem?_cons_zero, List.getElem?_cons_succ] at x0 x1 x2
    have hfd := feed_bad a0O a0p a0t a0n a0m a0L a0X a0T a1a a1b a2 a1o c w1 w0o (w0s.below HF1.out.below (Nat.le_refl _)) (w0u.below HF1.out.below (Nat.le_refl _)) (by omega) (Or.inl ⟨by rw [HC.out]; exact h0, HC.out⟩)
    rw [HLL.out] at hfd
    go_wp2_with (refine wpList_load_mid rfl 26 _ rfl w.heap.size 0 rfl l _ HF1.out.rng Try.underlying26 rfl HSI.out ?_)
    refine hfd.mono ?_
    rintro _ w2 ⟨rfl, hb⟩
    have HF2 : Hid (Fb w l a1a a1b a1o w2) := HF1.out.next hb
    clear hb hfd HF1 x0 x1 x2
    have hbx := (Below.refl w2.heap.size w2).alloc (Nat.le_refl _) (Obj.cells #[.int .i64 a1a, .string a1b, .int .i64 a1o] 29)
    have hnb := heap_alloc_new w2 (Obj.cells #[.int .i64 a1a, .string a1b, .int .i64 a1o] 29)
    have hlt9 : w2.heap.size < (w2.alloc (Obj.cells #[.int .i64 a1a, .string a1b, .int .i64 a1o] 29)).heap.size := by simp
    obtain ⟨ga, HGga⟩ : ∃ q, Hid (w2.heap.size = q) := ⟨_, (rfl : _ = _)⟩
    obtain ⟨x2, HXx2⟩ : ∃ q, Hid (w2.alloc (Obj.cells #[.int .i64 a1a, .string a1b, .int .i64 a1o] 29) = q) := ⟨_, (rfl : _ = _)⟩
    rw [HXx2.out] at hbx hnb hlt9
    rw [HGga.out] at hnb hlt9
    have HAga : Hid (Ab ga #[.int .i64 a1a, .string a1b, .int .i64 a1o] x2) := ⟨hnb, hlt9⟩
    have HF3 : Hid (Fb w l a1a a1b a1o x2) := HF2.out.next hbx
    clear hbx hnb hlt9 HF2
    have hed := end_bad a0O a0p a0t a0n a0m a0L a0X a0T a1a a1b a1o c x2 w0o (w0s.below HF3.out.below (Nat.le_refl _)) (w0u.below HF3.out.below (Nat.le_refl _)) (by omega) ⟨by rw [HC.out]; exact h0, HC.out⟩
    rw [HLL.out] at hed
    go_upto_region 3 with fail
    rw [HXx2.out, HGga.out]
    clear HXx2 HGga
    have x0 := block_cell HF3.out.hb 0
    have x1 := block_cell HF3.out.hb 1
    have x2 := block_cell HF3.out.hb 2
    simp only [List.getElem?_toArray, List.getElem?_cons_zero, List.getElem?_cons_succ] at x0 x1 x2
    go_wp2_with (refine wpList_load_mid rfl 26 _ rfl w.heap.size 0 rfl l _ HF3.out.rng Try.underlying26 rfl HSI.out ?_)
    refine hed.mono ?_
    rintro _ w4 ⟨rfl, hb⟩
    have HF4 : Hid (Fb w l a1a a1b a1o w4) := HF3.out.next hb
    have HA4 : Hid (Ab ga #[.int .i64 a1a, .string a1b, .int .i64 a1o] w4) := HAga.out.next hb
    clear hb hed HF3 HAga x0 x1 x2
    have hbx := (Below.refl w4.heap.size w4).alloc (Nat.le_refl _) (Obj.cells #[.int .i64 a1a, .string a1b, .int .i64 a1o] 29)
    have hnb := heap_alloc_new w4 (Obj.cells #[.int .i64 a1a, .string a1b, .int .i64 a1o] 29)
    have hlt9 : w4.heap.size < (w4.alloc (Obj.cells #[.int .i64 a1a, .string a1b, .int .i64 a1o] 29)).heap.size := by simp
    obtain ⟨gb, HGgb⟩ : ∃ q, Hid (w4.heap.size = q) := ⟨_, (rfl : _ = _)⟩
    obtain ⟨x4, HXx4⟩ : ∃ q, Hid (w4.alloc (Obj.cells #[.int .i64 a1a, .string a1b, .int .i64 a1o] 29) = q) := ⟨_, (rfl : _ = _)⟩
    rw [HXx4.out] at hbx hnb hlt9
    rw [HGgb.out] at hnb hlt9
    have HAgb : Hid (Ab gb #[.int .i64 a1a, .string a1b, .int .i64 a1o] x4) := ⟨hnb, hlt9⟩
    have HF5 : Hid (Fb w l a1a a1b a1o x4) := HF4.out.next hbx
    have HA5 : Hid (Ab ga #[.int .i64 a1a, .string a1b, .int .i64 a1o] x4) := HA4.out.next hbx
    clear hbx hnb hlt9 HF4 HA4
    go_upto_region 4 with fail
    rw [HXx4.out, HGgb.out]
    clear HXx4 HGgb
    have x0 := block_cell HF5.out.hb 0
    have x1 := block_cell HF5.out.hb 1
    have x2 := block_cell HF5.out.hb 2
    simp only [List.getElem?_toArray, List.getElem?_cons_zero, List.getElem?_cons_succ] at x0 x1 x2
    have y0 := block_cell HA5.out.hb 0
    have y1 := block_cell HA5.out.hb 1
    have y2 := block_cell HA5.out.hb 2
    have z0 := block_cell HAgb.out.hb 0
    have z1 := block_cell HAgb.out.hb 1
    have z2 := block_cell HAgb.out.hb 2
    simp only [List.getElem?_toArray, List.getElem?_cons_zero, List.getElem?_cons_succ] at y0 y1 y2 z0 z1 z2
    have hc0 : (c == 0) = false := by simp [h0]
    have hc1 : (c != 0) = true := by simp [h0]
    have hcc : (c == c) = true := by simp
    go_wp2_with fail
    go_ret
    exact ⟨rfl, HF5.out.below⟩

/-! ### What the walk gives, for every argument -/
set_option maxRecDepth 100000 in
theorem contract (H : Type) (enc : TypeId × Value → H) (W : World) (base : Nat) (args : Array Value) (ds gs : List (DataW H)) (before : List MemPlace)
    (hval : ∀ (j : Nat) t v, Try.f3.params[j]? = some t → args[j]? = some v → Value.okWide Try.prog W .any base t v)
    (hW : DataW.Whole enc Try.prog Try.f3.params.toList Rows.feedSaysSpec.vars false W args.toList ds gs before) (hsz : (DataW.weightsEach Try.prog (Try.f3.params.toList ++ Rows.feedSaysSpec.plain.varTypes Try.prog) (ds ++ gs)).all (· ≤ reachBytes) = true) :
    Calls Try.prog 3 args W fun e W' => ∃ v, e = .returned v ∧ Rows.feedSaysSpec.post enc Try.prog Try.f3 false true false false W args v W' := by
  have hW' := hW
  obtain ⟨p, q, hA0, hV, rfl, hfz, hnd⟩ := hW
  have hA : DataW.TrodAll enc Try.prog W 0 (fun _ => true) true Try.f3.params.toList args.toList ds p := hA0
  rw [Try.params3] at hA hval hsz
  obtain ⟨v0, vs0, d0, ds0, p0, q0, hargs, rfl, rfl, h0, r0⟩ := trodAll_cons hA
  obtain ⟨v1, vs1, d1, ds1, p1, q1, rfl, rfl, rfl, h1, r1⟩ := trodAll_cons r0
  obtain ⟨v2, vs2, d2, ds2, p2, q2, rfl, rfl, rfl, h2, r2⟩ := trodAll_cons r1
  obtain ⟨rfl, rfl, rfl⟩ := trodAll_nil r2
  obtain rfl : args = #[v0, v1, v2] := by cases args; simp_all
  obtain ⟨rfl, rfl⟩ := trodVars_none hV
  have k0 := h0
  have lt0 : ∀ x ∈ p0, x.block < W.heap.size := by obtain ⟨m, hm⟩ := k0; exact DataW.trod_lt m _ _ _ hm
  obtain ⟨a0O, a0p, a0t, a0n, a0m, a0L, a0X, a0T, rfl, w0o, w0s, w0u⟩ := open_packed (hval 0 26 v0 rfl rfl) h0
  have k1 := h1
  have lt1 : ∀ x ∈ p1, x.block < W.heap.size := by obtain ⟨m, hm⟩ := k1; exact DataW.trod_lt m _ _ _ hm
  obtain ⟨a1a, a1b, a1o, rfl, w1y⟩ := open_held (hval 1 29 v1 rfl rfl) h1
  obtain ⟨a2, rfl, rfl, rfl, w2⟩ := open_string Try.underlying9 (hval 2 9 v2 rfl rfl) h2
  have r1z : a1b.size ≤ 140737488351232 := by
    have := sized_each hsz (j := 1) (t := 29) rfl rfl w1y
    simpa [reachBytes] using this
  have r2z : a2.size ≤ 140737488351232 := by have := sized_string hsz (j := 2) (t := 9) rfl rfl; simpa [reachBytes] using this
  clear hA0
  refine (walk a0O a0p a0t a0n a0m a0L a0X a0T a1a a1b a1o a2 W w0o w0s w0u r1z r2z).mono fun e W' ⟨he, bel⟩ => ?_
  subst he
  exact ⟨_, rfl, _, _, _, [], _, [], hW', trodAll_mk1 (shut_bool Try.underlying4 _), (trodAll_cons_mk (Below.trod laidOut (by kernel_rfl) (of_decide_eq_true (by kernel_rfl)) k0 bel lt0) (trodAll_cons_mk (Below.trod laidOut (by kernel_rfl) (of_decide_eq_true (by kernel_rfl)) k1 bel lt1) (trodAll_cons_mk (shut_string Try.underlying9 w2) trodAll_mk0))), rfl, bel.frame _, fun h => by cases h⟩

/-! ### The row's step -/
set_option maxRecDepth 100000 in
theorem lifted (os : Os) (started : os.Started) (H : Type) (enc : TypeId × Value → H) :
    ReturnsInHanded {} Try.checked os 3 .any (Rows.feedSaysSpec.pre6 enc Try.prog Try.f3 Rows.feedSaysRow.domain false) (Rows.feedSaysSpec.post enc Try.prog Try.f3 false true false false) := by
  refine returnsInHanded_of_change_sized (C := Try.checked) own started (by kernel_rfl) Try.func3
    (ChangeSpec.witness6 (enc := enc) (C := Try.checked) false ⟨#[], #[.agg (Array.replicate 256 (.int .u8 0) ++ #[.slice none 0 0, .slice none 0 0]), .agg #[.int .i64 0, .string .empty, .int .i64 0], .string .empty], []⟩ 8 (by kernel_rfl) (by kernel_rfl) (by kernel_rfl) (by kernel_rfl)) ?_
  intro W base args ds gs before hval hW hcnd hsz _
  exact contract H enc W base args ds gs before hval hW hsz

theorem over : Rows.feedSaysRow.holds Try.pinned (OpenSpec.ofChange Rows.feedSaysSpec) :=
  OpenClaim.holds_of_wide 3 Try.f3 rfl rfl rfl rfl rfl rfl rfl ⟨rfl, rfl, rfl, rfl, rfl⟩ rfl rfl rfl rfl rfl (by kernel_rfl) Try.func3 (by kernel_rfl)
    (of_decide_eq_true (by kernel_rfl)) (by unfold Func.isWrapper; first | (rw [if_pos (by decide +kernel)]; kernel_rfl) | (rw [if_neg (by decide +kernel)]; exact ⟨rfl, rfl⟩))
    (fun os started H enc _ => lifted os started H enc)

end Go.Proofs.Ytcdnbkfjiigdmaa.feedSays
namespace Go.Proofs.Ytcdnbkfjiigdmaa
/-- The given statement. -/
theorem feedSays_holds : Rows.FeedSaysSaid := feedSays.over
#print axioms feedSays_holds
end Go.Proofs.Ytcdnbkfjiigdmaa
