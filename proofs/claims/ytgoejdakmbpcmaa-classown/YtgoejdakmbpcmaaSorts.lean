/-
  The contract of slices.SortFunc at classes, by the closure of class.Parts: a row of classes is laid anew, sorted by their least bytes; for every row.
-/
import Derived.Test.YtgoejdakmbpcmaaShelf
import Derived.Test.YtgoejdakmbpcmaaCuts
import Derived.Test.YtgoejdakmbpcmaaCounts
import Derived.Deep.Draws
namespace Go.Proofs.Ytgoejdakmbpcmaa
open Go.RowKit
open Cls
open Go.Sort (grow putRow mapBlock putCells onCells PermIn SortedIn flatK get_flatK size_flatK HoldsK putRowK)

theorem ce_get (c : Cl) (j : Nat) (hj : j < 4) : (ce c)[j]! = .int .u64 ((wd c j).toNat : Int) := by
  have := ce_at c j hj
  rw [List.getElem!_eq_getElem?_getD, this]; rfl
theorem flat_cs (l : List Cl) : flatK ce 4 l.toArray = (cs l).toArray := by
  apply Array.ext
  · simp [cs_length]
  · intro t h1 h2
    have ht : t < l.length * 4 := by simpa using h1
    have e := get_flatK ce 4 l.toArray t (by simpa using ht)
    rw [getElem!_pos _ t h1] at e
    rw [e]
    have hi : t / 4 < l.length := by omega
    have hj : t % 4 < 4 := Nat.mod_lt _ (by omega)
    have := cs_at l (t / 4) hi (t % 4) hj
    rw [show t / 4 * 4 + t % 4 = t by omega] at this
    rw [ce_get _ _ hj]
    have h3 : (cs l)[t]'(by simpa using h2) = .int .u64 ((wd l[t / 4] (t % 4)).toNat : Int) := by
      rw [List.getElem?_eq_getElem (by simpa using h2)] at this
      exact Option.some.inj this
    simp only [List.getElem_toArray, h3]
    have : l.toArray[t / 4]! = l[t / 4] := by rw [getElem!_pos _ _ (by simpa using hi)]; simp
    rw [this]
theorem holds_cls {w : World} {base g n cap : Nat} {l : List Cl} (h : w.ownsRow base 24 4 (.slice (some ⟨g, 0, none⟩) n cap) n (cs l)) : HoldsK ce 4 w g 0 l.toArray := by
  have hf := own_free h
  obtain ⟨hl, ⟨h1, _⟩ | ⟨g', cap', cur, hv, _, hh, _, _, hs, ht⟩⟩ := h
  · cases h1
  · simp only [Value.slice.injEq, Option.some.injEq, Addr.mk.injEq] at hv
    obtain ⟨⟨rfl, _⟩, _, rfl⟩ := hv
    unfold HoldsK
    rw [flat_cs]
    intro j hj
    have hj' : j < (cs l).length := by simpa using hj
    refine ⟨?_, hf _⟩
    have h1 : (cur.toList.take (n * 4))[j]? = (cs l)[j]? := by rw [ht]
    rw [List.getElem?_take_of_lt (by omega)] at h1
    simp only [World.cell?, hh, Nat.zero_add]
    simp only [Option.isSome_none, Bool.false_eq_true, if_false]
    rw [← Array.getElem?_toList, h1]
    simp [hj']
theorem own_sorted {w : World} {base g n cap m : Nat} {l l' : List Cl} {os : Array Obj} (h : w.ownsRow base 24 4 (.slice (some ⟨g, 0, none⟩) n cap) n (cs l)) (hl : l'.length = l.length) :
    (sortWorldK ce 4 w g 0 m l'.toArray os).ownsRow base 24 4 (.slice (some ⟨g, 0, none⟩) n cap) n (cs l') := by
  obtain ⟨hlen, ⟨h1, _⟩ | ⟨g', cap', cur, hv, hg, hh, hn, hc, hs, ht⟩⟩ := h
  · cases h1
  · simp only [Value.slice.injEq, Option.some.injEq, Addr.mk.injEq] at hv
    obtain ⟨⟨rfl, _⟩, _, rfl⟩ := hv
    rw [cs_length] at hlen
    have hlt : g < w.heap.size := (Array.getElem?_eq_some_iff.1 hh).1
    have e1 : (sortWorldK ce 4 w g 0 m l'.toArray os).heap[g]? = some (.cells (putCells id 0 (cs l').toArray cur) 24 (0, 0)) := by
      unfold sortWorldK putRowK
      rw [flat_cs, Sort.heap_grow_old _ _ (by simpa [putRow, mapBlock, Sort.ahead] using hlt)]
      simp [putRow, mapBlock, Sort.ahead, Array.getElem?_modify, hh, onCells]
    refine ⟨by rw [cs_length, hl, hlen], Or.inr ⟨g, cap, _, rfl, hg, e1, hn, hc, by simp [putCells, hs], ?_⟩⟩
    apply List.ext_getElem?
    intro j
    have hcl : (cs l').length = n * 4 := by rw [cs_length, hl, hlen]
    have hns : n * 4 ≤ cur.size := by rw [hs]; exact Nat.mul_le_mul_right 4 hn
    by_cases hj : j < n * 4
    · rw [List.getElem?_take_of_lt hj, Array.getElem?_toList]
      simp [putCells, hcl, hj, show j < cur.size by omega]
    · rw [List.getElem?_take_eq_none (by omega), List.getElem?_eq_none (by omega)]
theorem grown_sorted {w : World} {g m : Nat} {l' : List Cl} {os : Array Obj} : w.grownBy (sortWorldK ce 4 w g 0 m l'.toArray os) (some g) := by
  unfold sortWorldK putRowK
  refine ⟨rfl, rfl, rfl, by simp [putRow, mapBlock, Sort.ahead], fun k hk hne => ?_⟩
  rw [Sort.heap_grow_old _ _ (by simpa [putRow, mapBlock, Sort.ahead] using hk)]
  have : g ≠ k := fun e => hne (by rw [e])
  simp [putRow, mapBlock, Sort.ahead, Array.getElem?_modify, this]

/-! ### The closure -/
/-- Some draws, some new blocks. -/
def Gr (w W : World) : Prop := ∃ q os, W = grow (w.drewN q) os
theorem Gr.lays {w W W' : World} (h : Gr w W) (k : Lays W W') : Gr w W' := by
  obtain ⟨q, os, rfl⟩ := h
  obtain ⟨os', rfl⟩ := k
  exact ⟨q, os ++ os', by rw [Sort.grow_grow]⟩
theorem Gr.drew {w W : World} (h : Gr w W) : Gr w W.drew := by
  obtain ⟨q, os, rfl⟩ := h
  exact ⟨q + 1, os, rfl⟩
theorem Gr.size {w W : World} (h : Gr w W) : w.heap.size ≤ W.heap.size := by
  obtain ⟨q, os, rfl⟩ := h
  simp
def SG (w : World) (b0 b1 : Nat) (c d : Cl) (W : World) : Prop := Gr w W ∧ Bx W b0 c ∧ Bx W b1 d
theorem SG.next {w : World} {b0 b1 : Nat} {c d : Cl} (W W' : World) (h : SG w b0 b1 c d W) (hb : Lays W W') : SG w b0 b1 c d W' := ⟨h.1.lays hb, h.2.1.next hb.below, h.2.2.next hb.below⟩
theorem Kp.calls_l {P : Program} {f : FuncId} {args : Array Value} {S : World → Prop} {v : Value} (p : Kp S) (hS : ∀ W W', S W → Lays W W' → S W')
    (h : Calls P f args p.W fun e w' => e = .returned v ∧ Lays p.W w') : Calls P f args p.W fun e w'' => e = .returned v ∧ ∃ q : Kp S, w'' = q.W :=
  h.mono fun _ w' ⟨h1, h2⟩ => ⟨h1, ⟨w', hS _ _ p.h h2⟩, rfl⟩
theorem compare_any (x y : Int) (w : World) : Calls Try.prog 36 #[.int .i64 x, .int .i64 y] w fun e w' => e = .returned (.int .i64 (Lib.compareInt x y)) ∧ Lays w w' :=
  (AnyG.cmp_Compare_int Try.cmpInt x y w).mono fun _ _ ⟨h1, h2⟩ => ⟨h1, by rw [h2]; exact Lays.refl w⟩

set_option maxHeartbeats 1000000 in
set_option maxRecDepth 20000 in
theorem clos35 (c d : Cl) (w : World) :
    Calls Try.prog 35 #[.agg #[.int .u64 (c.1.toNat : Int), .int .u64 (c.2.1.toNat : Int), .int .u64 (c.2.2.1.toNat : Int), .int .u64 (c.2.2.2.toNat : Int)], .agg #[.int .u64 (d.1.toNat : Int), .int .u64 (d.2.1.toNat : Int), .int .u64 (d.2.2.1.toNat : Int), .int .u64 (d.2.2.2.toNat : Int)]] w fun e w' => e = .returned (.int .i64 (Lib.compareInt (least c : Int) (least d : Int))) ∧ ∃ q os', w' = grow (w.drewN q) os' := by
  have S1 : SG w w.heap.size (w.heap.size + 1) c d ((w.alloc (.cells #[.int .u64 (c.1.toNat : Int), .int .u64 (c.2.1.toNat : Int), .int .u64 (c.2.2.1.toNat : Int), .int .u64 (c.2.2.2.toNat : Int)] 24)).alloc (.cells #[.int .u64 (d.1.toNat : Int), .int .u64 (d.2.1.toNat : Int), .int .u64 (d.2.2.1.toNat : Int), .int .u64 (d.2.2.2.toNat : Int)] 24)).drew := by
    have hs1 : (w.alloc (.cells #[.int .u64 (c.1.toNat : Int), .int .u64 (c.2.1.toNat : Int), .int .u64 (c.2.2.1.toNat : Int), .int .u64 (c.2.2.2.toNat : Int)] 24)).heap.size = w.heap.size + 1 := by simp
    have G := bx_new (w.alloc (.cells #[.int .u64 (c.1.toNat : Int), .int .u64 (c.2.1.toNat : Int), .int .u64 (c.2.2.1.toNat : Int), .int .u64 (c.2.2.2.toNat : Int)] 24)) d
    rw [hs1] at G
    refine ⟨Gr.drew (Gr.lays (Gr.lays (W' := w.alloc (.cells #[.int .u64 (c.1.toNat : Int), .int .u64 (c.2.1.toNat : Int), .int .u64 (c.2.2.1.toNat : Int), .int .u64 (c.2.2.2.toNat : Int)] 24)) ⟨0, #[], by simp; rfl⟩ ((Lays.refl _).alloc _)) ((Lays.refl _).alloc _)), (bx_new w c).alloc _, G⟩
  go_enter Try.func35, Try.ntmps35
  go_wp2_with fail
  have pc0 : ∀ p : Kp (SG w w.heap.size (w.heap.size + 1) c d), p.W.cell? ⟨w.heap.size, 0, none⟩ = some (.int .u64 (c.1.toNat : Int)) := fun p => p.h.2.1.1
  have pc1 : ∀ p : Kp (SG w w.heap.size (w.heap.size + 1) c d), p.W.cell? ⟨w.heap.size, 1, none⟩ = some (.int .u64 (c.2.1.toNat : Int)) := fun p => p.h.2.1.2.1
  have pc2 : ∀ p : Kp (SG w w.heap.size (w.heap.size + 1) c d), p.W.cell? ⟨w.heap.size, 2, none⟩ = some (.int .u64 (c.2.2.1.toNat : Int)) := fun p => p.h.2.1.2.2.1
  have pc3 : ∀ p : Kp (SG w w.heap.size (w.heap.size + 1) c d), p.W.cell? ⟨w.heap.size, 3, none⟩ = some (.int .u64 (c.2.2.2.toNat : Int)) := fun p => p.h.2.1.2.2.2
  have pd0 : ∀ p : Kp (SG w w.heap.size (w.heap.size + 1) c d), p.W.cell? ⟨w.heap.size + 1, 0, none⟩ = some (.int .u64 (d.1.toNat : Int)) := fun p => p.h.2.2.1
  have pd1 : ∀ p : Kp (SG w w.heap.size (w.heap.size + 1) c d), p.W.cell? ⟨w.heap.size + 1, 1, none⟩ = some (.int .u64 (d.2.1.toNat : Int)) := fun p => p.h.2.2.2.1
  have pd2 : ∀ p : Kp (SG w w.heap.size (w.heap.size + 1) c d), p.W.cell? ⟨w.heap.size + 1, 2, none⟩ = some (.int .u64 (d.2.2.1.toNat : Int)) := fun p => p.h.2.2.2.2.1
  have pd3 : ∀ p : Kp (SG w w.heap.size (w.heap.size + 1) c d), p.W.cell? ⟨w.heap.size + 1, 3, none⟩ = some (.int .u64 (d.2.2.2.toNat : Int)) := fun p => p.h.2.2.2.2.2
  have hne : Nonempty (Kp (SG w w.heap.size (w.heap.size + 1) c d)) := ⟨⟨_, S1⟩⟩
  refine wp_region_kept mixed (by kernel_rfl) S1 ?_
  clear S1
  repeat (go_big_quiet_step (first | (go_at_call 37; exact Kp.calls_l _ SG.next (least_any _ _)) | (go_at_call 36; exact Kp.calls_l _ SG.next (compare_any _ _ _))))
  refine wpQuiet_nil ?_
  intro W1 hw1
  obtain ⟨⟨W1, HS⟩, rfl⟩ := hw1
  have HG := HS.1
  clear pc0 pc1 pc2 pc3 pd0 pd1 pd2 pd3 hne HS
  go_wp2_with fail
  go_ret
  exact ⟨rfl, HG⟩

theorem ltLeast (x y : Cl) : ltOf (fun x y : Cl => Lib.compareInt (least x : Int) (least y : Int)) x y = decide (least x < least y) := by
  unfold ltOf Lib.compareInt
  by_cases h1 : least x < least y
  · simp [h1]
  · by_cases h2 : least y < least x <;> simp [h1, h2]
theorem swoLeast : Sort.SWO (ltOf fun x y : Cl => Lib.compareInt (least x : Int) (least y : Int)) where
  irrefl x := by rw [ltLeast]; simp
  trans x y z h1 h2 := by rw [ltLeast] at *; simp at *; omega
  ntrans x y z h1 h2 := by rw [ltLeast] at *; simp at *; omega
theorem cmpLays35 (blk off size : Nat) (w : World) : CmpLays Try.prog 35 #[] ce 4 (fun x y => Lib.compareInt (least x : Int) (least y : Int)) blk off size w :=
  fun _ _ _ _ x y => clos35 x y _
theorem enters35 : ∀ args w, (callFunc 35 args).run Try.prog w = .ok (.enter 35 args) w := enters_of Try.func35 (by kernel_rfl) rfl

/-- slices.SortFunc at a row of the call's own. -/
theorem sort_any (base g n cap : Nat) (l : List Cl) (w : World) (hn : n ≤ 256) (hown : w.ownsRow base 24 4 (.slice (some ⟨g, 0, none⟩) n cap) n (cs l)) :
    Calls Try.prog 34 #[.slice (some ⟨g, 0, none⟩) n cap, .func (.func 35) #[] #[]] w fun e w' => e = .returned (.tuple #[]) ∧ ∃ l' : List Cl, l.Perm l' ∧ l'.Pairwise (fun p q => least p ≤ least q) ∧ w'.ownsRow base 24 4 (.slice (some ⟨g, 0, none⟩) n cap) n (cs l') ∧ w.grownBy w' (some g) := by
  have hlen : l.length = n := by have := hown.1; rw [cs_length] at this; omega
  have hcon := AnyQ.slices_SortFunc Try.sortCls 4 Try.isAgg24 Try.sizeOf24 ce (fun _ => rfl) (fun x v hv => by simp [ce] at hv; rcases hv with rfl | rfl | rfl | rfl <;> rfl) (fun x y => Lib.compareInt (least x : Int) (least y : Int)) swoLeast 35 #[] g 0 cap l.toArray w enters35 (cmpLays35 g 0 _ w) (holds_cls hown) (own_lt hown) (by simp; omega)
  change Calls Try.prog 34 _ _ _ at hcon
  have e : l.toArray.size = n := by simpa using hlen
  rw [e] at hcon
  refine hcon.mono ?_
  rintro e' w' ⟨rfl, d', m, os, hp, hs, rfl⟩
  obtain ⟨p1, p2, p3⟩ := hp
  have hd : d'.size = n := by rw [p1]; exact e
  have hd2 : d' = d'.toList.toArray := by simp
  refine ⟨rfl, d'.toList, ?_, ?_, ?_, ?_⟩
  · have h1 : d'.extract 0 n = d' := by rw [← hd]; simp
    have h2 : l.toArray.extract 0 n = l.toArray := by rw [← e]; simp
    rw [h1, h2] at p3
    exact p3.symm
  · rw [List.pairwise_iff_getElem]
    intro i j hi hj hij
    have := hs i j (Nat.zero_le _) hij (by rw [← hd]; simpa using hj)
    rw [ltLeast] at this
    have e1 : d'[i]! = d'.toList[i] := by rw [getElem!_pos _ _ (by simpa using hi)]; simp
    have e2 : d'[j]! = d'.toList[j] := by rw [getElem!_pos _ _ (by simpa using hj)]; simp
    rw [e1, e2] at this
    simpa using this
  · conv => arg 1; rw [hd2]
    exact own_sorted hown (by simp [hd, hlen])
  · conv => arg 2; rw [hd2]
    exact grown_sorted
end Go.Proofs.Ytgoejdakmbpcmaa
