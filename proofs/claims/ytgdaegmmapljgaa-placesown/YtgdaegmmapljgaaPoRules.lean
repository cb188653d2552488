/-
  The contracts of places.checkBoth, places.Run and places.Rules.
-/
import Derived.Test.YtgdaegmmapljgaaPoCheck
namespace Go.Proofs.Ytgdaegmmapljgaa
open Go.RowKit
open Cls Po

set_option maxHeartbeats 4000000 in
set_option maxRecDepth 20000 in
theorem checkBoth_any (v0 v1 v2 v3 v4 v5 : Value) (p : P) (s : ByteArray) (w : World) (hp : Pn w v0 v1 v2 v3 v4 v5 p) :
    Calls Try.prog 39 #[.agg #[v0, v1, v2, v3, v4, v5], .string s] w fun e w' => e = .returned (.int .i64 (chkBoth p s.data.toList)) ∧ Below w.heap.size w w' := by
  have H0 : Hid (Px w w.heap.size v0 v1 v2 v3 v4 v5 p (w.alloc (Obj.cells #[v0, v1, v2, v3, v4, v5] 28))) := Px.box hp
  clear hp
  have hds := data_size s
  have HDS : Hid (s.data.toList.length = s.size) := hds
  clear hds
  go_enter Try.func39, Try.ntmps39
  go_wp2_with fail
  have hc := Check_any v0 v1 v2 v3 v4 v5 p _ H0.out.pn
  obtain ⟨c, HC⟩ : ∃ c, Hid (chk p = c) := ⟨_, (rfl : chk p = chk p)⟩
  rw [HC.out] at hc
  refine hc.mono ?_
  rintro _ w1 ⟨rfl, hb⟩
  have HB : Hid (Below w.heap.size w w1) := (H0.out.next _ _ hb).below
  clear hc hb H0
  by_cases h0 : c = 0
  · subst h0
    by_cases hl : 200 < s.size
    · have hl1 : (200 : Int) < (s.size : Int) := by omega
      go_wp2_with fail
      go_ret
      exact ⟨by rw [show chkBoth p s.data.toList = 2 by unfold chkBoth; rw [if_pos HC.out, HDS.out, if_pos hl]]; rfl, HB.out⟩
    · have hl1 : ¬ (200 : Int) < (s.size : Int) := by omega
      go_wp2_with fail
      go_ret
      exact ⟨by rw [show chkBoth p s.data.toList = 0 by unfold chkBoth; rw [if_pos HC.out, HDS.out, if_neg hl]]; rfl, HB.out⟩
  · have hb0 : (c != 0) = true := by simp; exact h0
    go_wp2_with fail
    go_ret
    exact ⟨by rw [show chkBoth p s.data.toList = c by unfold chkBoth; rw [if_neg (by rw [HC.out]; exact h0), HC.out]]; rfl, HB.out⟩

set_option maxHeartbeats 4000000 in
set_option maxRecDepth 20000 in
theorem Run_any (v0 v1 v2 v3 v4 v5 : Value) (p : P) (s : ByteArray) (w : World) (hp : Pn w v0 v1 v2 v3 v4 v5 p) :
    Calls Try.prog 13 #[.agg #[v0, v1, v2, v3, v4, v5], .string s] w fun e w' => ∃ v', e = .returned (.tuple #[v', .int .i64 (chkBoth p s.data.toList)]) ∧ Ints w' v' (runL p s.data.toList) ∧ Fr w.heap.size v' ∧ Below w.heap.size w w' := by
  have H0 : Hid (Px w w.heap.size v0 v1 v2 v3 v4 v5 p (w.alloc (Obj.cells #[v0, v1, v2, v3, v4, v5] 28))) := Px.box hp
  clear hp
  go_enter Try.func13, Try.ntmps13
  go_wp2_with fail
  have hc := checkBoth_any v0 v1 v2 v3 v4 v5 p s _ H0.out.pn
  obtain ⟨c, HC⟩ : ∃ c, Hid (chkBoth p s.data.toList = c) := ⟨_, (rfl : chkBoth p s.data.toList = chkBoth p s.data.toList)⟩
  rw [HC.out] at hc
  refine hc.mono ?_
  rintro _ w1 ⟨rfl, hb⟩
  have H1 : Hid (Px w w.heap.size v0 v1 v2 v3 v4 v5 p w1) := H0.out.next _ _ hb
  clear hc hb H0
  by_cases h0 : c = 0
  · subst h0
    have y0 := H1.out.c0
    have y1 := H1.out.c1
    have y2 := H1.out.c2
    have y3 := H1.out.c3
    have y4 := H1.out.c4
    have y5 := H1.out.c5
    obtain ⟨g1, g2⟩ := chkBoth_zero HC.out
    obtain ⟨g3, g4⟩ := chk_zero g1
    have G : Hid (ok p = true) := g3
    clear g1 g3
    go_wp2_with fail
    clear y0 y1 y2 y3 y4 y5
    refine (run_any v0 v1 v2 v3 v4 v5 p s w1 H1.out.pn G.out g4 (by rw [← data_size]; exact g2)).mono ?_
    rintro _ w2 ⟨v', rfl, hI, hFr, hb⟩
    have HI : Hid (Ints w2 v' (runL p s.data.toList) ∧ Fr w.heap.size v' ∧ Below w.heap.size w w2) := ⟨by rw [runL_ok HC.out]; exact hI, hFr.less H1.out.below.size, (H1.out.next _ _ hb).below⟩
    clear hI hb hFr
    go_wp2_with fail
    go_ret2
    exact ⟨v', by rw [HC.out]; rfl, HI.out.1, HI.out.2.1, HI.out.2.2⟩
  · have hb0 : (c != 0) = true := by simp; exact h0
    go_wp2_with fail
    go_ret2
    exact ⟨.slice none 0 0, by rw [HC.out]; rfl, by rw [runL_bad (by rw [HC.out]; exact h0)]; exact ints_nil _, fr_nil _, H1.out.below⟩

theorem tb20 : (#[.bool false, .bool false, .bool false, .bool false, .bool false, .bool false, .bool false, .bool false, .bool false, .bool false, .bool false, .bool false, .bool false, .bool false, .bool false, .bool false, .bool false, .bool false, .bool false, .bool false] : Array Value) = tb 20 (fun _ => false) := rfl
/-- The rules of the first places. -/
def doneF (p : P) (l : List Int) (i : Nat) : Bool := l.any fun y => decide (p.rules.getD y.toNat 0 = (i : Int)) && p.last.getD y.toNat false
theorem doneF_snoc (p : P) (l : List Int) (q : Nat) (h : q < l.length) (i : Nat) : doneF p (l.take (q + 1)) i = (doneF p (l.take q) i || (decide (p.rules.getD l[q].toNat 0 = (i : Int)) && p.last.getD l[q].toNat false)) := by
  unfold doneF
  rw [List.take_succ_eq_append_getElem h, List.any_append]
  simp
theorem done_in {p : P} (h : ok p = true) {l : List Int} (hl : ∀ x ∈ l, 0 ≤ x ∧ x < (p.cls.length : Int)) {i : Nat} (hi : doneF p l i = true) : i < p.empty.length := by
  obtain ⟨h1, -, -, -, -, h2, -⟩ := (ok_iff p).1 h
  unfold doneF at hi
  rw [List.any_eq_true] at hi
  obtain ⟨y, hy, hd⟩ := hi
  have := hl y hy
  simp only [Bool.and_eq_true, decide_eq_true_eq] at hd
  have hlt : y.toNat < p.rules.length := by omega
  rw [List.getD_eq_getElem?_getD, List.getElem?_eq_getElem hlt] at hd
  have h3 := List.all_eq_true.1 h2 p.rules[y.toNat] (List.getElem_mem hlt)
  simp only [ruleOk, Bool.and_eq_true, decide_eq_true_eq] at h3
  have := hd.1
  simp only [Option.getD_some] at this
  omega
theorem doneL_some {p : P} (h : ok p = true) {s : List UInt8} (hs : s ≠ []) : doneL p s = sel 20 (doneF p (atL p s)) := by
  have h2 := ((ok_iff p).1 h).2.2.2.2.1
  rw [sel_wide h2 (fun x hx => done_in h (atL_in p s) hx)]
  unfold doneL
  apply sel_congr
  intro x _
  unfold doneB doneF
  rw [decide_eq_false hs]; simp
theorem doneL_none {p : P} : doneL p [] = sel p.empty.length (p.empty.getD · false) := by
  unfold doneL
  apply sel_congr
  intro x _
  simp [doneB, atL]

set_option maxHeartbeats 4000000 in
set_option maxRecDepth 20000 in
theorem Rules_any (v0 v1 v2 v3 v4 v5 : Value) (p : P) (s : ByteArray) (w : World) (hp : Pn w v0 v1 v2 v3 v4 v5 p) :
    Calls Try.prog 14 #[.agg #[v0, v1, v2, v3, v4, v5], .string s] w fun e w' => ∃ v', e = .returned (.tuple #[v', .int .i64 (chkBoth p s.data.toList)]) ∧ Ints w' v' (rulesL p s.data.toList) ∧ Fr w.heap.size v' ∧ Below w.heap.size w w' := by
  have H0 : Hid (Px w w.heap.size v0 v1 v2 v3 v4 v5 p (w.alloc (Obj.cells #[v0, v1, v2, v3, v4, v5] 28))) := Px.box hp
  have hpn := hp
  clear hp
  go_enter Try.func14, Try.ntmps14
  go_wp2_with fail
  have hc := checkBoth_any v0 v1 v2 v3 v4 v5 p s _ H0.out.pn
  obtain ⟨c, HC⟩ : ∃ c, Hid (chkBoth p s.data.toList = c) := ⟨_, (rfl : chkBoth p s.data.toList = chkBoth p s.data.toList)⟩
  rw [HC.out] at hc
  refine hc.mono ?_
  rintro _ w1 ⟨rfl, hb⟩
  have H1 : Hid (Px w w.heap.size v0 v1 v2 v3 v4 v5 p w1) := H0.out.next _ _ hb
  clear hc hb H0
  by_cases h0 : c = 0
  · subst h0
    obtain ⟨g1, g2⟩ := chkBoth_zero HC.out
    obtain ⟨g3, g4⟩ := chk_zero g1
    have G : Hid (ok p = true) := g3
    clear g1 g3
    have h5 : p.empty.length ≤ 20 := ((ok_iff p).1 G.out).2.2.2.2.1
    by_cases hs0 : 0 < s.size
    · have hse3 : s.toList.isEmpty = false := by
        rw [list_data]
        cases e : s.data.toList with
        | nil => have := data_size s; rw [e] at this; simp at this; omega
        | cons _ _ => rfl
      have HNE : Hid (s.data.toList ≠ []) := fun e => by have := data_size s; rw [e] at this; simp at this; omega
      have H2 : Hid (Px w w.heap.size v0 v1 v2 v3 v4 v5 p (w1.alloc (Obj.cells (tb 20 (fun _ => false)) 67))) := H1.out.next _ _ ((Below.refl _ _).alloc (Nat.le_refl _) _)
      have HK : Hid ((w1.alloc (Obj.cells (tb 20 (fun _ => false)) 67)).heap[w1.heap.size]? = some (.cells (tb 20 fun _ => false) 67 (0, 0))) := heap_alloc_last _ _
      rw [← tb20] at H2
      have y0 := H2.out.c0
      have y1 := H2.out.c1
      have y2 := H2.out.c2
      have y3 := H2.out.c3
      have y4 := H2.out.c4
      have y5 := H2.out.c5
      go_wp2_with fail
      clear y0 y1 y2 y3 y4 y5
      refine (run_any v0 v1 v2 v3 v4 v5 p s _ H2.out.pn G.out g4 (by rw [← data_size]; exact g2)).mono ?_
      rintro _ w2 ⟨v', rfl, hI, hFr, hb⟩
      have H3 : Hid (Px w w.heap.size v0 v1 v2 v3 v4 v5 p w2) := H2.out.next _ _ hb
      have HK2 : Hid (w2.heap[w1.heap.size]? = some (.cells (tb 20 fun _ => false) 67 (0, 0))) := (hb.block _ (by simp)).trans HK.out
      have HLT : Hid (w.heap.size < w1.heap.size) := H1.out.lt
      have HFR : Hid (Fr (w1.heap.size + 1) v') := hFr.less (by simp)
      have hin := atL_in p s.data.toList
      have hln := atL_length p s.data.toList
      obtain ⟨L, HL⟩ : ∃ L, Hid (atL p s.data.toList = L) := ⟨_, (rfl : atL p s.data.toList = atL p s.data.toList)⟩
      rw [HL.out] at hI hin hln
      have HIN : Hid (∀ x ∈ L, 0 ≤ x ∧ x < (p.cls.length : Int)) := hin
      obtain ⟨ao, cap, rfl, hm, hcs⟩ := hI
      obtain ⟨a1, k1, rfl, hm1, hcs1⟩ := H3.out.pn.rules
      obtain ⟨a4, k4, rfl, hm4, hcs4⟩ := H3.out.pn.last
      have HLE : Hid (p.rules.length = p.cls.length ∧ p.last.length = p.cls.length) := ⟨((ok_iff p).1 G.out).1, ((ok_iff p).1 G.out).2.2.1⟩
      have HCS : Hid (L = [] ∨ ∃ b o, ao = some ⟨b, o, none⟩ ∧ b < w2.heap.size ∧ ∀ i (hi : i < L.length), w2.cell? ⟨b, o + i, none⟩ = some (.int .i64 L[i])) := hcs
      have HR1 : Hid (Ints w2 (.slice a1 p.rules.length k1) p.rules ∧ Bls w2 (.slice a4 p.last.length k4) p.last) := ⟨H3.out.pn.rules, H3.out.pn.last⟩
      -- what lay below the heap's end lies there, below the marks
      clear hb HK H2 hcs hcs1 hcs4 hFr hin
      have z1 := H3.out.c1
      have z4 := H3.out.c4
      have HP : Hid (Pn w _ _ _ _ _ _ p) := hpn
      go_wp2_with fail
      go_loopw [25] (fun i wr => ∃ (q : Nat) (F : Nat → Bool), q ≤ L.length ∧ i = .int .i64 (q : Int) ∧ Hid (∀ x, F x = doneF p (L.take q) x) ∧ wr.heap[w1.heap.size]? = some (.cells (tb 20 F) 67 (0, 0)) ∧ Hid (∀ b o, b ≠ w1.heap.size → wr.cell? ⟨b, o, none⟩ = w2.cell? ⟨b, o, none⟩) ∧ wr.heap.size = w2.heap.size ∧ Below w.heap.size w wr) (fun i _ => L.length - (intOf i).toNat)
      case atStart => exact ⟨0, fun _ => false, by omega, rfl, fun x => by simp [doneF], HK2.out, fun _ _ _ => rfl, rfl, H3.out.below⟩
      case round =>
        obtain ⟨q, F, hq, rfl, HF, hblk, HCE, hsz, hbel⟩ := hrel
        have z1' : wr.cell? ⟨w.heap.size, 1, none⟩ = _ := (HCE.out w.heap.size 1 (by have := HLT.out; omega)).trans z1
        have z4' : wr.cell? ⟨w.heap.size, 4, none⟩ = _ := (HCE.out w.heap.size 4 (by have := HLT.out; omega)).trans z4
        clear z1 z4
        by_cases hlt : q < L.length
        · obtain ⟨bb, o, rfl, hb, hc⟩ := HCS.out.resolve_left (by intro e; subst e; simp at hlt)
          have hbb : w1.heap.size + 1 ≤ bb := HFR.out bb (by simp [Value.ownBlock])
          have c0 : wr.cell? ⟨bb, o + q, none⟩ = _ := (HCE.out bb (o + q) (by omega)).trans (hc q hlt)
          have hz := HIN.out L[q] (List.getElem_mem hlt)
          have HT : Hid (∀ i, doneF p (L.take (q + 1)) i = (doneF p (L.take q) i || (decide (p.rules.getD L[q].toNat 0 = (i : Int)) && p.last.getD L[q].toNat false))) := doneF_snoc p L q hlt
          obtain ⟨z, HZ⟩ : ∃ z, Hid (L[q] = z) := ⟨_, (rfl : L[q] = L[q])⟩
          rw [HZ.out] at c0 hz HT
          obtain ⟨y, rfl⟩ : ∃ y : Nat, z = (y : Int) := ⟨z.toNat, by omega⟩
          have hy1 : y < p.rules.length := by rw [HLE.out.1]; omega
          have hy4 : y < p.last.length := by rw [HLE.out.2]; omega
          have hy1' : (y : Int) < (p.rules.length : Int) := by omega
          have hy4' : (y : Int) < (p.last.length : Int) := by omega
          have HT2 : Hid (∀ i, doneF p (L.take (q + 1)) i = (doneF p (L.take q) i || (decide (p.rules[y] = (i : Int)) && p.last[y]))) := fun i => by
            rw [HT.out i, Int.toNat_natCast, List.getD_eq_getElem?_getD, List.getD_eq_getElem?_getD, List.getElem?_eq_getElem hy1, List.getElem?_eq_getElem hy4]; rfl
          obtain ⟨a1', k1', hv1, -, hcs1⟩ := HP.out.rules
          simp only [Value.slice.injEq] at hv1
          obtain ⟨rfl, -, rfl⟩ := hv1
          obtain ⟨b1, o1, rfl, hb1, hd1⟩ := hcs1.resolve_left (by intro e; rw [e] at hy1; simp at hy1)
          obtain ⟨a4', k4', hv4, -, hcs4⟩ := HP.out.last
          simp only [Value.slice.injEq] at hv4
          obtain ⟨rfl, -, rfl⟩ := hv4
          obtain ⟨b4, o4, rfl, hb4, hd4⟩ := hcs4.resolve_left (by intro e; rw [e] at hy4; simp at hy4)
          have d1 : wr.cell? ⟨b1, o1 + y, none⟩ = _ := (hbel.cell (p := ⟨b1, o1 + y, none⟩) hb1).trans (hd1 y hy1)
          have d4 : wr.cell? ⟨b4, o4 + y, none⟩ = _ := (hbel.cell (p := ⟨b4, o4 + y, none⟩) hb4).trans (hd4 y hy4)
          have hr := List.all_eq_true.1 ((ok_iff p).1 G.out).2.2.2.2.2.1 p.rules[y] (List.getElem_mem hy1)
          simp only [ruleOk, Bool.and_eq_true, decide_eq_true_eq] at hr
          obtain ⟨r, HR⟩ : ∃ r, Hid (p.rules[y] = r) := ⟨_, (rfl : p.rules[y] = p.rules[y])⟩
          rw [HR.out] at d1 hr HT2
          obtain ⟨x, rfl⟩ : ∃ x : Nat, r = (x : Int) := ⟨r.toNat, by omega⟩
          have hk1 : (q : Int) < (L.length : Int) := by omega
          have hx2 : x < 20 := by omega
          have hx1 : (x : Int) < 20 := by omega
          clear hc hd1 hd4 hcs1 hcs4
          cases hla : p.last[y] with
          | true =>
            rw [hla] at d4 HT2
            have f0 : wr.cell? ⟨w1.heap.size, x, none⟩ = some (.bool (F x)) := (block_cell hblk x).trans (tb_at 20 F x hx2)
            have f1 : wr.frozen? ⟨w1.heap.size, x, none⟩ = false := block_free hblk x
            have HSZ : Hid (wr.heap.size = w2.heap.size) := hsz
            clear hla hsz
            go_wp2_with fail
            go_roundw
            case rel =>
              refine ⟨q + 1, fun i => F i || i == x, by omega, by go_num, fun i => ?_, ?_, fun b o hb => ?_, ?_, ?_⟩
              · show (F i || i == x) = _
                rw [HF.out i, HT2.out i, Bool.and_true]
                congr 1
                rw [Bool.eq_iff_iff]; simp; omega
              · rw [← tb_set]; exact block_store hblk _
              · rw [World.cell?_setCell_other _ _ _ _ (by simp)]; exact HCE.out b o hb
              · simpa using HSZ.out
              · exact hbel.setCell (p := ⟨w1.heap.size, x, none⟩) (by have := HLT.out; simp; omega) _
            case measure => simp [intOf]; omega
          | false =>
            rw [hla] at d4 HT2
            have HSZ : Hid (wr.heap.size = w2.heap.size) := hsz
            clear hla hsz
            go_wp2_with fail
            go_roundw
            case rel => exact ⟨q + 1, F, by omega, by go_num, fun i => by rw [HF.out i, HT2.out i, Bool.and_false, Bool.or_false], hblk, HCE, HSZ.out, hbel⟩
            case measure => simp [intOf]; omega
        · have hmk := marked_any _ _ wr (bls_block hblk (by omega)) (by simp)
          rw [map_getD] at hmk
          have HF2 : Hid (sel 20 F = doneL p s.data.toList) := by
            show _ = _
            rw [doneL_some G.out HNE.out, HL.out]
            apply sel_congr
            intro x _
            rw [HF.out x, show L.take q = L from List.take_of_length_le (Nat.le_of_not_lt hlt)]
          rw [HF2.out] at hmk
          clear hsz
          go_wp2_with fail
          refine hmk.mono ?_
          rintro _ w3 ⟨v', rfl, hI, hFr, hb⟩
          have HI : Hid (Ints w3 v' (rulesL p s.data.toList) ∧ Fr w.heap.size v' ∧ Below w.heap.size w w3) := ⟨by rw [rulesL_ok HC.out]; exact hI, hFr.less hbel.size, hbel.trans (hb.mono hbel.size)⟩
          clear hI hb hmk hFr
          go_wp2_with fail
          go_ret2
          exact ⟨v', by rw [HC.out]; rfl, HI.out.1, HI.out.2.1, HI.out.2.2⟩
    · have hse : s = ⟨#[]⟩ := by
        obtain ⟨d⟩ := s
        have : d.size = 0 := by have : ¬ 0 < d.size := hs0; omega
        rw [Array.eq_empty_of_size_eq_zero this]
      subst hse
      have y5 := H1.out.c5
      go_wp2_with fail
      have hmk := marked_any v5 p.empty w1 H1.out.pn.empty (by omega)
      refine hmk.mono ?_
      rintro _ w2 ⟨v', rfl, hI, hFr, hb⟩
      have HI : Hid (Ints w2 v' (rulesL p []) ∧ Fr w.heap.size v' ∧ Below w.heap.size w w2) := ⟨by rw [rulesL_ok HC.out]; rw [doneL_none]; exact hI, hFr.less H1.out.below.size, (H1.out.next _ _ hb).below⟩
      clear hI hb hmk y5 hFr
      go_wp2_with fail
      go_ret2
      exact ⟨v', by rw [HC.out]; rfl, HI.out.1, HI.out.2.1, HI.out.2.2⟩
  · have hb0 : (c != 0) = true := by simp; exact h0
    go_wp2_with fail
    go_ret2
    exact ⟨.slice none 0 0, by rw [HC.out]; rfl, by rw [rulesL_bad (by rw [HC.out]; exact h0)]; exact ints_nil _, fr_nil _, H1.out.below⟩
end Go.Proofs.Ytgdaegmmapljgaa
