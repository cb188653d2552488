/-
  The contracts of frame.Feed and pushref.Rest for longer texts: frame.Feed of an inbox and a text of together at most 2^62 bytes, where no more frames come than a slice of 2^47 bytes holds and no more than 2^48 bytes are left; pushref.Rest at a number of at most 2^62; and a slice of frames that came in, with its length. What was there stays.
-/
import Derived.Test.YtnheaafepejaoaaFeeds
import Derived.Test.YtnheaafepejaoaaRests
namespace Go.Proofs.Ytnheaafepejaoaa
open Go.ChangeShapes Go.WideShapes Go.ChangeAt Go.RowKit
open Frm Crc

theorem bytes23 : Try.prog.bytesOf 23 = 32 := by kernel_rfl
/-- pushref.Rest: what is left of a number at a positive one, never below 0. -/
theorem rest_wide (a : Int) (b : Int) (ha : -9223372036854775808 ≤ a ∧ a ≤ 9223372036854775807) (hb : 0 < b) (hb2 : b ≤ 4611686018427387905) (w : World) :
    Calls Try.prog 17 #[.int .i64 a, .int .i64 b] w fun e w' => (∃ K : Nat, e = .returned (.int .i64 (K : Int)) ∧ (K : Int) < b) ∧ w' = w := by
  have hbz : (b == 0) = false := by simp; omega
  by_cases h0 : 0 ≤ a
  · have h1 : 0 ≤ a % b := Int.emod_nonneg _ (by omega)
    have h2 : a % b < b := Int.emod_lt_of_pos _ hb
    go_enter Try.func17, Try.ntmps17
    go_wp2
    go_ret
    exact ⟨⟨(a % b).toNat, ret_int (by omega), by omega⟩, rfl⟩
  · have h1 := tmod_neg_bounds a b (by omega) hb
    obtain ⟨h2, h3⟩ := h1
    go_enter Try.func17, Try.ntmps17
    go_wp2
    · go_ret
      exact ⟨⟨(a.tmod b + b).toNat, ret_int (by omega), by omega⟩, rfl⟩
    · go_ret
      exact ⟨⟨(a.tmod b).toNat, ret_int (by omega), by omega⟩, rfl⟩
set_option maxHeartbeats 1600000 in
set_option maxRecDepth 20000 in
theorem feed_wide (r s : ByteArray) (hsz : r.size + s.size ≤ 4611686018427387904) (hcnt : (ff (r.data.toList ++ s.data.toList)).1.length * 32 ≤ 140737488355328) (hrest : (ff (r.data.toList ++ s.data.toList)).2.1.length ≤ 281474976710656) (w : World) :
    Calls Try.prog 13 #[.agg #[.string r, .int .i64 0], .string s] w fun e w' => ∃ v, e = .returned (.tuple #[.agg #[.string ⟨(ff (r.data.toList ++ s.data.toList)).2.1.toArray⟩, .int .i64 (((ff (r.data.toList ++ s.data.toList)).2.2 : Nat) : Int)], v, .int .i64 (((ff (r.data.toList ++ s.data.toList)).2.2 : Nat) : Int)]) ∧
      w'.ownsRow w.heap.size 23 3 v (ff (r.data.toList ++ s.data.toList)).1.length (fcs (ff (r.data.toList ++ s.data.toList)).1) ∧ Below w.heap.size w w' := by
  obtain ⟨i0, hi, hz0, hz1, hz2⟩ := info_parts info23
  obtain ⟨L, HL⟩ : ∃ L, Hid (L = r.data.toList ++ s.data.toList) := ⟨_, rfl⟩
  have hlen : L.length = r.size + s.size := by rw [HL.out, List.length_append, len_list, len_list]
  rw [← HL.out] at hcnt hrest ⊢
  obtain ⟨C, HC, hC⟩ : ∃ C, Hid ((ff L).1.length = C) ∧ C * 32 ≤ 140737488355328 := ⟨_, rfl, hcnt⟩
  have HRs : Hid ((ff L).2.1.length ≤ 281474976710656) := hrest
  clear hcnt hrest
  have hadd : r.size + s.size ≤ 9223372036854775807 := by omega
  have HA : Hid ((r ++ s).data.toList = L) := by show _ = _; rw [HL.out]; simp
  have hrs : (r ++ s).size = r.size + s.size := by simp
  clear HL
  go_enter Try.func13, Try.ntmps13
  go_wp2_with fail
  go_loopw [7, 8] (fun t v wr => ∃ (l : ByteArray) (acc : List Fr), t = .string l ∧ l.size + 8 * acc.length ≤ r.size + s.size ∧ Hid (ff L = Frm.ahead acc (ff l.data.toList)) ∧ wr.ownsRow (w.heap.size + 2) 23 3 v acc.length (fcs acc) ∧ wr.heap[w.heap.size + 1]? = some (.cells #[.string ⟨#[]⟩, .int .i64 0] 31 (0, 0)) ∧ w.heap.size + 2 ≤ wr.heap.size ∧ Below w.heap.size w wr) (fun t _ _ => strLen t)
  case atStart =>
    refine ⟨r ++ s, [], rfl, by simp, by show _ = _; rw [HA.out, ahead_nil], World.ownsRow_nil _ _ _ _, ?_, by simp, ((Below.refl _ w).alloc (Nat.le_refl _) _).alloc (by simp) _⟩
    have := heap_alloc_new (w.alloc (Obj.cells #[.string r, .int .i64 0] 31)) (Obj.cells #[.string ⟨#[]⟩, .int .i64 0] 31)
    rwa [World.size_alloc] at this
  case round =>
    obtain ⟨l, acc, rfl, hsize, HR, hown, hbk, hge, hbel⟩ := hrel
    have hls : l.size ≤ 4611686018427387904 := by omega
    have hl := len_list l
    by_cases hE : lkE l.data.toList = 0
    · by_cases hN : lkN l.data.toList = 0
      · have T : Hid (ff L = (acc, l.data.toList, 0)) := by show _ = _; rw [HR.out]; exact ahead_wait acc _ hE hN
        go_wp2_with fail
        refine (look_any l (by omega) _).mono ?_
        rintro e w2 ⟨rfl, hb2⟩
        rw [hE, hN]
        have s2 := hb2.size
        have hbk2 : w2.heap[w.heap.size + 1]? = _ := (hb2.block (w.heap.size + 1) (by omega)).trans hbk
        have hown2 := own_below hown hb2 (Nat.le_refl _)
        have hbel2 : Below w.heap.size w w2 := hbel.trans (hb2.mono (by omega))
        clear hb2 hown hbel hbk
        go_wp2_with fail
        have hl48 : l.size ≤ 281474976710656 := by have := HRs.out; rw [T.out] at this; simp only at this; omega
        refine (clone_any l hl48 _).mono ?_
        rintro e w3 ⟨rfl, hb3⟩
        have s3 := hb3.size
        have hbk3 : w3.heap[w.heap.size + 1]? = _ := (hb3.block (w.heap.size + 1) (by omega)).trans hbk2
        have hown3 := own_below hown2 hb3 (Nat.le_refl _)
        have hbel3 : Below w.heap.size w w3 := hbel2.trans (hb3.mono (by omega))
        clear hb3 hown2 hbel2 hbk2
        have c0 := block_cell hbk3 0
        have c1 := block_cell hbk3 1
        have f0 := block_free hbk3 0
        have f1 := block_free hbk3 1
        go_wp2_with fail
        obtain ⟨d0, d1, D, HB⟩ := stored (v0 := .string l) (v1 := .int .i64 0) hbk3 hown3 (by omega) (by omega) hbel3
        refine bodyPost_ret (v := .tuple #[.agg #[.string l, .int .i64 0], u8, .int .i64 0]) (by simp [results, Try.results13, go_sem, d0, d1]) rfl ⟨u8, ?_, ?_, HB⟩
        · rw [T.out]; rfl
        · rw [T.out]; exact D
      · have hC2 := (lkN_cases l.data.toList).resolve_left hN
        have hlk := lkN_le l.data.toList
        have HR2 : Hid (ff L = Frm.ahead (acc ++ [rd (l.data.toList.take (lkN l.data.toList))]) (ff (l.data.toList.drop (lkN l.data.toList)))) := by show _ = _; rw [HR.out]; exact ahead_one acc _ hN
        obtain ⟨n, HN⟩ : ∃ n, Hid (lkN l.data.toList = n) := ⟨_, rfl⟩
        have hacc : acc.length + 1 ≤ C := by
          rw [← HC.out, HR2.out]
          simp [Frm.ahead]
        rw [HN.out] at HR2 hC2 hlk
        have hn8 : 8 ≤ n := by omega
        have hnl : n ≤ l.size := by omega
        have hn1032 : n ≤ 1032 := by omega
        clear hN hC2
        have q0 : (0 : Int) ≤ (n : Int) := by omega
        have q1 : (n : Int) ≤ (l.size : Int) := by omega
        have q2 : ((n : Int) == 0) = false := by simp; omega
        have q3 : (l.extract 0 n).size = n := by simp; omega
        have HX : Hid ((l.extract 0 n).data.toList = l.data.toList.take n) := front_list l n
        have HY : Hid ((l.extract n l.size).data.toList = l.data.toList.drop n) := tail_list l n
        go_wp2_with fail
        refine (look_any l (by omega) _).mono ?_
        rintro e w2 ⟨rfl, hb2⟩
        rw [hE, HN.out]
        have s2 := hb2.size
        have hbk2 : w2.heap[w.heap.size + 1]? = _ := (hb2.block (w.heap.size + 1) (by omega)).trans hbk
        have hown2 := own_below hown hb2 (Nat.le_refl _)
        have hbel2 : Below w.heap.size w w2 := hbel.trans (hb2.mono (by omega))
        clear hb2 hown hbel hbk
        go_wp2_with fail
        refine (readfr_any (l.extract 0 n) (by omega) (by omega) _).mono ?_
        rintro e w3 ⟨rfl, hb3⟩
        rw [HX.out]
        have s3 := hb3.size
        have hbk3 : w3.heap[w.heap.size + 1]? = _ := (hb3.block (w.heap.size + 1) (by omega)).trans hbk2
        have hown3 := own_below hown2 hb3 (Nat.le_refl _)
        have hbel3 : Below w.heap.size w w3 := hbel2.trans (hb3.mono (by omega))
        clear hb3 hown2 hbel2 hbk2
        go_wp2_with (at_builtin; refine wpList_append_own _ rfl _ _ 32 rfl (w.heap.size + 2) 23 i0 (.agg #[.int .i64 0, .int .i64 0, .string ⟨#[]⟩]) 3 32 Try.underlying32 hi hz0 hz1 hz2 rfl (by decide) _ _ _ rfl (hown3.alloc _) ⟨w3.heap.size, 0, none⟩ 1 1 [.int .i64 (rd (l.data.toList.take n)).kind, .int .i64 (rd (l.data.toList.take n)).who, .string (rd (l.data.toList.take n)).body] rfl rfl (World.news_of_block (t := 23) (fr := (0, 0)) (heap_alloc_new w3 _)) (by simp [Value.oneCell']) (by unfold maxLen; omega) (by omega) (by simp; omega) ?_)
        intro v' w4 hown' hgrow _
        have s4 := hgrow.size
        rw [World.size_alloc] at s4
        have R1 : w4.ownsRow (w.heap.size + 2) 23 3 v' (acc ++ [rd (l.data.toList.take n)]).length (fcs (acc ++ [rd (l.data.toList.take n)])) := by rw [fcs_one_snoc, List.length_append]; exact hown'
        have R2 : w4.heap[w.heap.size + 1]? = some (.cells #[.string ⟨#[]⟩, .int .i64 0] 31 (0, 0)) := by
          rw [hgrow.block (w.heap.size + 1) (by rw [World.size_alloc]; omega) (fun e => by have := own_ge hown3 _ e.symm; omega)]
          rw [((Below.refl w3.heap.size w3).alloc (Nat.le_refl _) _).block (w.heap.size + 1) (by omega)]
          exact hbk3
        have R3 : Below w.heap.size w w4 := Below.grown (hbel3.alloc (by omega) _) hgrow (by simp; omega) (fun k hk => by have := own_ge hown3 k hk; omega)
        clear hown' hgrow hown3 hbel3 HR hbk3
        go_wp2_with fail
        go_roundw
        case rel => exact ⟨l.extract n l.size, acc ++ [rd (l.data.toList.take n)], rfl, by simp; omega, by show _ = _; rw [HY.out]; exact HR2.out, R1, R2, by omega, R3⟩
        case measure => simp [strLen]; omega
    · have T : Hid (ff L = (acc, [], lkE l.data.toList)) := by show _ = _; rw [HR.out]; exact ahead_bad acc _ hE
      have hb : (((lkE l.data.toList : Nat) : Int) == 0) = false := by simp; omega
      have hN := (lkN_cases l.data.toList).resolve_right (fun x => hE x.2.2.1)
      go_wp2_with fail
      refine (look_any l (by omega) _).mono ?_
      rintro e w2 ⟨rfl, hb2⟩
      rw [hN]
      have s2 := hb2.size
      have hbk2 : w2.heap[w.heap.size + 1]? = _ := (hb2.block (w.heap.size + 1) (by omega)).trans hbk
      have hown2 := own_below hown hb2 (Nat.le_refl _)
      have hbel2 : Below w.heap.size w w2 := hbel.trans (hb2.mono (by omega))
      clear hb2 hown hbel hbk
      have c0 := block_cell hbk2 0
      have c1 := block_cell hbk2 1
      have f0 := block_free hbk2 0
      have f1 := block_free hbk2 1
      go_wp2_with fail
      obtain ⟨d0, d1, D, HB⟩ := stored (v0 := .string ⟨#[]⟩) (v1 := .int .i64 ((lkE l.data.toList : Nat) : Int)) hbk2 hown2 (by omega) (by omega) hbel2
      refine bodyPost_ret (v := .tuple #[.agg #[.string ⟨#[]⟩, .int .i64 ((lkE l.data.toList : Nat) : Int)], u8, .int .i64 ((lkE l.data.toList : Nat) : Int)]) (by simp [results, Try.results13, go_sem, d0, d1]) rfl ⟨u8, ?_, ?_, HB⟩
      · rw [T.out]
      · rw [T.out]; exact D
theorem open_frs_wide {H : Type} {enc : TypeId × Value → H} {W : World} {v : Value} {d : DataW H} {p : List MemPlace} {r : Reach} {b0 : Nat} (hv : Value.okWide Try.prog W r b0 32 v) (h : DataW.Trod enc Try.prog W 0 (fun _ => true) true 32 v d p) :
    ∃ fs : List Fr, Frs W v fs ∧ (fs = [] ∨ ∃ el sp, d = .slice el sp ∧ el.length = fs.length) := by
  obtain ⟨a, len, cap, rfl⟩ := okWide_slice Try.underlying32 hv
  obtain ⟨fuel, hf⟩ := h
  rcases Go.Deep.open_slice Try.underlying32 hf with ⟨hcs, hx⟩ | ⟨a', len', cap', m, n, D, Pl, hcs, hb, hl, hm, hmm, hx, hel⟩
  · simp [Value.cells] at hcs
    obtain ⟨rfl, rfl, rfl⟩ := hcs
    exact ⟨[], frs_nil W, Or.inl rfl⟩
  · simp [Value.cells] at hcs
    obtain ⟨rfl, rfl, rfl⟩ := hcs
    simp only [if_true] at hmm
    subst hmm
    rw [cells23] at hel hx
    have hE : ∀ i, i < len → ∃ f : Fr, W.cell? ((a'.add (i * 3)).add 0) = some (.int .i64 f.kind) ∧ W.cell? ((a'.add (i * 3)).add 1) = some (.int .i64 f.who) ∧ W.cell? ((a'.add (i * 3)).add 2) = some (.string f.body) := by
      intro i hi
      obtain ⟨cs', hc, ht⟩ := hel i (by omega)
      obtain ⟨_, hlen, hat⟩ := World.cells?_some hc
      obtain ⟨y0, y1, y2, n', _, _, t0, t1, t2⟩ := Go.Deep.trod_struct3 Try.underlying23 ht
      simp only [cells3, cells9] at t0 t1 t2
      obtain ⟨k, e0, _, _⟩ := DataW.trod_int Try.underlying3 t0
      obtain ⟨wh, e1, _, _⟩ := DataW.trod_int Try.underlying3 t1
      obtain ⟨b, e2, _, _⟩ := DataW.trod_string Try.underlying9 t2
      match cs', hlen with
      | [x0, x1, x2], _ =>
        simp at e0 e1 e2
        subst e0 e1 e2
        exact ⟨⟨k, wh, b⟩, hat 0 (by omega), hat 1 (by omega), hat 2 (by omega)⟩
    haveI : Inhabited Fr := ⟨⟨0, 0, ByteArray.empty⟩⟩
    obtain ⟨F, hF⟩ := Go.Deep.choose_lt hE
    have hlen : ((List.range len).map F).length = len := by simp
    refine ⟨(List.range len).map F, ⟨some a', _, by rw [hlen], by rw [hlen]; unfold maxLen at hm; omega, ?_⟩, ?_⟩
    · by_cases h0 : len = 0
      · left; subst h0; simp
      · right
        obtain ⟨b, off, spot⟩ := a'
        have hspot : spot = none := by simpa [Addr.add] using World.cell?_spot (hF 0 (by omega)).1
        subst hspot
        have e : ∀ i j, ((⟨b, off, none⟩ : Addr).add (i * 3)).add j = ⟨b, off + i * 3 + j, none⟩ := fun i j => by rw [Go.WideShapes.add_plain, Go.WideShapes.add_plain]
        refine ⟨b, off, rfl, ?_, fun i hi => ?_⟩
        · rcases Nat.lt_or_ge b W.heap.size with h' | h'
          · exact h'
          · have := (hF 0 (by omega)).1
            rw [e] at this
            simp [World.cell?, Array.getElem?_eq_none h'] at this
        · rw [hlen] at hi
          have := hF i hi
          rw [e, e, e] at this
          simpa using this
    · have hd : d = .slice ((List.range len).map D) ((List.range (m - len)).map fun j => D (len + j)) := (Prod.ext_iff.1 hx).1
      exact Or.inr ⟨_, _, hd, by simp⟩
end Go.Proofs.Ytnheaafepejaoaa
