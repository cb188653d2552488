/-
  The contract of frame.Feed: for every inbox and every text that together have at most 2^44 bytes it answers what YtnheaafepejaoaaMath says, the frames in a slice of new memory; what was there stays.
-/
import Derived.Test.YtnheaafepejaoaaReads
import Derived.Test.YtnheaafepejaoaaOpens
namespace Go.Proofs.Ytnheaafepejaoaa
open Go.RowKit
open Frm Crc

theorem info23 : (Try.prog.info? 23).map (fun i => (i.zero, i.size, i.bytes)) = some (some (.agg #[.int .i64 0, .int .i64 0, .string ⟨#[]⟩]), 3, 32) := by kernel_rfl
theorem own_ge {w : World} {base e size n : Nat} {v : Value} {xs : List Value} (h : w.ownsRow base e size v n xs) : ∀ k, v.ownBlock = some k → base ≤ k := by
  intro k hk
  rcases h.2 with ⟨rfl, _⟩ | ⟨g, cap, cur, rfl, hg, _⟩
  · simp [Value.ownBlock] at hk
  · simp [Value.ownBlock] at hk; omega
theorem own_less {w : World} {base base' e size n : Nat} {v : Value} {xs : List Value} (h : w.ownsRow base e size v n xs) (hb : base' ≤ base) : w.ownsRow base' e size v n xs := by
  obtain ⟨h1, h2 | ⟨g, cap, cur, hv, hg, h3⟩⟩ := h
  · exact ⟨h1, Or.inl h2⟩
  · exact ⟨h1, Or.inr ⟨g, cap, cur, hv, by omega, h3⟩⟩
theorem own_below {w w' : World} {base e size n : Nat} {v : Value} {xs : List Value} (h : w.ownsRow base e size v n xs) {B : Nat} (hb : Below B w w') (hB : w.heap.size ≤ B) : w'.ownsRow base e size v n xs := by
  obtain ⟨h1, h2 | ⟨g, cap, cur, hv, hg, hh, h3⟩⟩ := h
  · exact ⟨h1, Or.inl h2⟩
  · refine ⟨h1, Or.inr ⟨g, cap, cur, hv, hg, ?_, h3⟩⟩
    have hlt : g < w.heap.size := by
      rcases Nat.lt_or_ge g w.heap.size with h' | h'
      · exact h'
      · rw [Array.getElem?_eq_none h'] at hh; cases hh
    rw [hb.block g (by omega)]; exact hh
theorem own_form {w : World} {base e size n : Nat} {v : Value} {xs : List Value} (h : w.ownsRow base e size v n xs) : ∃ ao m c, v = .slice ao m c := by
  rcases h.2 with ⟨hv, _⟩ | ⟨g, cap, cur, hv, _⟩
  · exact ⟨_, _, _, hv⟩
  · exact ⟨_, _, _, hv⟩
/-- How long a string is. -/
def strLen : Value → Nat
  | .string b => b.size
  | _ => 0
theorem fcs_one_snoc (acc : List Fr) (f : Fr) : fcs (acc ++ [f]) = fcs acc ++ [.int .i64 f.kind, .int .i64 f.who, .string f.body] := by rw [fcs_append]; rfl
theorem cell_two {w : World} {g : Nat} {x0 x1 : Value} {t : TypeId} (h : w.heap[g]? = some (.cells #[x0, x1] t (0, 0))) (v0 v1 : Value) :
    ((w.setCell ⟨g, 0, none⟩ v0).setCell ⟨g, 1, none⟩ v1).heap[g]? = some (.cells #[v0, v1] t (0, 0)) :=
  block_store (i := 1) (block_store (i := 0) h v0) v1

/-- The result is stored, and handed back. -/
theorem stored {w w3 : World} {g B : Nat} {x0 x1 v0 v1 : Value} {e size n : Nat} {v : Value} {xs : List Value} (hbk : w3.heap[g]? = some (.cells #[x0, x1] 31 (0, 0))) (hown : w3.ownsRow B e size v n xs) (hg : g < B) (hw : w.heap.size ≤ g) (hbel : Below w.heap.size w w3) :
    ((w3.setCell ⟨g, 0, none⟩ v0).setCell ⟨g, 1, none⟩ v1).cell? ⟨g, 0, none⟩ = some v0 ∧ ((w3.setCell ⟨g, 0, none⟩ v0).setCell ⟨g, 1, none⟩ v1).cell? ⟨g, 1, none⟩ = some v1 ∧
    ((w3.setCell ⟨g, 0, none⟩ v0).setCell ⟨g, 1, none⟩ v1).ownsRow w.heap.size e size v n xs ∧ Below w.heap.size w ((w3.setCell ⟨g, 0, none⟩ v0).setCell ⟨g, 1, none⟩ v1) := by
  have h2 := cell_two hbk v0 v1
  exact ⟨block_cell h2 0, block_cell h2 1, own_less (ownsRow_setCell_below (ownsRow_setCell_below hown (a := ⟨g, 0, none⟩) hg v0) (a := ⟨g, 1, none⟩) hg v1) (by omega), (hbel.setCell (p := ⟨g, 0, none⟩) hw v0).setCell (p := ⟨g, 1, none⟩) hw v1⟩

set_option maxHeartbeats 1600000 in
set_option maxRecDepth 20000 in
theorem feed_live (r s : ByteArray) (hsz : r.size + s.size ≤ 17592186044416) (w : World) :
    Calls Try.prog 13 #[.agg #[.string r, .int .i64 0], .string s] w fun e w' => ∃ v, e = .returned (.tuple #[.agg #[.string ⟨(ff (r.data.toList ++ s.data.toList)).2.1.toArray⟩, .int .i64 (((ff (r.data.toList ++ s.data.toList)).2.2 : Nat) : Int)], v, .int .i64 (((ff (r.data.toList ++ s.data.toList)).2.2 : Nat) : Int)]) ∧
      w'.ownsRow w.heap.size 23 3 v (ff (r.data.toList ++ s.data.toList)).1.length (fcs (ff (r.data.toList ++ s.data.toList)).1) ∧ Below w.heap.size w w' := by
  obtain ⟨i0, hi, hz0, hz1, hz2⟩ := info_parts info23
  obtain ⟨L, HL⟩ : ∃ L, Hid (L = r.data.toList ++ s.data.toList) := ⟨_, rfl⟩
  have hlen : L.length = r.size + s.size := by rw [HL.out, List.length_append, len_list, len_list]
  rw [← HL.out]
  have hadd : r.size + s.size ≤ 9223372036854775807 := by omega
  have HA : Hid ((r ++ s).data.toList = L) := by show _ = _; rw [HL.out]; simp
  have hrs : (r ++ s).size = r.size + s.size := by simp
  clear HL
  go_enter Try.func13, Try.ntmps13
  go_wp2_with fail
  go_loopw [7, 8] (fun t v wr => ∃ (l : ByteArray) (acc : List Fr), t = .string l ∧ l.size + 8 * acc.length ≤ r.size + s.size ∧ Hid (ff L = Frm.ahead acc (ff l.data.toList)) ∧ wr.ownsRow (w.heap.size + 2) 23 3 v acc.length (fcs acc) ∧ wr.heap[w.heap.size + 1]? = some (.cells #[.string ⟨#[]⟩, .int .i64 0] 31 (0, 0)) ∧ w.heap.size + 2 ≤ wr.heap.size ∧ Below w.heap.size w wr) (fun t _ _ => strLen t)
  case atStart =>
    refine ⟨r ++ s, [], rfl, by simp, by show _ = _; rw [HA.out, ahead_nil], World.ownsRow_nil _ _ _ _, ?_, by simp, ((Below.refl _ w).alloc (Nat.le_refl _) _).alloc (by simp) _⟩
    have := heap_alloc_new (w.alloc (Obj.cells #[.string r, .int .i64 0] 31)) (Obj.cells #[.string ⟨#[]⟩, .int .i64 0] 31)
    rwa [World.size_alloc] at this
  case round =>
    obtain ⟨l, acc, rfl, hsize, HR, hown, hbk, hge, hbel⟩ := hrel
    have hls : l.size ≤ 17592186044416 := by omega
    have hl := len_list l
    by_cases hE : lkE l.data.toList = 0
    · by_cases hN : lkN l.data.toList = 0
      · have T : Hid (ff L = (acc, l.data.toList, 0)) := by show _ = _; rw [HR.out]; exact ahead_wait acc _ hE hN
        go_wp2_with fail
        refine (look_any l (by omega) _).mono ?_
        rintro e w2 ⟨rfl, hb2⟩
        rw [hE, hN]
        have s2 := hb2.size
        have hbk2 : w2.heap[w.heap.size + 1]? = _ := (hb2.block (w.heap.size + 1) (by omega)).trans hbk
        have hown2 := own_below hown hb2 (Nat.le_refl _)
        have hbel2 : Below w.heap.size w w2 := hbel.trans (hb2.mono (by omega))
        clear hb2 hown hbel hbk
        go_wp2_with fail
        refine (clone_any l (by omega) _).mono ?_
        rintro e w3 ⟨rfl, hb3⟩
        have s3 := hb3.size
        have hbk3 : w3.heap[w.heap.size + 1]? = _ := (hb3.block (w.heap.size + 1) (by omega)).trans hbk2
        have hown3 := own_below hown2 hb3 (Nat.le_refl _)
        have hbel3 : Below w.heap.size w w3 := hbel2.trans (hb3.mono (by omega))
        clear hb3 hown2 hbel2 hbk2
        have c0 := block_cell hbk3 0
        have c1 := block_cell hbk3 1
        have f0 := block_free hbk3 0
        have f1 := block_free hbk3 1
        go_wp2_with fail
        obtain ⟨d0, d1, D, HB⟩ := stored (v0 := .string l) (v1 := .int .i64 0) hbk3 hown3 (by omega) (by omega) hbel3
        refine bodyPost_ret (v := .tuple #[.agg #[.string l, .int .i64 0], u8, .int .i64 0]) (by simp [results, Try.results13, go_sem, d0, d1]) rfl ⟨u8, ?_, ?_, HB⟩
        · rw [T.out]; rfl
        · rw [T.out]; exact D
      · have hC := (lkN_cases l.data.toList).resolve_left hN
        have hlk := lkN_le l.data.toList
        have HR2 : Hid (ff L = Frm.ahead (acc ++ [rd (l.data.toList.take (lkN l.data.toList))]) (ff (l.data.toList.drop (lkN l.data.toList)))) := by show _ = _; rw [HR.out]; exact ahead_one acc _ hN
        obtain ⟨n, HN⟩ : ∃ n, Hid (lkN l.data.toList = n) := ⟨_, rfl⟩
        rw [HN.out] at HR2 hC hlk
        have hn8 : 8 ≤ n := by omega
        have hnl : n ≤ l.size := by omega
        clear hN hC
        have q0 : (0 : Int) ≤ (n : Int) := by omega
        have q1 : (n : Int) ≤ (l.size : Int) := by omega
        have q2 : ((n : Int) == 0) = false := by simp; omega
        have q3 : (l.extract 0 n).size = n := by simp; omega
        have HX : Hid ((l.extract 0 n).data.toList = l.data.toList.take n) := front_list l n
        have HY : Hid ((l.extract n l.size).data.toList = l.data.toList.drop n) := tail_list l n
        go_wp2_with fail
        refine (look_any l (by omega) _).mono ?_
        rintro e w2 ⟨rfl, hb2⟩
        rw [hE, HN.out]
        have s2 := hb2.size
        have hbk2 : w2.heap[w.heap.size + 1]? = _ := (hb2.block (w.heap.size + 1) (by omega)).trans hbk
        have hown2 := own_below hown hb2 (Nat.le_refl _)
        have hbel2 : Below w.heap.size w w2 := hbel.trans (hb2.mono (by omega))
        clear hb2 hown hbel hbk
        go_wp2_with fail
        refine (readfr_any (l.extract 0 n) (by omega) (by omega) _).mono ?_
        rintro e w3 ⟨rfl, hb3⟩
        rw [HX.out]
        have s3 := hb3.size
        have hbk3 : w3.heap[w.heap.size + 1]? = _ := (hb3.block (w.heap.size + 1) (by omega)).trans hbk2
        have hown3 := own_below hown2 hb3 (Nat.le_refl _)
        have hbel3 : Below w.heap.size w w3 := hbel2.trans (hb3.mono (by omega))
        clear hb3 hown2 hbel2 hbk2
        go_wp2_with (at_builtin; refine wpList_append_own _ rfl _ _ 32 rfl (w.heap.size + 2) 23 i0 (.agg #[.int .i64 0, .int .i64 0, .string ⟨#[]⟩]) 3 32 Try.underlying32 hi hz0 hz1 hz2 rfl (by decide) _ _ _ rfl (hown3.alloc _) ⟨w3.heap.size, 0, none⟩ 1 1 [.int .i64 (rd (l.data.toList.take n)).kind, .int .i64 (rd (l.data.toList.take n)).who, .string (rd (l.data.toList.take n)).body] rfl rfl (World.news_of_block (t := 23) (fr := (0, 0)) (heap_alloc_new w3 _)) (by simp [Value.oneCell']) (by unfold maxLen; omega) (by omega) (by simp; omega) ?_)
        intro v' w4 hown' hgrow _
        have s4 := hgrow.size
        rw [World.size_alloc] at s4
        have R1 : w4.ownsRow (w.heap.size + 2) 23 3 v' (acc ++ [rd (l.data.toList.take n)]).length (fcs (acc ++ [rd (l.data.toList.take n)])) := by rw [fcs_one_snoc, List.length_append]; exact hown'
        have R2 : w4.heap[w.heap.size + 1]? = some (.cells #[.string ⟨#[]⟩, .int .i64 0] 31 (0, 0)) := by
          rw [hgrow.block (w.heap.size + 1) (by rw [World.size_alloc]; omega) (fun e => by have := own_ge hown3 _ e.symm; omega)]
          rw [((Below.refl w3.heap.size w3).alloc (Nat.le_refl _) _).block (w.heap.size + 1) (by omega)]
          exact hbk3
        have R3 : Below w.heap.size w w4 := Below.grown (hbel3.alloc (by omega) _) hgrow (by simp; omega) (fun k hk => by have := own_ge hown3 k hk; omega)
        clear hown' hgrow hown3 hbel3 HR hbk3
        go_wp2_with fail
        go_roundw
        case rel => exact ⟨l.extract n l.size, acc ++ [rd (l.data.toList.take n)], rfl, by simp; omega, by show _ = _; rw [HY.out]; exact HR2.out, R1, R2, by omega, R3⟩
        case measure => simp [strLen]; omega
    · have T : Hid (ff L = (acc, [], lkE l.data.toList)) := by show _ = _; rw [HR.out]; exact ahead_bad acc _ hE
      have hb : (((lkE l.data.toList : Nat) : Int) == 0) = false := by simp; omega
      have hN := (lkN_cases l.data.toList).resolve_right (fun x => hE x.2.2.1)
      go_wp2_with fail
      refine (look_any l (by omega) _).mono ?_
      rintro e w2 ⟨rfl, hb2⟩
      rw [hN]
      have s2 := hb2.size
      have hbk2 : w2.heap[w.heap.size + 1]? = _ := (hb2.block (w.heap.size + 1) (by omega)).trans hbk
      have hown2 := own_below hown hb2 (Nat.le_refl _)
      have hbel2 : Below w.heap.size w w2 := hbel.trans (hb2.mono (by omega))
      clear hb2 hown hbel hbk
      have c0 := block_cell hbk2 0
      have c1 := block_cell hbk2 1
      have f0 := block_free hbk2 0
      have f1 := block_free hbk2 1
      go_wp2_with fail
      obtain ⟨d0, d1, D, HB⟩ := stored (v0 := .string ⟨#[]⟩) (v1 := .int .i64 ((lkE l.data.toList : Nat) : Int)) hbk2 hown2 (by omega) (by omega) hbel2
      refine bodyPost_ret (v := .tuple #[.agg #[.string ⟨#[]⟩, .int .i64 ((lkE l.data.toList : Nat) : Int)], u8, .int .i64 ((lkE l.data.toList : Nat) : Int)]) (by simp [results, Try.results13, go_sem, d0, d1]) rfl ⟨u8, ?_, ?_, HB⟩
      · rw [T.out]
      · rw [T.out]; exact D
end Go.Proofs.Ytnheaafepejaoaa
