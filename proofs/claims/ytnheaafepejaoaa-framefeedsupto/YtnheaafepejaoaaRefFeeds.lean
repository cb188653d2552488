/-
  The contract of pushref.Feed: for every text of at most 2^44 bytes it answers what YtnheaafepejaoaaMath says, the frames in a slice of new memory; what was there stays.
-/
import Derived.Test.YtnheaafepejaoaaFeeds
import Derived.Deep.DrawnRows
namespace Go.Proofs.Ytnheaafepejaoaa
open Go.RowKit
open Frm Crc

theorem ref_len (s : ByteArray) (h2 : 2 < s.size) (h3 : 3 < s.size) : wrap64 (wrap64 ((s[3].toNat : Int) * 256) + (s[2].toNat : Int)) = ((bl s.data.toList : Nat) : Int) := by
  have b2 := s[2].toNat_lt
  have b3 := s[3].toNat_lt
  unfold bl
  rw [← at_list s 2 h2, ← at_list s 3 h3]
  unfold wrap64
  omega
theorem own_drewN {w : World} {base e size n : Nat} {v : Value} {xs : List Value} (h : w.ownsRow base e size v n xs) (q : Nat) : (w.drewN q).ownsRow base e size v n xs := h

theorem rd_ref (l : ByteArray) (n : Nat) (h0 : 0 < l.size) (h1 : 1 < l.size) (h : 8 + n ≤ l.size) : rd (l.data.toList.take (8 + n)) = ⟨(l[0].toNat : Int), (l[1].toNat : Int), l.extract 4 (4 + n)⟩ := by
  have hl := len_list l
  have g : ∀ i, i < 8 + n → (l.data.toList.take (8 + n)).getD i 0 = l.data.toList.getD i 0 := fun i hi => by simp [List.getD, List.getElem?_take_of_lt hi]
  unfold rd
  rw [g 0 (by omega), g 1 (by omega), at_list l 0 h0, at_list l 1 h1]
  congr 1
  apply ByteArray.ext
  apply Array.ext'
  rw [ext_list, List.length_take, Nat.min_eq_left (by omega), show 8 + n - 8 = n by omega, List.drop_take, List.take_take, Nat.min_eq_left (by omega)]

set_option maxHeartbeats 1600000 in
set_option maxRecDepth 20000 in
theorem refeed_any (s : ByteArray) (hsz : s.size ≤ 17592186044416) (w : World) :
    Calls Try.prog 14 #[.string s] w fun e w' => ∃ v, e = .returned (.tuple #[v, .string ⟨(ff s.data.toList).2.1.toArray⟩, .int .i64 (((ff s.data.toList).2.2 : Nat) : Int)]) ∧
      w'.ownsRow w.heap.size 23 3 v (ff s.data.toList).1.length (fcs (ff s.data.toList).1) ∧ Below w.heap.size w w' := by
  obtain ⟨i0, hi, hz0, hz1, hz2⟩ := info_parts info23
  obtain ⟨L, HL⟩ : ∃ L, Hid (s.data.toList = L) := ⟨_, rfl⟩
  rw [HL.out]
  go_enter Try.func14, Try.ntmps14
  go_wp2_with fail
  go_loopw [0, 2] (fun t v wr => ∃ (l : ByteArray) (acc : List Fr), t = .string l ∧ l.size + 8 * acc.length ≤ s.size ∧ Hid (ff L = Frm.ahead acc (ff l.data.toList)) ∧ wr.ownsRow w.heap.size 23 3 v acc.length (fcs acc) ∧ Below w.heap.size w wr) (fun t _ _ => strLen t)
  case atStart => exact ⟨s, [], rfl, by simp, by show _ = _; rw [HL.out, ahead_nil], World.ownsRow_nil _ _ _ _, Below.refl _ _⟩
  case round =>
    obtain ⟨l, acc, rfl, hsize, HR, hown, hbel⟩ := hrel
    have hls : l.size ≤ 17592186044416 := by omega
    have hl := len_list l
    have hsb := hbel.size
    by_cases h0 : 0 < l.size
    · have e0 := at_list l 0 h0
      have i1 : (1 : Int) ≤ (l.size : Int) := by omega
      by_cases hk : okk l.data.toList
      · have hk2 := hk (by omega)
        rw [← e0] at hk2
        have k1 : ((l[0].toNat : Int) == 0) = false := by simp; omega
        have k2 : (l[0].toNat : Int) ≤ 9 := by omega
        by_cases h4 : 4 ≤ l.size
        · have i4 : (4 : Int) ≤ (l.size : Int) := by omega
          have hw2 := wrap64_byte l[2]
          have hw3 := wrap64_byte l[3]
          have i3 : (3 : Int) < (l.size : Int) := by omega
          have i2 : (2 : Int) < (l.size : Int) := by omega
          have i3' : 3 < l.size := by omega
          have i2' : 2 < l.size := by omega
          clear e0 hk2
          go_wp2_with fail
          go_quiet (fail)
          rw [ref_len l i2' i3']
          have hown1 := own_drewN hown nq
          have hbel1 : Below w.heap.size w (wr.drewN nq) := hbel.trans (Go.Joins.below_draws _ _ _)
          have hsb1 := hbel1.size
          generalize wr.drewN nq = w1 at hown1 hbel1 hsb1 ⊢
          clear hown hbel hw2 hw3 hsb
          obtain ⟨n, HN⟩ : ∃ n, Hid (n = bl l.data.toList) := ⟨_, rfl⟩
          have HM := HN.out
          rw [← HM]
          by_cases h5 : n ≤ 1024
          · by_cases h6 : 8 + n ≤ l.size
            · have j5 : (n : Int) ≤ 1024 := by omega
              have j6 : 8 + (n : Int) ≤ (l.size : Int) := by omega
              have j7 : 0 ≤ (n : Int) := by omega
              have j8 : 4 + (n : Int) ≤ (l.size : Int) := by omega
              have j9 : (0 : Int) ≤ 4 + (n : Int) := by omega
              have j10 : 4 + (n : Int) ≤ 8 + (n : Int) := by omega
              have hT4 : (4 + (n : Int)).toNat = 4 + n := by omega
              have hT8 : (8 + (n : Int)).toNat = 8 + n := by omega
              have hW4 : IntKind.i64.wrap (4 + (n : Int)) = 4 + (n : Int) := wrap_i64 (4 + n) (by omega)
              have hW8 : IntKind.i64.wrap (8 + (n : Int)) = 8 + (n : Int) := wrap_i64 (8 + n) (by omega)
              have HX : (l.extract (4 + n) (8 + n)).toList = (l.data.toList.drop (4 + n)).take 4 := by rw [list_data, show 8 + n = 4 + n + 4 by omega, ext_list]
              have HF : Hid ((l.extract 0 (4 + n)).data.toList = l.data.toList.take (4 + n)) := front_list l (4 + n)
              have hes : (l.extract 0 (4 + n)).size ≤ 9223372036854775807 := by simp; omega
              by_cases h7 : tail (l.data.toList.take (4 + n)) = (l.data.toList.drop (4 + n)).take 4
              · obtain ⟨t1, t2⟩ := lk_whole l.data.toList hk (by omega) (by omega) (by omega) (by rw [← HM]; exact h7)
                rw [← HM] at t2
                have HR2 : Hid (ff L = Frm.ahead (acc ++ [Fr.mk (l[0].toNat : Int) (l[1].toNat : Int) (l.extract 4 (4 + n))]) (ff (l.data.toList.drop (8 + n)))) := by
                  show _ = _
                  rw [HR.out, ahead_one acc _ (by omega), t2, rd_ref l n (by omega) (by omega) (by omega)]
                have HY : Hid ((l.extract (8 + n) l.size).data.toList = l.data.toList.drop (8 + n)) := tail_list l (8 + n)
                have hq : (le 4 (more 0 (l.data.toList.take (4 + n))) == (l.extract (4 + n) (8 + n)).toList) = true := by rw [HX]; simpa [tail] using h7
                have hv0 : IntKind.i64.wrap (l[0].toNat : Int) = (l[0].toNat : Int) := wrap_i64 _ (by have := l[0].toNat_lt; omega)
                have hv1 : IntKind.i64.wrap (l[1].toNat : Int) = (l[1].toNat : Int) := wrap_i64 _ (by have := l[1].toNat_lt; omega)
                have j11 : (4 : Int) ≤ 4 + (n : Int) := by omega
                have j12 : (1 : Int) < (l.size : Int) := by omega
                have j13 : (0 : Int) ≤ 8 + (n : Int) := by omega
                clear t1 t2 HM HX h7 HR
                go_wp2_with fail
                go_region_with ((first | (go_at_call 20; refine (ref_any 0 _ (by omega) (by first | assumption | (simp; omega)) _).mono ?_; rintro e w' ⟨rfl, hw'⟩; subst hw') | (go_at_call 19; refine (four_any _ (more_lt (by omega) _) _).mono ?_; rintro e w' ⟨rfl, hbel2⟩)))
                all_goals
                  have B2 : Below w.heap.size w w' := (hbel1.drew).trans (hbel2.mono (by simp; omega))
                  have O2 := own_below (w := w1.drew) hown1 hbel2 (Nat.le_refl _)
                  have s2 := B2.size
                  clear hbel2 hown1
                  go_wp2_with fail
                  go_region_held3 (fun _ => True) (trivial) ((refine step_append_lies _ (by rfl) _ _ _ (by rfl) w.heap.size 23 i0 _ 3 32 Try.underlying32 hi hz0 hz1 hz2 rfl (by omega) _ acc.length _ (by rfl) ((O2.alloc _).drew) ⟨w'.heap.size, 0, none⟩ 1 1 [.int .i64 (l[0].toNat : Int), .int .i64 ((l[1]'(by omega)).toNat : Int), .string (l.extract 4 (4 + n))] (by rfl) (by rfl) (World.news_of_block (t := 23) (fr := (0, 0)) (heap_alloc_new w' _)) (by simp [Value.oneCell']) (by omega) (by unfold maxLen; omega) (by omega) (by simp; omega) (w'.heap.size + 1) (by simp) ?_; intro gg cap w3 hown3 hgrow hat hlt3))
                  all_goals
                    have R1 : w3.ownsRow w.heap.size 23 3 (.slice (some ⟨gg, 0, none⟩) (acc.length + 1) cap) (acc ++ [Fr.mk (l[0].toNat : Int) (l[1].toNat : Int) (l.extract 4 (4 + n))]).length (fcs (acc ++ [Fr.mk (l[0].toNat : Int) (l[1].toNat : Int) (l.extract 4 (4 + n))])) := by rw [fcs_one_snoc, List.length_append]; exact hown3
                    have R3 : Below w.heap.size w w3 := Below.grown ((B2.alloc (by omega) _).drew) hgrow (by simp; omega) (own_ge O2)
                    clear hown3 hgrow O2 B2 hat
                    go_wp2_with fail
                    go_roundw
                    case rel => exact ⟨l.extract (8 + n) l.size, acc ++ [Fr.mk (l[0].toNat : Int) (l[1].toNat : Int) (l.extract 4 (4 + n))], rfl, by simp; omega, by show _ = _; rw [HY.out]; exact HR2.out, R1, R3⟩
                    case measure => simp [strLen]; omega
              · obtain ⟨t1, t2⟩ := lk_sum l.data.toList hk (by omega) (by omega) (by omega) (by rw [← HM]; exact h7)
                have T : Hid (ff L = (acc, [], 5)) := by show _ = _; rw [HR.out, ahead_bad acc _ (by omega), t1]
                have hq : (le 4 (more 0 (l.data.toList.take (4 + n))) == (l.extract (4 + n) (8 + n)).toList) = false := by rw [HX]; simpa [tail] using h7
                clear t1 t2 HM HX h7
                go_wp2_with fail
                go_region_with ((first | (go_at_call 20; refine (ref_any 0 _ (by omega) (by first | assumption | (simp; omega)) _).mono ?_; rintro e w' ⟨rfl, hw'⟩; subst hw') | (go_at_call 19; refine (four_any _ (more_lt (by omega) _) _).mono ?_; rintro e w' ⟨rfl, hbel2⟩)))
                all_goals
                  have B2 : Below w.heap.size w w' := (hbel1.drew).trans (hbel2.mono (by simp; omega))
                  have O2 := own_below (w := w1.drew) hown1 hbel2 (Nat.le_refl _)
                  clear hbel2 hown1
                  go_wp2_with fail
                  go_ret3
                  exact ⟨_, by rw [T.out]; rfl, by rw [T.out]; exact O2, B2⟩
            · obtain ⟨t1, t2⟩ := lk_short l.data.toList hk (by omega) (by omega) (by omega)
              have T : Hid (ff L = (acc, l.data.toList, 0)) := by show _ = _; rw [HR.out]; exact ahead_wait acc _ t1 t2
              clear t1 t2 HM
              have j5 : (n : Int) ≤ 1024 := by omega
              have j6 : (l.size : Int) < 8 + (n : Int) := by omega
              go_wp2_with fail
              go_ret3
              exact ⟨_, by rw [T.out]; rfl, by rw [T.out]; exact hown1, hbel1⟩
          · obtain ⟨t1, t2⟩ := lk_large l.data.toList hk (by omega) (by omega)
            have T : Hid (ff L = (acc, [], 2)) := by show _ = _; rw [HR.out, ahead_bad acc _ (by omega), t1]
            clear t1 t2 HM
            have j5 : (1024 : Int) < (n : Int) := by omega
            go_wp2_with fail
            go_ret3
            exact ⟨_, by rw [T.out]; rfl, by rw [T.out]; exact hown1, hbel1⟩
        · obtain ⟨t1, t2⟩ := lk_few _ hk (by omega)
          have T : Hid (ff L = (acc, l.data.toList, 0)) := by show _ = _; rw [HR.out]; exact ahead_wait acc _ t1 t2
          have i4 : (l.size : Int) < 4 := by omega
          clear t1 t2 e0 hk2
          go_wp2_with fail
          go_ret3
          exact ⟨_, by rw [T.out]; rfl, by rw [T.out]; exact hown, hbel⟩
      · obtain ⟨t1, t2⟩ := lk_kind _ hk
        have T : Hid (ff L = (acc, [], 1)) := by show _ = _; rw [HR.out, ahead_bad acc _ (by omega), t1]
        clear t1 t2
        by_cases hz : l[0].toNat = 0
        · have k1 : ((l[0].toNat : Int) == 0) = true := by simp [hz]
          clear hz e0
          go_wp2_with fail
          go_ret3
          exact ⟨_, by rw [T.out]; rfl, by rw [T.out]; exact hown, hbel⟩
        · have k1 : ((l[0].toNat : Int) == 0) = false := by simp; omega
          have k2 : (9 : Int) < (l[0].toNat : Int) := by
            rcases Nat.lt_or_ge 9 l[0].toNat with h9 | h9
            · omega
            · exact absurd (fun _ => by rw [← e0]; omega) hk
          clear hz e0
          go_wp2_with fail
          go_ret3
          exact ⟨_, by rw [T.out]; rfl, by rw [T.out]; exact hown, hbel⟩
    · obtain ⟨t1, t2⟩ := lk_few l.data.toList (fun x => by omega) (by omega)
      have T : Hid (ff L = (acc, l.data.toList, 0)) := by show _ = _; rw [HR.out]; exact ahead_wait acc _ t1 t2
      have hz : l.size = 0 := by omega
      clear t1 t2
      go_wp2_with fail
      go_ret3
      exact ⟨_, by rw [T.out]; rfl, by rw [T.out]; exact hown, hbel⟩
end Go.Proofs.Ytnheaafepejaoaa
