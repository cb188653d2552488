/-
  The contract of plan.leads: is there a way by all of the text from the first step to the end?
-/
import Derived.Test.YtdnagboonjcehaaSpots
import Derived.Laws.AppendOwnNone
namespace Go.Proofs.Ytdnagboonjcehaa
open Go.RowKit
open Go.Maps
open Cls Rex

/-- What leads' loop keeps. -/
structure LD (F : List St) (f0 en : Nat) (s : ByteArray) (w : World) (g cap : Nat) (S W : List (Nat × Nat)) (D : DataW Unit) (wr : World) : Prop where
  own : wr.ownsRow w.heap.size 62 2 (.slice (some ⟨g, 0, none⟩) W.length cap) W.length (sp W)
  map : wr.ownsMap Try.prog 62 unitElem w.heap.size S.length D
  seen : Seen D S
  srch : Srch F en s (f0, 0) S W
  below : Below w.heap.size w wr
  hi : w.heap.size < wr.heap.size
  ne : g ≠ w.heap.size
/-- .. with what is left to do. -/
def LDm (F : List St) (f0 en : Nat) (s : ByteArray) (w : World) (v : Value) (wr : World) (m : Nat) : Prop := ∃ g cap S W D, v = .slice (some ⟨g, 0, none⟩) W.length cap ∧ m = 3 * (F.length * (s.size + 1) - S.length) + W.length ∧ LD F f0 en s w g cap S W D wr
theorem cell_grown' {W W' : World} {row : Option Nat} {b o : Nat} {v : Value} (h : W.cell? ⟨b, o, none⟩ = some v) (hg : W.grownBy W' row) (hne : some b ≠ row) : W'.cell? ⟨b, o, none⟩ = some v :=
  (hg.cell_far ⟨b, o, none⟩ (World.block_lt_of_cell? W ⟨b, o, none⟩ h) hne).trans h
theorem row_below {W W' : World} {B g n cap : Nat} {xs : List Value} (h : W.ownsRow B 62 2 (.slice (some ⟨g, 0, none⟩) n cap) n xs) (hb : Below W.heap.size W W') : W'.ownsRow B 62 2 (.slice (some ⟨g, 0, none⟩) n cap) n xs := by
  refine ⟨h.1, h.2.imp id ?_⟩
  rintro ⟨g', cap', cur, h1, h2, h3, h4⟩
  exact ⟨g', cap', cur, h1, h2, blk_next hb h3, h4⟩
theorem map_below {W W' : World} {M n : Nat} {D : DataW Unit} (h : W.ownsMap Try.prog 62 unitElem M n D) (hb : Below W.heap.size W W') : W'.ownsMap Try.prog 62 unitElem M n D :=
  h.kept (row := none) ⟨hb.os, hb.tape, hb.output, hb.size, fun k hk _ => hb.block k hk⟩ (by simp)
theorem sp_one (l : List (Nat × Nat)) : ∀ x ∈ sp l, x.oneCell' = true := fun x hx => by
  simp only [sp, List.mem_flatMap, List.mem_cons, List.not_mem_nil, or_false] at hx
  obtain ⟨q, _, rfl | rfl⟩ := hx <;> rfl
theorem Pl.nums {B pp : Nat} {f e : Value} {ps : List St} {W : World} (h : Pl B pp f e ps W) : W.cell? ⟨pp, 1, none⟩ = some f ∧ W.cell? ⟨pp, 2, none⟩ = some e := by
  obtain ⟨sv, qs, h1, _⟩ := h
  exact ⟨by simp [World.cell?, h1], by simp [World.cell?, h1]⟩
theorem sp_last (W0 : List (Nat × Nat)) (u : Nat × Nat) : (sp (W0 ++ [u]))[W0.length * 2]? = some (.int .i64 (u.1 : Int)) ∧ (sp (W0 ++ [u]))[W0.length * 2 + 1]? = some (.int .i64 (u.2 : Int)) := by
  have h := sp_len W0
  rw [sp_append, List.getElem?_append_right (by omega), List.getElem?_append_right (by omega)]
  have e1 : W0.length * 2 - (sp W0).length = 0 := by omega
  have e2 : W0.length * 2 + 1 - (sp W0).length = 1 := by omega
  rw [e1, e2]
  simp [sp]

set_option maxHeartbeats 4000000 in
set_option maxRecDepth 20000 in
theorem leads_any (B pp f0 en : Nat) (F : List St) (s : ByteArray) (w : World) (hP : Pl B pp (.int .i64 (f0 : Int)) (.int .i64 (en : Int)) F w) (hF : Fine F) (hlen : F.length ≤ 201) (hs : s.size ≤ 200) (hf : f0 < F.length) :
    Calls Try.prog 20 #[.pointer (some ⟨pp, 0, none⟩), .string s] w fun e' w' => ∃ b, e' = .returned (.bool b) ∧ (b = true ↔ Acc F en s.data.toList f0 0) ∧ Below w.heap.size w w' := by
  have HP : Hid (Pl B pp (.int .i64 (f0 : Int)) (.int .i64 (en : Int)) F w ∧ Fine F) := ⟨hP, hF⟩
  obtain ⟨c1, c2⟩ := hP.nums
  have hmm := @run_makeMap Try.prog
  obtain ⟨i0, hi, hz0, hz1, hz2⟩ := info_parts info62
  have hpp := World.block_lt_of_cell? _ _ c1
  simp only at hpp
  clear hP hF
  go_enter Try.func20, Try.ntmps20
  go_wp2_with fail
  go_loopw [6] (fun v6 wr => ∃ m, LDm F f0 en s w v6 wr m) (fun v6 wr => leastOf (LDm F f0 en s w v6 wr))
  case atStart =>
    refine ⟨_, w.heap.size + 1, 1, [], [(f0, 0)], .map [], rfl, rfl, ⟨?_, ?_, Seen.none, Srch.init ⟨hf, Nat.zero_le _⟩, ?_, by simp; omega, by omega⟩⟩
    · refine ⟨rfl, Or.inr ⟨w.heap.size + 1, 1, #[.int .i64 (f0 : Int), .int .i64 0], rfl, by omega, ?_, Nat.le_refl _, by unfold maxLen; omega, rfl, rfl⟩⟩
      have h := block_new (w.alloc (.map #[] 0)) (.cells #[.int .i64 (f0 : Int), .int .i64 0] 62)
      have e : (w.alloc (.map #[] 0)).heap.size = w.heap.size + 1 := by simp
      rw [e] at h; exact h
    · exact (World.ownsMap_made w Try.prog 62 (unitElem (H := Unit))).alloc _
    · exact ((Below.refl _ w).alloc (Nat.le_refl _) _).alloc (by simp) _
  case round =>
    obtain ⟨g, cap, S, W, D, rfl, HM, HR⟩ := leastOf_holds hrel
    have hcases : W = [] ∨ ∃ W0 u, W = W0 ++ [u] := by
      rcases List.eq_nil_or_concat W with h | ⟨W0, u, h⟩
      · exact Or.inl h
      · exact Or.inr ⟨W0, u, by rw [h, List.concat_eq_append]⟩
    rcases hcases with rfl | ⟨W0, u, rfl⟩
    · go_wp2_with fail
      go_ret
      exact ⟨false, rfl, by simpa using HR.srch.gone, HR.below⟩
    · have hlk : (W0 ++ [u]).length = W0.length + 1 := by simp
      rw [hlk] at HM ⊢
      have hown := HR.own
      rw [hlk] at hown
      have HRH : Hid (LD F f0 en s w g cap S (W0 ++ [u]) D wr) := HR
      have HOWN : Hid (wr.ownsRow w.heap.size 62 2 (.slice (some ⟨g, 0, none⟩) (W0.length + 1) cap) (W0.length + 1) (sp (W0 ++ [u]))) := hown
      have q0 := (HOWN.out.cellAt (W0.length * 2) (by omega)).trans (sp_last W0 u).1
      have q1 := (HOWN.out.cellAt (W0.length * 2 + 1) (by omega)).trans (sp_last W0 u).2
      have huk := HR.srch.okW u (by simp)
      obtain ⟨hu1, hu2⟩ := huk
      obtain ⟨kl, hkey⟩ := key62 u (by omega) (by omega)
      have HK : Hid (keyOf Try.prog 62 (.agg #[.int .i64 (u.1 : Int), .int .i64 (u.2 : Int)]) = some kl) := hkey
      have hsm := HR.srch.small
      have hwl := HR.srch.len
      rw [hlk] at hwl
      have hbig : F.length * (s.size + 1) ≤ 201 * 201 := Nat.mul_le_mul hlen (by omega)
      have HMM : Hid (leastOf (LDm F f0 en s w (.slice (some ⟨g, 0, none⟩) (W0.length + 1) cap) wr) = 3 * (F.length * (s.size + 1) - S.length) + (W0.length + 1)) := HM
      have hwr := HR.below.size
      have hcap : W0.length + 1 ≤ cap := by
        rcases hown.2 with ⟨h, _⟩ | ⟨g', c', cur, h, _, _, h2, _⟩
        · cases h
        · simp only [Value.slice.injEq] at h
          omega
      have HF0 : Hid (wr.ownsRow w.heap.size 62 2 (.slice (some ⟨g, 0, none⟩) W0.length cap) W0.length (sp W0)) := by
        have h := hown
        rw [sp_append] at h
        exact own_front h (sp_len W0) (by omega)
      clear hkey HR hown HM hrel hlk
      obtain ⟨k, HKL⟩ : ∃ k, Hid (W0.length = k) := ⟨_, (rfl : W0.length = W0.length)⟩
      rw [HKL.out] at q0 q1 hwl HMM hcap HF0 HOWN ⊢
      cases hh : Maps.has D kl with
      | true =>
        go_wp2_with (first
          | (at_lookup; refine wpList_lookup_own_unit _ rfl _ _ 60 rfl 62 64 law62 Try.underlying60 (zero64 _) w.heap.size S.length D rfl (HRH.out.map.alloc _) _ _ rfl HK.out ?_)
          | go_in)
        have hG : LDm F f0 en s w (.slice (some ⟨g, 0, none⟩) k cap) ((wr.alloc (.cells #[.int .i64 (u.1 : Int), .int .i64 (u.2 : Int)] 62)).alloc (.cells #[] 64)) (3 * (F.length * (s.size + 1) - S.length) + k) := by
          refine ⟨g, cap, S, W0, D, by rw [HKL.out], by rw [HKL.out], ⟨?_, (HRH.out.map.alloc _).alloc _, HRH.out.seen, HRH.out.srch.again ((HRH.out.seen.2 u kl HK.out).1 hh), (HRH.out.below.alloc hwr _).alloc (by simp; omega) _, by have := HRH.out.hi; simp; omega, HRH.out.ne⟩⟩
          rw [HKL.out]; exact (HF0.out.alloc _).alloc _
        exact ⟨⟨_, hG⟩, Nat.lt_of_le_of_lt (leastOf_le hG) (by rw [HMM.out]; omega)⟩
      | false =>
        have hnS : u ∉ S := fun h => by have := (HRH.out.seen.2 u kl HK.out).2 h; rw [hh] at this; cases this
        have c2' := cell_next (cell_next ((HRH.out.below.cell hpp).trans c2) (box_keep wr (.cells #[.int .i64 (u.1 : Int), .int .i64 (u.2 : Int)] 62))) (box_keep _ (.cells #[] 64))
        have hgd := guard62
        go_upto_region 9 with (first
          | (at_lookup; refine wpList_lookup_own_unit _ rfl _ _ 60 rfl 62 64 law62 Try.underlying60 (zero64 _) w.heap.size S.length D rfl (HRH.out.map.alloc _) _ _ rfl HK.out ?_)
          | (at_mapUpdate; refine wpList_mapUpdate_own _ rfl _ _ _ 60 rfl 62 64 law62 Try.underlying60 (unitElem (H := Unit)) w.heap.size S.length D rfl ((HRH.out.map.alloc _).alloc _) (by unfold maxLen; omega) _ _ _ rfl rfl HK.out _ [] unitElem_mk ?_; intro w3 hmap3 hgr3; have s0 := cell_grown' (row := some w.heap.size) (b := wr.heap.size) (o := 0) (v := .int .i64 (u.1 : Int)) (by simp) hgr3 (by simpa using (Nat.ne_of_gt HRH.out.hi)); have s1 := cell_grown' (row := some w.heap.size) (b := wr.heap.size) (o := 1) (v := .int .i64 (u.2 : Int)) (by simp) hgr3 (by simpa using (Nat.ne_of_gt HRH.out.hi)); have s2 := cell_grown' c2' hgr3 (by simpa using (Nat.ne_of_lt hpp)))
          | go_in)
        have HO3 : Hid (w3.ownsRow w.heap.size 62 2 (.slice (some ⟨g, 0, none⟩) k cap) k (sp W0)) := ((HF0.out.alloc _).alloc _).kept hgr3 (Or.inr (fun e => HRH.out.ne (Option.some.inj e)))
        have HZ3 : Hid (wr.heap.size + 2 ≤ w3.heap.size) := by
          have := hgr3.size
          simp at this
          exact this
        have HB3 : Hid (Below w.heap.size w w3) := ((HRH.out.below.alloc hwr _).alloc (by simp; omega) _).grown hgr3 (by simp; omega) (fun j hj => by cases hj; exact Nat.le_refl _)
        by_cases hut : u = (en, s.size)
        · have e1 : ((u.1 : Int) == (en : Int)) = true := by simp [hut]
          have e2 : ((u.2 : Int) == (s.size : Int)) = true := by simp [hut]
          have HUT : Hid (u = (en, s.size)) := hut
          clear hut
          go_quiet (fail)
          go_wp2_with fail
          go_ret
          exact ⟨true, rfl, ⟨fun _ => by have h := HRH.out.srch; rw [HUT.out] at h; exact h.found, fun _ => rfl⟩, HB3.out.trans ⟨rfl, rfl, rfl, Nat.le_refl _, fun _ _ => rfl⟩⟩
        · have HUT : Hid (u ≠ (en, s.size)) := hut
          by_cases h1 : u.1 = en
          · have e1 : ((u.1 : Int) == (en : Int)) = true := by simp [h1]
            have e2 : ((u.2 : Int) == (s.size : Int)) = false := by
              simp only [beq_eq_false_iff_ne]
              intro h
              exact hut (Prod.ext h1 (by show u.2 = s.size; omega))
            clear hut h1
            go_quiet (fail)
            have hd3 : Below w3.heap.size w3 (w3.drewN nq) := ⟨rfl, rfl, rfl, Nat.le_refl _, fun _ _ => rfl⟩
            generalize w3.drewN nq = w3' at hd3 ⊢
            have HB3' : Hid (Below w.heap.size w w3' ∧ w3.heap.size ≤ w3'.heap.size) := ⟨HB3.out.trans (hd3.mono HB3.out.size), hd3.size⟩
            have t0 := cell_next s0 hd3
            have t1 := cell_next s1 hd3
            have HO3' : Hid (w3'.ownsRow w.heap.size 62 2 (.slice (some ⟨g, 0, none⟩) k cap) k (sp W0)) := row_below HO3.out hd3
            have HMP : Hid (w3'.ownsMap Try.prog 62 unitElem w.heap.size (S.length + 1) (D.put kl (.agg []))) := map_below hmap3 hd3
            have HBH : Hid (Calls Try.prog 27 #[.pointer (some ⟨pp, 0, none⟩), .agg #[.int .i64 (u.1 : Int), .int .i64 (u.2 : Int)], .string s] w3' fun e' w' => ∃ v, e' = .returned v ∧ w'.ownsRow w3'.heap.size 62 2 v (bh F s u.1 u.2).length (sp (bh F s u.1 u.2)) ∧ Below w3'.heap.size w3' w' ∧ (bh F s u.1 u.2 = [] → v = .slice none 0 0)) := behind_any B pp _ _ F s u.1 u.2 w3' (HP.out.1.keep HB3'.out.1) hu1 HP.out.2 hu2 hs
            clear hd3 s0 s1 s2 hmap3 hgr3 HO3
            by_cases hbe : bh F s u.1 u.2 = []
            · have HBN : Hid (Calls Try.prog 27 #[.pointer (some ⟨pp, 0, none⟩), .agg #[.int .i64 (u.1 : Int), .int .i64 (u.2 : Int)], .string s] w3' fun e' w' => e' = .returned (.slice none 0 0) ∧ Below w3'.heap.size w3' w') := (HBH.out).mono fun _ _ ⟨v, h1, _, h3, h4⟩ => ⟨by rw [h1, h4 hbe], h3⟩
              have HBE : Hid (bh F s u.1 u.2 = []) := hbe
              clear hbe HBH
              go_wp2_with (first
                | (go_at_call 27; refine HBN.out.mono ?_; rintro e w4 ⟨rfl, hb4⟩; have HO4 : Hid (w4.ownsRow w.heap.size 62 2 (.slice (some ⟨g, 0, none⟩) k cap) k (sp W0)) := row_below HO3'.out hb4)
                | (at_builtin; refine wpList_append_own_none _ rfl _ _ 63 rfl w.heap.size 62 i0 2 Try.underlying63 hi _ _ _ rfl HO4.out rfl ?_)
                | go_in)
              have hG : LDm F f0 en s w (.slice (some ⟨g, 0, none⟩) k cap) w4 (3 * (F.length * (s.size + 1) - (S.length + 1)) + k) := by
                have hsr := HRH.out.srch.on HP.out.2 hnS HUT.out
                rw [HBE.out, List.append_nil] at hsr
                refine ⟨g, cap, u :: S, W0, D.put kl (.agg []), by rw [HKL.out], by rw [HKL.out]; rfl, ⟨?_, map_below HMP.out hb4, HRH.out.seen.put HK.out, hsr, HB3'.out.1.trans (hb4.mono HB3'.out.1.size), by have := hb4.size; have := HRH.out.hi; have := HZ3.out; have := HB3'.out.2; omega, HRH.out.ne⟩⟩
                rw [HKL.out]; exact HO4.out
              have hsn := (Srch.small (HRH.out.srch.on HP.out.2 hnS HUT.out))
              simp only [List.length_cons] at hsn
              exact ⟨⟨_, hG⟩, Nat.lt_of_le_of_lt (leastOf_le hG) (by rw [HMM.out]; omega)⟩
            · have HBS : Hid (Calls Try.prog 27 #[.pointer (some ⟨pp, 0, none⟩), .agg #[.int .i64 (u.1 : Int), .int .i64 (u.2 : Int)], .string s] w3' fun e' w' => ∃ g2 cap2, e' = .returned (.slice (some ⟨g2, 0, none⟩) (bh F s u.1 u.2).length cap2) ∧ w'.ownsRow w3'.heap.size 62 2 (.slice (some ⟨g2, 0, none⟩) (bh F s u.1 u.2).length cap2) (bh F s u.1 u.2).length (sp (bh F s u.1 u.2)) ∧ Below w3'.heap.size w3' w') := (HBH.out).mono fun _ _ ⟨v, h1, h2, h3, _⟩ => by
                have h2' := h2
                rcases h2.2 with ⟨_, h0⟩ | ⟨g2, cap2, cur, rfl, _⟩
                · exact absurd (List.length_eq_zero_iff.1 h0) hbe
                · exact ⟨g2, cap2, h1, h2', h3⟩
              have hm0 : 0 < (bh F s u.1 u.2).length := List.length_pos_iff.2 hbe
              have hm2 : (bh F s u.1 u.2).length ≤ 2 := bh_len HP.out.2
              have HSL : Hid ((sp (bh F s u.1 u.2)).length = (bh F s u.1 u.2).length * 2) := sp_len _
              obtain ⟨m, HML⟩ : ∃ m, Hid ((bh F s u.1 u.2).length = m) := ⟨_, (rfl : (bh F s u.1 u.2).length = (bh F s u.1 u.2).length)⟩
              rw [HML.out] at HBS hm0 hm2 HSL
              have hsn := (Srch.small (HRH.out.srch.on HP.out.2 hnS HUT.out))
              simp only [List.length_cons] at hsn
              have HSN : Hid (S.length + 1 ≤ F.length * (s.size + 1)) := hsn
              clear hbe HBH hsn
              go_wp2_with (first
                | (go_at_call 27; refine HBS.out.mono ?_; rintro e w4 ⟨g2, cap2, rfl, hown2, hb4⟩; have HO4 : Hid (w4.ownsRow w.heap.size 62 2 (.slice (some ⟨g, 0, none⟩) k cap) k (sp W0)) := row_below HO3'.out hb4; have HN2 : Hid (w4.ownsRow w3'.heap.size 62 2 (.slice (some ⟨g2, 0, none⟩) m cap2) m (sp (bh F s u.1 u.2))) := hown2; have hz4 : w.heap.size ≤ w4.heap.size := Nat.le_trans HB3'.out.1.size hb4.size)
                | (at_builtin; refine wpList_append_lies _ rfl _ _ 63 rfl w.heap.size 62 i0 (.agg #[.int .i64 0, .int .i64 0]) 2 16 Try.underlying63 hi hz0 hz1 hz2 rfl (by decide) _ _ _ rfl HO4.out ⟨g2, 0, none⟩ m cap2 (sp (bh F s u.1 u.2)) rfl HSL.out (HN2.out.cells rfl) (sp_one _) hm0 (by unfold maxLen; omega) (by omega) hz4 w4.heap.size rfl ?_; intro g5 cap5 w5 hown5 hgr5 hfar5 _)
                | go_in)
              have hG : LDm F f0 en s w (.slice (some ⟨g5, 0, none⟩) (k + m) cap5) w5 (3 * (F.length * (s.size + 1) - (S.length + 1)) + (k + m)) := by
                have hsr := HRH.out.srch.on HP.out.2 hnS HUT.out
                refine ⟨g5, cap5, u :: S, W0 ++ bh F s u.1 u.2, D.put kl (.agg []), by rw [List.length_append, HKL.out, HML.out], by rw [List.length_append, HKL.out, HML.out]; rfl, ⟨?_, (map_below HMP.out hb4).kept hgr5 (fun e => HRH.out.ne (Option.some.inj e).symm), HRH.out.seen.put HK.out, hsr, (HB3'.out.1.trans (hb4.mono HB3'.out.1.size)).grown hgr5 hz4 (fun j hj => own_ge HO4.out j hj), by have := hb4.size; have := HRH.out.hi; have := HZ3.out; have := HB3'.out.2; have := hgr5.size; omega, ?_⟩⟩
                · rw [List.length_append, HKL.out, HML.out, sp_append]; exact hown5
                · rcases hfar5 with h | h
                  · have h' := Option.some.inj h
                    simp only at h'
                    rw [← h']; exact HRH.out.ne
                  · have := hb4.size; have := HRH.out.hi; have := HZ3.out; have := HB3'.out.2; omega
              exact ⟨⟨_, hG⟩, Nat.lt_of_le_of_lt (leastOf_le hG) (by have := HSN.out; rw [HMM.out]; omega)⟩
          · have e1 : ((u.1 : Int) == (en : Int)) = false := by simp; omega
            clear hut h1
            go_quiet (fail)
            have hd3 : Below w3.heap.size w3 (w3.drewN nq) := ⟨rfl, rfl, rfl, Nat.le_refl _, fun _ _ => rfl⟩
            generalize w3.drewN nq = w3' at hd3 ⊢
            have HB3' : Hid (Below w.heap.size w w3' ∧ w3.heap.size ≤ w3'.heap.size) := ⟨HB3.out.trans (hd3.mono HB3.out.size), hd3.size⟩
            have t0 := cell_next s0 hd3
            have t1 := cell_next s1 hd3
            have HO3' : Hid (w3'.ownsRow w.heap.size 62 2 (.slice (some ⟨g, 0, none⟩) k cap) k (sp W0)) := row_below HO3.out hd3
            have HMP : Hid (w3'.ownsMap Try.prog 62 unitElem w.heap.size (S.length + 1) (D.put kl (.agg []))) := map_below hmap3 hd3
            have HBH : Hid (Calls Try.prog 27 #[.pointer (some ⟨pp, 0, none⟩), .agg #[.int .i64 (u.1 : Int), .int .i64 (u.2 : Int)], .string s] w3' fun e' w' => ∃ v, e' = .returned v ∧ w'.ownsRow w3'.heap.size 62 2 v (bh F s u.1 u.2).length (sp (bh F s u.1 u.2)) ∧ Below w3'.heap.size w3' w' ∧ (bh F s u.1 u.2 = [] → v = .slice none 0 0)) := behind_any B pp _ _ F s u.1 u.2 w3' (HP.out.1.keep HB3'.out.1) hu1 HP.out.2 hu2 hs
            clear hd3 s0 s1 s2 hmap3 hgr3 HO3
            by_cases hbe : bh F s u.1 u.2 = []
            · have HBN : Hid (Calls Try.prog 27 #[.pointer (some ⟨pp, 0, none⟩), .agg #[.int .i64 (u.1 : Int), .int .i64 (u.2 : Int)], .string s] w3' fun e' w' => e' = .returned (.slice none 0 0) ∧ Below w3'.heap.size w3' w') := (HBH.out).mono fun _ _ ⟨v, h1, _, h3, h4⟩ => ⟨by rw [h1, h4 hbe], h3⟩
              have HBE : Hid (bh F s u.1 u.2 = []) := hbe
              clear hbe HBH
              go_wp2_with (first
                | (go_at_call 27; refine HBN.out.mono ?_; rintro e w4 ⟨rfl, hb4⟩; have HO4 : Hid (w4.ownsRow w.heap.size 62 2 (.slice (some ⟨g, 0, none⟩) k cap) k (sp W0)) := row_below HO3'.out hb4)
                | (at_builtin; refine wpList_append_own_none _ rfl _ _ 63 rfl w.heap.size 62 i0 2 Try.underlying63 hi _ _ _ rfl HO4.out rfl ?_)
                | go_in)
              have hG : LDm F f0 en s w (.slice (some ⟨g, 0, none⟩) k cap) w4 (3 * (F.length * (s.size + 1) - (S.length + 1)) + k) := by
                have hsr := HRH.out.srch.on HP.out.2 hnS HUT.out
                rw [HBE.out, List.append_nil] at hsr
                refine ⟨g, cap, u :: S, W0, D.put kl (.agg []), by rw [HKL.out], by rw [HKL.out]; rfl, ⟨?_, map_below HMP.out hb4, HRH.out.seen.put HK.out, hsr, HB3'.out.1.trans (hb4.mono HB3'.out.1.size), by have := hb4.size; have := HRH.out.hi; have := HZ3.out; have := HB3'.out.2; omega, HRH.out.ne⟩⟩
                rw [HKL.out]; exact HO4.out
              have hsn := (Srch.small (HRH.out.srch.on HP.out.2 hnS HUT.out))
              simp only [List.length_cons] at hsn
              exact ⟨⟨_, hG⟩, Nat.lt_of_le_of_lt (leastOf_le hG) (by rw [HMM.out]; omega)⟩
            · have HBS : Hid (Calls Try.prog 27 #[.pointer (some ⟨pp, 0, none⟩), .agg #[.int .i64 (u.1 : Int), .int .i64 (u.2 : Int)], .string s] w3' fun e' w' => ∃ g2 cap2, e' = .returned (.slice (some ⟨g2, 0, none⟩) (bh F s u.1 u.2).length cap2) ∧ w'.ownsRow w3'.heap.size 62 2 (.slice (some ⟨g2, 0, none⟩) (bh F s u.1 u.2).length cap2) (bh F s u.1 u.2).length (sp (bh F s u.1 u.2)) ∧ Below w3'.heap.size w3' w') := (HBH.out).mono fun _ _ ⟨v, h1, h2, h3, _⟩ => by
                have h2' := h2
                rcases h2.2 with ⟨_, h0⟩ | ⟨g2, cap2, cur, rfl, _⟩
                · exact absurd (List.length_eq_zero_iff.1 h0) hbe
                · exact ⟨g2, cap2, h1, h2', h3⟩
              have hm0 : 0 < (bh F s u.1 u.2).length := List.length_pos_iff.2 hbe
              have hm2 : (bh F s u.1 u.2).length ≤ 2 := bh_len HP.out.2
              have HSL : Hid ((sp (bh F s u.1 u.2)).length = (bh F s u.1 u.2).length * 2) := sp_len _
              obtain ⟨m, HML⟩ : ∃ m, Hid ((bh F s u.1 u.2).length = m) := ⟨_, (rfl : (bh F s u.1 u.2).length = (bh F s u.1 u.2).length)⟩
              rw [HML.out] at HBS hm0 hm2 HSL
              have hsn := (Srch.small (HRH.out.srch.on HP.out.2 hnS HUT.out))
              simp only [List.length_cons] at hsn
              have HSN : Hid (S.length + 1 ≤ F.length * (s.size + 1)) := hsn
              clear hbe HBH hsn
              go_wp2_with (first
                | (go_at_call 27; refine HBS.out.mono ?_; rintro e w4 ⟨g2, cap2, rfl, hown2, hb4⟩; have HO4 : Hid (w4.ownsRow w.heap.size 62 2 (.slice (some ⟨g, 0, none⟩) k cap) k (sp W0)) := row_below HO3'.out hb4; have HN2 : Hid (w4.ownsRow w3'.heap.size 62 2 (.slice (some ⟨g2, 0, none⟩) m cap2) m (sp (bh F s u.1 u.2))) := hown2; have hz4 : w.heap.size ≤ w4.heap.size := Nat.le_trans HB3'.out.1.size hb4.size)
                | (at_builtin; refine wpList_append_lies _ rfl _ _ 63 rfl w.heap.size 62 i0 (.agg #[.int .i64 0, .int .i64 0]) 2 16 Try.underlying63 hi hz0 hz1 hz2 rfl (by decide) _ _ _ rfl HO4.out ⟨g2, 0, none⟩ m cap2 (sp (bh F s u.1 u.2)) rfl HSL.out (HN2.out.cells rfl) (sp_one _) hm0 (by unfold maxLen; omega) (by omega) hz4 w4.heap.size rfl ?_; intro g5 cap5 w5 hown5 hgr5 hfar5 _)
                | go_in)
              have hG : LDm F f0 en s w (.slice (some ⟨g5, 0, none⟩) (k + m) cap5) w5 (3 * (F.length * (s.size + 1) - (S.length + 1)) + (k + m)) := by
                have hsr := HRH.out.srch.on HP.out.2 hnS HUT.out
                refine ⟨g5, cap5, u :: S, W0 ++ bh F s u.1 u.2, D.put kl (.agg []), by rw [List.length_append, HKL.out, HML.out], by rw [List.length_append, HKL.out, HML.out]; rfl, ⟨?_, (map_below HMP.out hb4).kept hgr5 (fun e => HRH.out.ne (Option.some.inj e).symm), HRH.out.seen.put HK.out, hsr, (HB3'.out.1.trans (hb4.mono HB3'.out.1.size)).grown hgr5 hz4 (fun j hj => own_ge HO4.out j hj), by have := hb4.size; have := HRH.out.hi; have := HZ3.out; have := HB3'.out.2; have := hgr5.size; omega, ?_⟩⟩
                · rw [List.length_append, HKL.out, HML.out, sp_append]; exact hown5
                · rcases hfar5 with h | h
                  · have h' := Option.some.inj h
                    simp only at h'
                    rw [← h']; exact HRH.out.ne
                  · have := hb4.size; have := HRH.out.hi; have := HZ3.out; have := HB3'.out.2; omega
              exact ⟨⟨_, hG⟩, Nat.lt_of_le_of_lt (leastOf_le hG) (by have := HSN.out; rw [HMM.out]; omega)⟩
end Go.Proofs.Ytdnagboonjcehaa
