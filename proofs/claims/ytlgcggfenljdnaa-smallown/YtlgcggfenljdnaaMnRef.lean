/-
  The contract of small.refined.
-/
import Derived.Test.YtlgcggfenljdnaaMnMap
import Derived.Test.YtlgcggfenljdnaaPkPack
namespace Go.Proofs.Ytlgcggfenljdnaa
open Go.RowKit
open Go.Maps
open Dfa

set_option maxHeartbeats 4000000 in
set_option maxRecDepth 20000 in
theorem refined_any (rv tv kv : Value) (n : Nat) (R : Nat → Nat → Int) (T K : Nat → Int) (w : World) (hr : Rw w rv n R) (ht : Ts w tv n T) (hk : Ks w kv n K) (hn0 : 0 < n) (hn : n ≤ 200) (hok : rowsOk n R = true) (htg : tagsOk n T = true) :
    Calls Try.prog 48 #[.agg #[rv, tv], kv] w fun e w' => ∃ v, e = .returned (.tuple #[v, .int .i64 (((frs R T K n).length + 1 : Nat) : Int)]) ∧ Ks w' v n (ref R T K) ∧ Below w.heap.size w w' := by
  have HRW : Hid (Rw w rv n R) := hr
  have HTS : Hid (Ts w tv n T) := ht
  have HKS : Hid (Ks w kv n K) := hk
  have HOK : Hid (rowsOk n R = true ∧ tagsOk n T = true) := ⟨hok, htg⟩
  obtain ⟨ra, rc, rfl, -⟩ := hr
  obtain ⟨ta, tc, rfl, -⟩ := ht
  obtain ⟨kg, kc, rfl, -, hkr, -⟩ := hk
  have HKR : Hid (∀ s, s < n → ∀ j, j < 257 → -32768 ≤ rwk R T K s j ∧ rwk R T K s j ≤ 32767) := fun s hs j hj => rwk_range hok htg hkr hn hs j hj
  obtain ⟨kn, HKN⟩ : ∃ kn, Hid (keyOf Try.prog 101 (.agg (xl fun _ => -1).toArray) = some kn) := key101 _ (fun _ _ => by omega)
  have hmm := @run_makeMap Try.prog
  have HMK : Hid (∀ W : World, (Instr.makeSlice 63 (.int .i64 (n : Int)) (.int .i64 (n : Int))).run Try.prog W = .ok (.slice (some ⟨W.heap.size, 0, none⟩) n n) (W.alloc (.cells (madeCells #[.int .i16 0] n) 40))) := fun W => run_make_row' (P := Try.prog) 63 40 (.int .i16 0) 2 Try.underlying63 info40 rfl .i64 .i64 n (by omega) (by omega) W
  have HM0 : Hid (((w.alloc (Obj.cells #[(.slice ra n rc), (.slice ta n tc)] 25)).alloc (Obj.map #[] 0)).ownsMap (H := Unit) Try.prog 101 (plainElem Try.prog 40) (w.heap.size + 1) 0 (.map [])) := by
    have := World.ownsMap_made (H := Unit) (w.alloc (Obj.cells #[(.slice ra n rc), (.slice ta n tc)] 25)) Try.prog 101 (plainElem Try.prog 40)
    rwa [show (w.alloc (Obj.cells #[(.slice ra n rc), (.slice ta n tc)] 25)).heap.size = w.heap.size + 1 by simp] at this
  have HV1 : Hid (plainElem (H := Unit) Try.prog 40 (.int .i16 (-1)) = some (.lit (.int .i16 (-1)), [])) := plainElem_int Try.underlying40 (by decide)
  have HMS : Hid (MK R T K (DataW.put (.map []) kn (.lit (.int .i16 (-1)))) []) := MK.start HKN.out (HM0.out.tidy law101)
  have HSX : Hid ((xl fun _ => (-1 : Int)).length = 257) := xl_length _
  have hnw := nowhere_any ((w.alloc (Obj.cells #[(.slice ra n rc), (.slice ta n tc)] 25)).alloc (Obj.map #[] 0))
  obtain ⟨lw, HLW⟩ : ∃ q, Hid ((xl fun _ => (-1 : Int)) = q) := ⟨_, (rfl : _ = _)⟩
  rw [HLW.out] at hnw HKN
  have HB0 : Hid (Below w.heap.size w ((w.alloc (Obj.cells #[(.slice ra n rc), (.slice ta n tc)] 25)).alloc (Obj.map #[] 0))) := ((Below.refl _ _).alloc (Nat.le_refl _) _).alloc (by simp) _
  clear hkr hok htg HLW HSX
  obtain ⟨cn, HCN⟩ : ∃ q : Nat, Hid ((frs R T K n).length + 1 = q) := ⟨_, (rfl : _ = _)⟩
  rw [HCN.out]
  go_enter Try.func48, Try.ntmps48
  go_wp2_with fail
  refine hnw.mono ?_
  rintro _ w1 ⟨rfl, hb⟩
  have HM1 : Hid (w1.ownsMap (H := Unit) Try.prog 101 (plainElem Try.prog 40) (w.heap.size + 1) 0 (.map [])) := map_same40 HM0.out (hb.block _ (by simp))
  have HB1 : Hid (Below w.heap.size w w1 ∧ w1.cell? ⟨w.heap.size, 0, none⟩ = some (.slice ra n rc) ∧ w1.cell? ⟨w.heap.size, 1, none⟩ = some (.slice ta n tc) ∧ w.heap.size + 2 ≤ w1.heap.size) := ⟨HB0.out.trans (hb.mono HB0.out.size), (hb.cell (by simp; omega)).trans (by simp), (hb.cell (by simp; omega)).trans (by simp), by have := hb.size; simp at this; omega⟩
  clear hb hnw HM0 HB0 hmm
  go_wp2_with (refine wpList_insert_own _ rfl _ _ _ 103 rfl 101 40 law101 Try.underlying103 (plainElem Try.prog 40) (w.heap.size + 1) 0 (.map []) rfl HM1.out (by unfold maxLen; omega) _ _ kn rfl rfl HKN.out (.lit (.int .i16 (-1))) [] HV1.out ?_)
  intro w2 hm2 hg2
  obtain ⟨gm, HGM⟩ : ∃ q, Hid (w.heap.size + 1 = q) := ⟨_, (rfl : _ = _)⟩
  obtain ⟨gf, HGF⟩ : ∃ q, Hid (w2.heap.size = q) := ⟨_, (rfl : _ = _)⟩
  have HR0 : Hid (∃ D, Rf w (.slice ra n rc) (.slice ta n tc) n R T K gm gf 0 D (w2.alloc (.cells (madeCells #[.int .i16 0] n) 40))) := by
    have hs2 := hg2.size
    have h4 := HB1.out.2.2.2
    have e : ∀ k, k < w1.heap.size → k ≠ w.heap.size + 1 → w2.heap[k]? = w1.heap[k]? := fun k hk hk2 => hg2.block k hk (fun x => hk2 (Option.some.inj x))
    have hA := (Below.refl w2.heap.size w2).alloc (Nat.le_refl _) (Obj.cells (madeCells #[.int .i16 0] n) 40)
    have hB2 : Below w.heap.size w w2 := HB1.out.1.grown hg2 HB1.out.1.size (fun k hk => by simp at hk; omega)
    refine ⟨_, hB2.trans (hA.mono hB2.size), Go.Lib.cell?_alloc_some _ ((cell_same (e _ (by omega) (by omega)) 0).trans HB1.out.2.1), Go.Lib.cell?_alloc_some _ ((cell_same (e _ (by omega) (by omega)) 1).trans HB1.out.2.2.1), ?_, HMS.out, ?_, by have := HGM.out; omega, by have := HGM.out; have := HGF.out; omega⟩
    · rw [← HGM.out]; exact map_same40 hm2 (hA.block _ (by omega))
    · rw [← HGF.out]
      exact (World.rowIs_made w2 (.int .i16 0) n 40).congr fun j _ => by simp
  have hmk := HMK.out
  rw [HGM.out]
  clear hm2 hg2 HB1 HM1 HMS HV1 HKN HMK
  go_wp2_with fail
  rw [HGF.out]
  clear hmk
  go_loopw [20] (fun i wr => ∃ s : Nat, s ≤ n ∧ i = .int .i64 (s : Int) ∧ Hid (∃ D, Rf w (.slice ra n rc) (.slice ta n tc) n R T K gm gf s D wr)) (fun i _ => n - (intOf i).toNat)
  case atStart => exact ⟨0, by omega, rfl, HR0⟩
  case round =>
    clear HR0
    obtain ⟨s, hs, rfl, HE⟩ := hrel
    obtain ⟨D, hrf⟩ := HE.out
    have HRF : Hid (Rf w (.slice ra n rc) (.slice ta n tc) n R T K gm gf s D wr) := hrf
    clear hrf HE
    by_cases hlt : s < n
    · have hs0 : (0 : Int) ≤ (s : Int) := by omega
      have hs1 : (s : Int) < (n : Int) := by omega
      have y0 := HRF.out.c0
      have y1 := HRF.out.c1
      have hro := rowOf_any (.slice ra n rc) (.slice ta n tc) (.slice (some ⟨kg, 0, none⟩) n kc) n R T K s wr (HRW.out.below HRF.out.below (Nat.le_refl _)) (HTS.out.below HRF.out.below (Nat.le_refl _)) (HKS.out.below HRF.out.below (Nat.le_refl _)) hlt HOK.out.1 HOK.out.2
      obtain ⟨kl, hkl⟩ := key101 (rwk R T K s) (HKR.out s hlt)
      have HXL : Hid ((xl (rwk R T K s)).toArray.size = 257 ∧ (xl (rwk R T K s)).toArray.all (·.oneCell') = true) := ⟨by simp [xl_length], xl_one _⟩
      have HK0 : Hid (keyOf Try.prog 101 (.agg (xl (rwk R T K s)).toArray) = some kl) := hkl
      have HK1 : Hid (keyOf Try.prog 101 (.agg (xl (rwk R T K s)).toArray) = some kl) := hkl
      obtain ⟨l, HL⟩ : ∃ q, Hid (xl (rwk R T K s) = q) := ⟨_, (rfl : _ = _)⟩
      rw [HL.out] at hro HXL HK0
      obtain ⟨zs, hz1, hzs, -⟩ := zero101
      have HZS : Hid (zs.size = 257) := hzs
      have HSL : Hid ((Try.prog.info? 101).map (·.size) = some l.length) := by show _ = _; rw [← HL.out, xl_length]; exact size101
      clear hkl hzs
      go_wp2_with fail
      refine hro.mono ?_
      rintro _ w3 ⟨rfl, hb⟩
      have HRF2 : Hid (Rf w (.slice ra n rc) (.slice ta n tc) n R T K gm gf s D (w3.alloc (.cells l.toArray 101))) := (HRF.out.next hb).next ((Below.refl _ _).alloc (Nat.le_refl _) _)
      have HRG : Hid ((w3.alloc (.cells l.toArray 101)).rangeAt w3.heap.size 0 l) := range_block w3 l 101
      clear hb hro HRF y0 y1
      obtain ⟨fl, HFL⟩ : ∃ q, Hid ((frs R T K s).length = q) := ⟨_, (rfl : _ = _)⟩
      have hfs : fl ≤ s := by rw [← HFL.out]; exact frs_length s
      have HMO : Hid ((w3.alloc (.cells l.toArray 101)).ownsMap Try.prog 101 (plainElem Try.prog 40) gm (fl + 1) D) := by have := HRF2.out.mp; rwa [HFL.out] at this
      go_wp2_with (first | refine wpList_store_new101 rfl _ _ rfl zs l.toArray rfl rfl HZS.out HXL.out.1 HXL.out.2 ?_ | refine wpList_load_mid rfl 101 _ rfl w3.heap.size 0 rfl l _ HRG.out Try.underlying101 rfl HSL.out ?_ | refine wpList_lookup_own_ok_int _ rfl _ _ 103 rfl 101 40 .i16 law101 Try.underlying103 Try.underlying40 (zero40 _) gm (fl + 1) D rfl HMO.out _ kl rfl HK0.out ?_)
      intro c hat hwc
      have y0 := HRF2.out.fr.cell (i := s) hlt
      have y1 := HRF2.out.fr.frozen s
      by_cases hh : Maps.has D kl = true
      · have HKNOWN : Hid (frs R T K (s + 1) = frs R T K s ∧ c = ref R T K s) := by
          rcases (HRF2.out.mi.has s kl HK1.out).1 hh with hd | hx
          · have := HRF2.out.mi.neg s kl HK1.out hd
            rw [hat] at this
            exact ⟨by rw [frs, if_pos hd], by rw [ref_neg.2 hd]; injection this with h1; injection h1⟩
          · cases hd : ded R T K s with
            | true =>
              have := HRF2.out.mi.neg s kl HK1.out hd
              rw [hat] at this
              exact ⟨by rw [frs, if_pos hd], by rw [ref_neg.2 hd]; injection this with h1; injection h1⟩
            | false =>
              have := HRF2.out.mi.at_ s kl HK1.out hd hx
              rw [hat] at this
              refine ⟨by rw [frs, if_neg (by simp [hd]), if_neg (by omega)], ?_⟩
              unfold ref
              rw [if_neg (by simp [hd])]
              injection this with h1; injection h1
        rw [hh]
        clear hat hwc hh
        go_wp2_with fail
        go_roundw
        case rel => exact ⟨s + 1, by omega, by go_num, D, HRF2.out.known HKNOWN.out.1 HKNOWN.out.2⟩
        case measure => simp [intOf]; omega
      · have hh2 : Maps.has D kl = false := by simpa using hh
        have HNO : Hid (ded R T K s = false ∧ ¬ rix R T K (frs R T K s) s < (frs R T K s).length) := by
          constructor
          · cases hd : ded R T K s with
            | false => rfl
            | true => exact absurd ((HRF2.out.mi.has s kl HK1.out).2 (Or.inl hd)) hh
          · exact fun hx => hh ((HRF2.out.mi.has s kl HK1.out).2 (Or.inr hx))
        have HSD : Hid (Maps.size D = fl + 1) := by show _ = _; rw [HRF2.out.mi.size, HFL.out]
        have hwr : IntKind.i16.wrap (fl : Int) = (fl : Int) := wrap16 (by omega)
        have HVL : Hid (plainElem (H := Unit) Try.prog 40 (.int .i16 (fl : Int)) = some (.lit (.int .i16 (fl : Int)), [])) := plainElem_int Try.underlying40 (by simp [Lit.wf, IntKind.min, IntKind.max, IntKind.signed, IntKind.bits]; omega)
        rw [hh2]
        clear hat hwc hh hh2 y0 y1
        go_wp2_with (first | (refine wpList_len_own _ rfl _ 103 rfl 101 40 Try.underlying103 (plainElem Try.prog 40) gm (fl + 1) D rfl HMO.out ?_; rw [HSD.out]) | refine wpList_load_mid rfl 101 _ rfl w3.heap.size 0 rfl l _ HRG.out Try.underlying101 rfl HSL.out ?_ | refine wpList_mapUpdate_own _ rfl _ _ _ 103 rfl 101 40 law101 Try.underlying103 (plainElem Try.prog 40) gm (fl + 1) D rfl HMO.out (by unfold maxLen; omega) _ _ kl rfl rfl HK0.out (.lit (.int .i16 (fl : Int))) [] HVL.out ?_)
        intro w4 hm4 hg4
        have HNEW : Hid (Rf w (.slice ra n rc) (.slice ta n tc) n R T K gm gf (s + 1) (D.put kl (.lit (.int .i16 (fl : Int)))) (w4.setCell ⟨gf, s, none⟩ (.int .i16 (fl : Int)))) := by
          have := HRF2.out.news HNO.out.1 HNO.out.2 HK1.out hg4 (by rw [HFL.out]; exact hm4)
          rwa [HFL.out] at this
        have h4 := (HRF2.out.mapped hg4).2.2.2
        have y0 := h4.cell (i := s) hlt
        have y1 := h4.frozen s
        clear hm4 hg4 h4 HMO HRG hwr
        go_wp2_with fail
        go_roundw
        case rel => exact ⟨s + 1, by omega, by go_num, _, HNEW.out⟩
        case measure => simp [intOf]; omega
    · obtain rfl : s = n := by omega
      have HMO : Hid (wr.ownsMap Try.prog 101 (plainElem Try.prog 40) gm ((frs R T K s).length + 1) D) := HRF.out.mp
      have HSD : Hid (Maps.size D = cn) := by show _ = _; rw [HRF.out.mi.size, HCN.out]
      go_wp2_with (refine wpList_len_own _ rfl _ 103 rfl 101 40 Try.underlying103 (plainElem Try.prog 40) gm _ D rfl HMO.out ?_; rw [HSD.out])
      go_ret2
      refine ⟨_, rfl, ⟨gf, s, rfl, HRF.out.fr.lt, fun i hi => by have := ref_range (R := R) (T := T) (K := K) hi; have := frs_length (R := R) (T := T) (K := K) s; omega, fun i hi => by rw [HRF.out.fr.cell hi, if_pos hi]⟩, HRF.out.below⟩
end Go.Proofs.Ytlgcggfenljdnaa
