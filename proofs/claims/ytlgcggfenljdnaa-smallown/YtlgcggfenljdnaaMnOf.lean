/-
  The contract of small.oneOfEach.
-/
import Derived.Test.YtlgcggfenljdnaaMnHoldB
import Derived.Test.YtlgcggfenljdnaaMnRef
import Derived.Deep.Cut
import Derived.Great.BuildSlice
namespace Go.Proofs.Ytlgcggfenljdnaa
open Go.RowKit
open Go.Maps
open Dfa

/-- Two values hold the smallest automaton. -/
def Mo (n : Nat) (R : Nat → Nat → Int) (T : Nat → Int) (B : Nat) (w : World) (rv tv : Value) : Prop := ∃ N F U K met, Mi n R T N F U K met ∧ Rw w rv N F ∧ Ts w tv N U ∧ (∀ g, rv.ownBlock = some g → B ≤ g) ∧ ∀ g, tv.ownBlock = some g → B ≤ g
structure RT20 (w : World) (n : Nat) (R : Nat → Nat → Int) (T K : Nat → Int) (rb ro rc tb to tc gm gM k : Nat) (F : Nat → Nat → Int) (met : List Nat) (D : DataW Unit) (mV rV tV : Value) (s : Nat) (gb : Nat) (gr : Nat) (cr : Nat) (d : Nat → Bool) (x75 x76 x77 x78 x79 x80 x81 x82 x83 x84 : Value) (W : World) : Prop where
  f0 : d 0 = true → x75 = (.pointer (some ⟨gM, 1, none⟩))
  f1 : d 1 = true → x76 = tV
  f2 : d 2 = true → x77 = (.pointer (some ⟨w.heap.size, 1, none⟩))
  f3 : d 3 = true → x78 = (.slice (some ⟨tb, to, none⟩) n tc)
  f4 : d 4 = true → x79 = (.int .i64 (s : Int))
  f5 : d 5 = true → x80 = (.pointer (some ⟨tb, to + s, none⟩))
  f6 : d 6 = true → x81 = (.int .i64 (T s))
  f7 : d 7 = true → x82 = (.slice (some ⟨gb, 0, none⟩) 1 1)
  f8 : d 8 = true → x83 = (.slice (some ⟨gr, 0, none⟩) (k + 1) cr)
  f9 : d 9 = true → x84 = (.pointer (some ⟨gM, 1, none⟩))
  f10 : d 10 = true → True
  p1 : d 8 = true → d 1 = true
  p7 : d 8 = true → d 7 = true
  q10 : d 10 = true → d 8 = true
  cc : Below w.heap.size w W ∧ W.cell? ⟨w.heap.size, 1, none⟩ = some (.slice (some ⟨tb, to, none⟩) n tc)
  oc : d 8 = false → Oc w (.slice (some ⟨rb, ro, none⟩) n rc) (.slice (some ⟨tb, to, none⟩) n tc) n R K gm gM (k + 1) ((k + 1) * 256) F met D mV rV tV W ∧ Ot w T gm gM k met mV rV tV W
  bs : d 7 = true → d 8 = false → ∀ j u, ([.int .i64 (T s)] : List Value)[j]? = some u → W.cell? ⟨gb, j, none⟩ = some u
  th : d 8 = true → d 10 = false → Oc w (.slice (some ⟨rb, ro, none⟩) n rc) (.slice (some ⟨tb, to, none⟩) n tc) n R K gm gM (k + 1) ((k + 1) * 256) F met D mV rV tV W ∧ Oh w T gm gM k met mV rV gr cr W
  fin : d 10 = true → Oc w (.slice (some ⟨rb, ro, none⟩) n rc) (.slice (some ⟨tb, to, none⟩) n tc) n R K gm gM (k + 1) ((k + 1) * 256) F met D mV rV (.slice (some ⟨gr, 0, none⟩) (k + 1) cr) W ∧ Ot w T gm gM (k + 1) met mV rV (.slice (some ⟨gr, 0, none⟩) (k + 1) cr) W

set_option maxHeartbeats 8000000 in
set_option maxRecDepth 20000 in
theorem oneOf_any (rv tv kv : Value) (n : Nat) (R : Nat → Nat → Int) (T K : Nat → Int) (w : World) (hr : Rw w rv n R) (ht : Ts w tv n T) (hk : Ks w kv n K) (hn0 : 0 < n) (hn : n ≤ 200) (hok : rowsOk n R = true) (hkd : Kinds n R T K) :
    Calls Try.prog 31 #[.agg #[rv, tv], kv] w fun e w' => ∃ rv' tv', e = .returned (.agg #[rv', tv']) ∧ Mo n R T w.heap.size w' rv' tv' ∧ Below w.heap.size w w' := by
  have HRW : Hid (Rw w rv n R) := hr
  have HTS : Hid (Ts w tv n T) := ht
  have HKS : Hid (Ks w kv n K) := hk
  have HOK : Hid (rowsOk n R = true ∧ Kinds n R T K) := ⟨hok, hkd⟩
  obtain ⟨ra, rc, rfl, -⟩ := hr
  obtain ⟨ta, tc, rfl, -⟩ := ht
  obtain ⟨kg, kc, rfl, hkl, hkr, hkc⟩ := hk
  have HKR : Hid (∀ s, s < n → -1 ≤ K s ∧ K s < (n : Int)) := hkr
  have k00 := hkr 0 hn0
  have HK0 : Hid (∀ W, Below w.heap.size w W → W.cell? ⟨kg, 0, none⟩ = some (.int .i16 (K 0))) := fun W hb => (hb.cell (p := ⟨kg, 0, none⟩) hkl).trans (hkc 0 hn0)
  have hmm := @run_makeMap Try.prog
  have HKEY : Hid (keyOf Try.prog 40 (.int .i16 (K 0)) = some (.int .i16 (K 0))) := key40 (by omega)
  have HKEN : Hid (keyOf Try.prog 40 (.int .i16 (-1)) = some (.int .i16 (-1))) := key40 (by omega)
  have HV0 : Hid (plainElem (H := Unit) Try.prog 40 (.int .i16 0) = some (.lit (.int .i16 0), [])) := plainElem_int Try.underlying40 (by decide)
  have HV1 : Hid (plainElem (H := Unit) Try.prog 40 (.int .i16 (-1)) = some (.lit (.int .i16 (-1)), [])) := plainElem_int Try.underlying40 (by decide)
  have HMN : Hid (MN K (DataW.put (DataW.put (.map []) (.int .i16 (K 0)) (.lit (.int .i16 0))) (.int .i16 (-1)) (.lit (.int .i16 (-1)))) [0]) := MN.start (by omega)
  obtain ⟨k0, HKZ⟩ : ∃ q, Hid (K 0 = q) := ⟨_, (rfl : _ = _)⟩
  rw [HKZ.out] at HK0 HKEY HMN
  obtain ⟨w0, HW0⟩ : ∃ q, Hid (((w.alloc (Obj.cells #[(.slice ra n rc), (.slice ta n tc)] 25)).alloc (Obj.cells #[.slice none 0 0, .slice none 0 0] 25)).alloc (Obj.map #[] 0) = q) := ⟨_, (rfl : _ = _)⟩
  have HM0 : Hid (w0.ownsMap (H := Unit) Try.prog 40 (plainElem Try.prog 40) (w.heap.size + 2) 0 (.map []) ∧ Below w.heap.size w w0 ∧ w0.cell? ⟨w.heap.size, 0, none⟩ = some (.slice ra n rc) ∧ w0.cell? ⟨w.heap.size, 1, none⟩ = some (.slice ta n tc) ∧ w0.rowIs (w.heap.size + 1) 25 2 (fun _ => .slice none 0 0) ∧ w0.heap.size = w.heap.size + 3) := by
    have h1 := World.ownsMap_made (H := Unit) ((w.alloc (Obj.cells #[(.slice ra n rc), (.slice ta n tc)] 25)).alloc (Obj.cells #[.slice none 0 0, .slice none 0 0] 25)) Try.prog 40 (plainElem Try.prog 40)
    have h2 := row_two (w.alloc (Obj.cells #[(.slice ra n rc), (.slice ta n tc)] 25)) (.slice none 0 0) (.slice none 0 0)
    rw [show ((w.alloc (Obj.cells #[(.slice ra n rc), (.slice ta n tc)] 25)).alloc (Obj.cells #[.slice none 0 0, .slice none 0 0] 25)).heap.size = w.heap.size + 2 by simp] at h1
    rw [show (w.alloc (Obj.cells #[(.slice ra n rc), (.slice ta n tc)] 25)).heap.size = w.heap.size + 1 by simp] at h2
    rw [← HW0.out]
    exact ⟨h1, (((Below.refl _ _).alloc (Nat.le_refl _) _).alloc (by simp) _).alloc (by simp; omega) _, Go.Lib.cell?_alloc_some _ (Go.Lib.cell?_alloc_some _ (by simp)), Go.Lib.cell?_alloc_some _ (Go.Lib.cell?_alloc_some _ (by simp)), (h2.alloc _).congr fun i _ => by simp, by simp⟩
  have y0 := HK0.out w0 HM0.out.2.1
  have HME : Hid (w0.ownsMap (H := Unit) Try.prog 40 (plainElem Try.prog 40) (w.heap.size + 2) 0 (.map [])) := HM0.out.1
  rw [← HW0.out] at y0 HME
  have hn1 : (0 : Int) < (n : Int) := by omega
  clear hok hkd hkl hkr hkc k00
  obtain ⟨i3, hi3, hz3, hs3, hb3⟩ := info_parts info3
  have H3 : Hid (Try.prog.info? 3 = some i3 ∧ i3.zero = some (.int .i64 0) ∧ i3.size = 1 ∧ i3.bytes = 8) := ⟨hi3, hz3, hs3, hb3⟩
  obtain ⟨i42, hi42, hz42, hs42, hb42⟩ := info_parts zero42'
  have H42 : Hid (Try.prog.info? 42 = some i42 ∧ i42.zero = some (.agg (Array.replicate 256 (.int .i16 0))) ∧ i42.size = 256 ∧ i42.bytes = 512) := ⟨hi42, hz42, hs42, hb42⟩
  clear hi3 hz3 hs3 hb3 hi42 hz42 hs42 hb42
  go_enter Try.func31, Try.ntmps31
  go_wp2_with (refine wpList_insert_own _ rfl _ _ _ 89 rfl 40 40 law40 Try.underlying89 (plainElem Try.prog 40) (w.heap.size + 2) 0 (.map []) rfl HME.out (by unfold maxLen; omega) _ _ (.int .i16 k0) rfl rfl HKEY.out (.lit (.int .i16 0)) [] HV0.out ?_)
  rw [HW0.out]
  intro w1 hm1 hg1
  clear y0 HME hmm
  go_wp2_with (refine wpList_mapUpdate_own _ rfl _ _ _ 89 rfl 40 40 law40 Try.underlying89 (plainElem Try.prog 40) (w.heap.size + 2) 1 _ rfl hm1 (by unfold maxLen; omega) _ _ (.int .i16 (-1)) rfl rfl HKEN.out (.lit (.int .i16 (-1))) [] HV1.out ?_)
  intro w2 hm2 hg2
  have hs1 := hg1.size
  have hs2 := hg2.size
  obtain ⟨w3, HW3⟩ : ∃ q, Hid ((w2.alloc (Obj.cells #[.int .i64 0] 3)).alloc (Obj.cells #[.slice none 0 0, .slice none 0 0] 25) = q) := ⟨_, (rfl : _ = _)⟩
  obtain ⟨gm, HGM⟩ : ∃ q, Hid (w.heap.size + 2 = q) := ⟨_, (rfl : _ = _)⟩
  obtain ⟨gs, HGS⟩ : ∃ q, Hid (w2.heap.size = q) := ⟨_, (rfl : _ = _)⟩
  obtain ⟨gM, HGMM⟩ : ∃ q, Hid (w2.heap.size + 1 = q) := ⟨_, (rfl : _ = _)⟩
  have HO0 : Hid (∃ D, Oc w (.slice ra n rc) (.slice ta n tc) n R K gm gM 0 0 (fun _ _ => 0) [0] D (.slice (some ⟨gs, 0, none⟩) 1 1) (.slice none 0 0) (.slice none 0 0) w3 ∧ Ot w T gm gM 0 [0] (.slice (some ⟨gs, 0, none⟩) 1 1) (.slice none 0 0) (.slice none 0 0) w3) := by
    obtain ⟨q0, q1, q2, q3, q4, q5⟩ := HM0.out
    have e : ∀ g, g < w0.heap.size → g ≠ w.heap.size + 2 → w2.heap[g]? = w0.heap[g]? := fun g hg h2 => (hg2.block g (by omega) (fun x => h2 (Option.some.inj x))).trans (hg1.block g hg (fun x => h2 (Option.some.inj x)))
    have B2 : Below w.heap.size w w2 := (q1.grown hg1 q1.size (fun k hk => by simp at hk; omega)).grown hg2 (q1.grown hg1 q1.size (fun k hk => by simp at hk; omega)).size (fun k hk => by simp at hk; omega)
    have hA : Below w2.heap.size w2 w3 := by rw [← HW3.out]; exact ((Below.refl _ _).alloc (Nat.le_refl _) _).alloc (by simp) _
    have hgm := HGM.out
    have hgs := HGS.out
    have hgM := HGMM.out
    have hbs : w3.heap[gs]? = some (.cells #[.int .i64 0] 3 (0, 0)) := by
      rw [← HW3.out, ← hgs]
      exact (((Below.refl (w2.heap.size + 1) (w2.alloc _)).alloc (by simp) _).block w2.heap.size (by omega)).trans (heap_alloc_new w2 _)
    have hbM : w3.rowIs gM 25 2 (fun i => if i = 0 then .slice none 0 0 else .slice none 0 0) := by
      have := row_two (w2.alloc (Obj.cells #[.int .i64 0] 3)) (.slice none 0 0) (.slice none 0 0)
      rw [show (w2.alloc (Obj.cells #[.int .i64 0] 3)).heap.size = gM by simp; omega] at this
      rw [← HW3.out]; exact this
    refine ⟨_, ⟨B2.trans (hA.mono B2.size), (hA.cell (p := ⟨w.heap.size, 0, none⟩) (by simp; omega)).trans ((cell_same (e _ (by omega) (by omega)) 0).trans q2), (hA.cell (p := ⟨w.heap.size, 1, none⟩) (by simp; omega)).trans ((cell_same (e _ (by omega) (by omega)) 1).trans q3), (q4.of_block (e _ q4.lt (by omega))).of_block (hA.block (w.heap.size + 1) (by omega)), ?_, HMN.out, hbM, World.ownsRow_nil _ _ _ _, ⟨rfl, Or.inr ⟨gs, 1, #[.int .i64 0], rfl, by omega, hbs, by simp, by unfold maxLen; omega, rfl, rfl⟩⟩, fun g hg => ?_, fun g hg => by simp [Value.ownBlock] at hg, by omega, by omega, Mt.start hn0, fun r b hr => by omega, by simp, rfl, fun p hp => by omega, fun i hi => by omega⟩, ⟨World.ownsRow_nil _ _ _ _, fun g hg => by simp [Value.ownBlock] at hg⟩⟩
    · rw [← hgm]; exact map_same40 hm2 (hA.block _ (by omega))
    · simp [Value.ownBlock] at hg
      subst hg
      exact ⟨by omega, by omega, by simp [Value.ownBlock]⟩
  rw [HGM.out]
  clear hm1 hm2 hg1 hg2 hs1 hs2 HMN HV0 HV1 HKEY HKEN HM0
  go_wp2_with fail
  rw [HW3.out, HGMM.out, HGS.out]
  clear HW3 HGS HGMM HGM
  go_loopw [6] (fun mx wr => ∃ (k : Nat) (mv : Value), mx = mv ∧ k ≤ n ∧ Hid (∃ F met D rV tV, Oc w (.slice ra n rc) (.slice ta n tc) n R K gm gM k (k * 256) F met D mv rV tV wr ∧ Ot w T gm gM k met mv rV tV wr)) (fun _ wr => n - (match wr.cell? ⟨gM, 0, none⟩ with | some (.slice _ k _) => k | _ => 0))
  case atStart => obtain ⟨D, h1, h2⟩ := HO0.out; exact ⟨0, _, rfl, by omega, _, _, D, _, _, h1, h2⟩
  case round =>
    clear HO0
    obtain ⟨k, mv, hmv, hkn, HE⟩ := hrel
    have hmv2 := hmv.symm
    subst hmv2
    clear hmv
    obtain ⟨F, met, D, rV, tV, h1, h2⟩ := HE.out
    have HO : Hid (Oc w (.slice ra n rc) (.slice ta n tc) n R K gm gM k (k * 256) F met D mv rV tV wr) := h1
    have HTG : Hid (Ot w T gm gM k met mv rV tV wr) := h2
    obtain ⟨rVa, rVc, hrf⟩ : ∃ a c, rV = .slice a k c := by
      rcases h1.ro.2 with ⟨h, h0⟩ | ⟨g, c, cur, h, _⟩
      · exact ⟨none, 0, by rw [h, h0]⟩
      · exact ⟨_, _, h⟩
    obtain ⟨tVa, tVc, htf⟩ : ∃ a c, tV = .slice a k c := by
      rcases h2.to.2 with ⟨h, h0⟩ | ⟨g, c, cur, h, _⟩
      · exact ⟨none, 0, by rw [h, h0]⟩
      · exact ⟨_, _, h⟩
    obtain ⟨ml, HML⟩ : ∃ q, Hid (met.length = q) := ⟨_, (rfl : _ = _)⟩
    obtain ⟨gq, mc, hmf, hmg⟩ : ∃ g c, mv = .slice (some ⟨g, 0, none⟩) ml c ∧ ∀ i, i < ml → wr.cell? ⟨g, i, none⟩ = some (.int .i64 ((met.getD i 0 : Nat) : Int)) := by
      have hp := h1.mt.pos
      obtain ⟨g, c, e, -, hgl, hgc⟩ := cells_of_own h1.me hp
      exact ⟨g, c, by rw [e, HML.out], fun i hi => hgc i _ (tl_at _ _ i (by rw [HML.out]; exact hi))⟩
    subst hrf htf hmf
    have HMC : Hid (∀ i, i < ml → wr.cell? ⟨gq, i, none⟩ = some (.int .i64 ((met.getD i 0 : Nat) : Int))) := hmg
    have hkm : k ≤ ml := by rw [← HML.out]; exact h1.krl
    have hmn : ml ≤ n := by rw [← HML.out]; exact h1.mt.few
    have c0 := h1.mb.cell (i := 0) (by omega)
    simp only [if_true] at c0
    obtain ⟨W0, rfl⟩ : ∃ W0, W0 = wr := ⟨_, rfl⟩
    have HC00 : Hid (W0.cell? ⟨gM, 0, none⟩ = some (.slice rVa k rVc)) := c0
    clear h1 h2 HE hmg
    by_cases hlt : k < ml
    · have hk1 : (k : Int) < (ml : Int) := by omega
      have hk0 : (0 : Int) ≤ (k : Int) := by omega
      have c1 := HMC.out k hlt
      obtain ⟨s, HS⟩ : ∃ q, Hid (met.getD k 0 = q) := ⟨_, (rfl : _ = _)⟩
      have hsn : s < n := by rw [← HS.out]; exact HO.out.mt.lt k (by rw [HML.out]; exact hlt)
      rw [HS.out] at c1
      obtain ⟨rb, ro, hra, hrb, hrc⟩ : ∃ b o, ra = some ⟨b, o, none⟩ ∧ b < w.heap.size ∧ ∀ j, j < 256 → w.cell? ⟨b, o + s * 256 + j, none⟩ = some (.int .i16 (R s j)) := by
        obtain ⟨a1, x1, e, -, -, h⟩ := HRW.out
        simp at e
        obtain ⟨b, o, e2, g2, g3⟩ := h.resolve_left (by omega)
        exact ⟨b, o, by rw [e.1, e2], g2, fun j hj => g3 s hsn j hj⟩
      subst hra
      have HRG : Hid (∀ W, Below w.heap.size w W → W.rangeAt rb (ro + s * 256) (rl (R s))) := fun W hB => range_of_cells fun j hj => (hB.cell (p := ⟨rb, ro + s * 256 + j, none⟩) hrb).trans (hrc j hj)
      have HL : Hid ((rl (R s)).length = 256) := rl_length _
      have HIX : Hid (∀ j : Nat, j < 256 → ∀ w, (Instr.index 42 (.agg (rl (R s)).toArray) (.int .i64 (j : Int))).run Try.prog w = .ok (.int .i16 (R s j)) w) := fun j hj => index_row (R s) j hj
      obtain ⟨l1, HLN⟩ : ∃ q, Hid (rl (R s) = q) := ⟨_, (rfl : _ = _)⟩
      rw [HLN.out] at HRG HL HIX
      obtain ⟨z2, hz42, hz2s, hz2c⟩ : ∃ zs : Array Value, (∀ w, (zeroValue 42).run Try.prog w = .ok (.agg zs) w) ∧ zs.size = 256 ∧ ∀ i, i < 256 → zs[i]? = some (.int .i16 0) := ⟨_, (zero_of_info (P := Try.prog) (t := 42) (v := .agg (Array.replicate 256 (.int .i16 0))) (n := 256) (by kernel_rfl)).1, by simp, fun i hi => by simp [hi]⟩
      have hs0 : (0 : Int) ≤ (s : Int) := by omega
      have hs1 : (s : Int) < (n : Int) := by omega
      obtain ⟨W1, HW1⟩ : ∃ q, Hid (W0.alloc (Obj.cells z2 42) = q) := ⟨_, (rfl : _ = _)⟩
      obtain ⟨gw, HGW⟩ : ∃ q, Hid (W0.heap.size = q) := ⟨_, (rfl : _ = _)⟩
      have HI0 : Hid (∃ F met D, met.length = ml ∧ Oc w (.slice (some ⟨rb, ro, none⟩) n rc) (.slice ta n tc) n R K gm gM k (k * 256 + 0) F met D (.slice (some ⟨gq, 0, none⟩) ml mc) (.slice rVa k rVc) (.slice tVa k tVc) W1 ∧ Ot w T gm gM k met (.slice (some ⟨gq, 0, none⟩) ml mc) (.slice rVa k rVc) (.slice tVa k tVc) W1 ∧ Og w gm gM gw 0 k F (.slice (some ⟨gq, 0, none⟩) ml mc) (.slice rVa k rVc) (.slice tVa k tVc) W1 ∧ met.getD k 0 = s ∧ k < met.length ∧ k < cn F (k * 256) ∧ ∀ b, b < 0 → Nm K met (R s b) (F k b)) := by
        have hA : Below W0.heap.size W0 W1 := by rw [← HW1.out]; exact (Below.refl _ _).alloc (Nat.le_refl _) _
        have hrw := World.rowIs_alloc W0 z2 42 (fun _ => .int .i16 0) (fun i hi => hz2c i (by rw [← hz2s]; exact hi))
        rw [hz2s, HW1.out, HGW.out] at hrw
        have hgw := HGW.out
        have hml := HML.out
        refine ⟨F, met, D, hml, HO.out.next hA, HTG.out.next hA, ?_, HS.out, by omega, by rw [← HO.out.cnt]; omega, fun b hb => by omega⟩
        have l2 := HO.out.mb.lt
        have l3 := HO.out.o2
        have l4 := HO.out.rs.lt
        exact ⟨hrw.congr fun b _ => by simp, by omega, by omega, fun x => by have := (HO.out.me.lt _ x).2; omega, fun x => by have := (HO.out.ro.lt _ x).2; omega, fun x => by have := (HTG.out.to.lt _ x).2; omega, by omega⟩
      have HC1 : Hid (W1.cell? ⟨w.heap.size, 0, none⟩ = some (.slice (some ⟨rb, ro, none⟩) n rc) ∧ W1.rangeAt rb (ro + s * 256) l1) := by
        have hA : Below W0.heap.size W0 W1 := by rw [← HW1.out]; exact (Below.refl _ _).alloc (Nat.le_refl _) _
        exact ⟨(HO.out.next hA).c0, HRG.out W1 (HO.out.next hA).below⟩
      go_upto_region 8 with fail
      rw [HW1.out, HGW.out]
      have y0 := HC1.out.1
      go_wp2_with (refine wpList_load_mid rfl 42 _ rfl rb (ro + s * 256) rfl l1 _ HC1.out.2 Try.underlying42 rfl (by rw [HL.out]; exact size42) ?_)
      clear y0 HC1 c0 c1 HML HS HMC HO HTG
      go_loopw [6, 39] (fun mx iv wr => ∃ (j gq mc ml : Nat), mx = (.slice (some ⟨gq, 0, none⟩) ml mc) ∧ iv = .int .i64 (j : Int) ∧ j ≤ 256 ∧ ml ≤ n ∧ Hid (∃ F met D, met.length = ml ∧ Oc w (.slice (some ⟨rb, ro, none⟩) n rc) (.slice ta n tc) n R K gm gM k (k * 256 + j) F met D (.slice (some ⟨gq, 0, none⟩) ml mc) (.slice rVa k rVc) (.slice tVa k tVc) wr ∧ Ot w T gm gM k met (.slice (some ⟨gq, 0, none⟩) ml mc) (.slice rVa k rVc) (.slice tVa k tVc) wr ∧ Og w gm gM gw j k F (.slice (some ⟨gq, 0, none⟩) ml mc) (.slice rVa k rVc) (.slice tVa k tVc) wr ∧ met.getD k 0 = s ∧ k < met.length ∧ k < cn F (k * 256) ∧ ∀ b, b < j → Nm K met (R s b) (F k b))) (fun _ iv _ => 256 - (intOf iv).toNat)
      case atStart => exact ⟨0, gq, mc, ml, rfl, rfl, by omega, hmn, HI0⟩
      case round =>
        clear HI0
        obtain ⟨j, gq, mc, ml, rfl, rfl, hj, hmln, HE⟩ := hrel
        obtain ⟨F, met, D, hml, h1, h2, h3, h4, h5, h7, h6⟩ := HE.out
        have HO : Hid (Oc w (.slice (some ⟨rb, ro, none⟩) n rc) (.slice ta n tc) n R K gm gM k (k * 256 + j) F met D (.slice (some ⟨gq, 0, none⟩) ml mc) (.slice rVa k rVc) (.slice tVa k tVc) wr) := h1
        have HTG : Hid (Ot w T gm gM k met (.slice (some ⟨gq, 0, none⟩) ml mc) (.slice rVa k rVc) (.slice tVa k tVc) wr) := h2
        have HOG : Hid (Og w gm gM gw j k F (.slice (some ⟨gq, 0, none⟩) ml mc) (.slice rVa k rVc) (.slice tVa k tVc) wr) := h3
        have HML : Hid (met.length = ml) := hml
        have HS : Hid (met.getD k 0 = s ∧ k < met.length ∧ k < cn F (k * 256) ∧ ∀ b, b < j → Nm K met (R s b) (F k b)) := ⟨h4, h5, h7, h6⟩
        clear h1 h2 h3 h4 h5 h6 h7 hml HE
        by_cases hjt : j < 256
        · have hj0 : (0 : Int) ≤ (j : Int) := by omega
          have hj1 : (j : Int) < 256 := by omega
          have hix := HIX.out j hjt
          have hat0 := row_at HOK.out.1 hsn hjt
          have hkk := kindOf_any (.slice (some ⟨kg, 0, none⟩) n kc) n K (R s j) wr (HKS.out.below HO.out.below (Nat.le_refl _)) hat0
          have HKF : Hid (kof K (R s j) ≠ -1 → ∃ zz : Nat, R s j = (zz : Int) ∧ zz < n ∧ K zz = kof K (R s j)) := fun h => by
            have hz : ¬ R s j < 0 := fun x => h (by unfold kof; rw [if_pos x])
            exact ⟨(R s j).toNat, by omega, by have := hat0.2; omega, by unfold kof; rw [if_neg hz]⟩
          have HKG : Hid (-1 ≤ kof K (R s j) ∧ kof K (R s j) < (n : Int)) := by
            show _ ∧ _
            unfold kof
            split
            · omega
            · exact HKR.out _ (by have := hat0.2; omega)
          obtain ⟨z, HZK⟩ : ∃ q, Hid (R s j = q) := ⟨_, (rfl : _ = _)⟩
          rw [HZK.out] at hix hkk HKF HKG hat0
          obtain ⟨kk, HYK⟩ : ∃ q, Hid (kof K z = q) := ⟨_, (rfl : _ = _)⟩
          rw [HYK.out] at hkk HKF HKG
          have HKK : Hid (Calls Try.prog 47 #[(.slice (some ⟨kg, 0, none⟩) n kc), .int .i16 z] wr fun e w' => e = .returned (.int .i16 kk) ∧ w' = wr) := hkk
          have HAT : Hid (At n z) := hat0
          have HMO : Hid (wr.ownsMap Try.prog 40 (plainElem Try.prog 40) gm (ml + 1) D) := by have := HO.out.mp; rwa [HML.out] at this
          have HKEY : Hid (keyOf Try.prog 40 (.int .i16 kk) = some (.int .i16 kk)) := key40 (by have := HKG.out; omega)
          clear hkk hat0
          go_wp2_with fail
          refine HKK.out.mono ?_
          rintro _ w9 ⟨rfl, hw9⟩
          rw [hw9]
          clear hw9
          go_wp2_with (refine wpList_lookup_own_ok_int _ rfl _ _ 89 rfl 40 40 .i16 law40 Try.underlying89 Try.underlying40 (zero40 _) gm (ml + 1) D rfl HMO.out _ (.int .i16 kk) rfl HKEY.out ?_)
          intro c hat hwc
          have y0 := HOG.out.rw.cell (i := j) (by omega)
          have y1 := HOG.out.rw.frozen j
          by_cases hh : Maps.has D (.int .i16 kk) = true
          · have HKN : Hid (Nm K met z c ∧ c < (met.length : Int)) := by
              have hp := HO.out.mt.pos
              by_cases e : kk = -1
              · rw [e, HO.out.mi.neg] at hat
                have hc : c = -1 := by injection hat with h1; injection h1 with _ h2; exact h2.symm
                exact ⟨Or.inl ⟨by rw [HYK.out, e], hc⟩, by omega⟩
              · rcases (HO.out.mi.has kk (by have := HKG.out; omega)).1 hh with g | ⟨i, hi, g⟩
                · exact absurd g e
                · have := HO.out.mi.at_ i hi (by rw [g]; exact e)
                  rw [g, hat] at this
                  have hc : c = (i : Int) := by injection this with h1; injection h1
                  exact ⟨Or.inr ⟨by rw [HYK.out]; exact e, i, hi, hc, by rw [g, HYK.out]⟩, by omega⟩
            rw [hh]
            clear hat hwc hh
            go_wp2_with fail
            go_roundw
            case rel =>
              obtain ⟨h1, h2, h3⟩ := HO.out.known HOG.out HTG.out hjt HKN.out.2
              refine ⟨j + 1, gq, mc, ml, rfl, by go_num, by omega, hmln, _, met, D, HML.out, h1, h3, h2, HS.out.1, HS.out.2.1, by rw [cn_put1 (by omega)]; exact HS.out.2.2.1, fun b hb => ?_⟩
              by_cases e : b = j
              · subst e; rw [put1_same, HZK.out]; exact HKN.out.1
              · rw [put1_other (fun x => e x.2)]; exact HS.out.2.2.2 b (by omega)
            case measure => simp [intOf]; omega
          · have hh2 : Maps.has D (.int .i16 kk) = false := by simpa using hh
            have HNO : Hid (kk ≠ -1 ∧ ∀ i, i < met.length → K (met.getD i 0) ≠ kk) := ⟨fun e => hh ((HO.out.mi.has kk (by have := HKG.out; omega)).2 (Or.inl e)), fun i hi e => hh ((HO.out.mi.has kk (by have := HKG.out; omega)).2 (Or.inr ⟨i, hi, e⟩))⟩
            obtain ⟨zz, hzz, hzn, hzk⟩ := HKF.out HNO.out.1
            subst hzz
            have HZZ : Hid (zz < n ∧ K zz = kk) := ⟨hzn, hzk⟩
            have hwr : IntKind.i16.wrap (ml : Int) = (ml : Int) := wrap16 (by omega)
            have hw6 : IntKind.i64.wrap (zz : Int) = (zz : Int) := wrap_small (by omega)
            have HVL : Hid (plainElem (H := Unit) Try.prog 40 (.int .i16 (ml : Int)) = some (.lit (.int .i16 (ml : Int)), [])) := plainElem_int Try.underlying40 (by simp [Lit.wf, IntKind.min, IntKind.max, IntKind.signed, IntKind.bits]; omega)
            rw [hh2]
            clear hat hwc hh hh2 y0 y1 hzk
            go_wp2_with (refine wpList_mapUpdate_own _ rfl _ _ _ 89 rfl 40 40 law40 Try.underlying89 (plainElem Try.prog 40) gm (ml + 1) D rfl HMO.out (by unfold maxLen; omega) _ _ (.int .i16 kk) rfl rfl HKEY.out (.lit (.int .i16 (ml : Int))) [] HVL.out ?_)
            intro w4 hm4 hg4
            have HBA : Hid (Below w4.heap.size w4 (w4.alloc (Obj.cells #[.int .i64 (zz : Int)] 3))) := (Below.refl _ _).alloc (Nat.le_refl _) _
            have HOWN : Hid ((w4.alloc (Obj.cells #[.int .i64 (zz : Int)] 3)).ownsRow (w.heap.size + 2) 3 1 (.slice (some ⟨gq, 0, none⟩) ml mc) ml (tl ml (fun u => ((met.getD u 0 : Nat) : Int)))) := by
              have h1 := HO.out.me
              rw [HML.out] at h1
              exact own_same h1 fun a ha => (HBA.out.block a (by have := (h1.lt a ha).2; have := hg4.size; omega)).trans (hg4.block a (h1.lt a ha).2 (fun x => (HO.out.nm a ha).1 (Option.some.inj x)))
            have HS4 : Hid (wr.heap.size ≤ w4.heap.size ∧ w.heap.size + 2 ≤ wr.heap.size) := ⟨hg4.size, by have := HO.out.o1; have := HO.out.o2; have := HO.out.mb.lt; omega⟩
            have HG4 : Hid (wr.grownBy w4 (some gm) ∧ w4.ownsMap Try.prog 40 (plainElem Try.prog 40) gm (ml + 1 + 1) (D.put (.int .i16 kk) (.lit (.int .i16 (ml : Int))))) := ⟨hg4, hm4⟩
            clear hm4 hg4
            go_wp2_with (at_builtin; refine wpList_append_lies _ rfl _ _ 23 rfl (w.heap.size + 2) 3 i3 _ 1 8 Try.underlying23 H3.out.1 H3.out.2.1 H3.out.2.2.1 H3.out.2.2.2 rfl (by omega) _ _ _ rfl HOWN.out ⟨w4.heap.size, 0, none⟩ 1 1 [.int .i64 (zz : Int)] rfl rfl (fun j u hj => by rw [Addr.add_lit, Nat.zero_add, cell_of_one3]; exact hj) (by intro u hu; simp at hu; subst hu; rfl) (by omega) (by unfold maxLen; omega) (by omega) (by have := HS4.out; simp; omega) (w4.heap.size + 1) (by simp) ?_)
            intro gr cr w5 hown5 hgr5 hli5 hlt5
            have HNEW : Hid (Oc w (.slice (some ⟨rb, ro, none⟩) n rc) (.slice ta n tc) n R K gm gM k (k * 256 + (j + 1)) (put1 F k j (ml : Int)) (met ++ [zz]) (D.put (.int .i16 kk) (.lit (.int .i16 (ml : Int)))) (.slice (some ⟨gr, 0, none⟩) (ml + 1) cr) (.slice rVa k rVc) (.slice tVa k tVc) (w5.setCell ⟨gw, j, none⟩ (.int .i16 (ml : Int))) ∧ Og w gm gM gw (j + 1) k (put1 F k j (ml : Int)) (.slice (some ⟨gr, 0, none⟩) (ml + 1) cr) (.slice rVa k rVc) (.slice tVa k tVc) (w5.setCell ⟨gw, j, none⟩ (.int .i16 (ml : Int))) ∧ Ot w T gm gM k (met ++ [zz]) (.slice (some ⟨gr, 0, none⟩) (ml + 1) cr) (.slice rVa k rVc) (.slice tVa k tVc) (w5.setCell ⟨gw, j, none⟩ (.int .i16 (ml : Int))) ∧ w5.rowIs gw 42 256 (fun b => .int .i16 (if b < j then F k b else 0))) := by
              have hg4 := HG4.out.1
              have hs4 := HS4.out
              have hob : ∀ a, ((.slice (some ⟨gq, 0, none⟩) ml mc) : Value).ownBlock = some a → w.heap.size + 2 ≤ a := fun a ha => (HOWN.out.lt a ha).1
              have e5 : ∀ a, a < wr.heap.size → a ≠ gm → ((.slice (some ⟨gq, 0, none⟩) ml mc) : Value).ownBlock ≠ some a → w5.heap[a]? = wr.heap[a]? := fun a ha h1 h2 => (hgr5.block a (by simp; omega) (fun x => h2 x.symm)).trans ((HBA.out.block a (by omega)).trans (hg4.block a ha (fun x => h1 (Option.some.inj x))))
              have B4 : Below w.heap.size w w4 := HO.out.below.grown hg4 HO.out.below.size (fun a ha => by simp at ha; have := HO.out.o1; omega)
              have B5 : Below w.heap.size w w5 := (B4.trans (HBA.out.mono B4.size)).grown hgr5 (by simp; have := B4.size; omega) (fun a ha => by have := hob a ha; omega)
              have hmn5 : w5.ownsMap Try.prog 40 (plainElem Try.prog 40) gm (ml + 1 + 1) (D.put (.int .i16 kk) (.lit (.int .i16 (ml : Int)))) := map_same40 HG4.out.2 ((hgr5.block gm (by have := HO.out.o2; have := HO.out.mb.lt; simp; omega) (fun x => (HO.out.nm gm x.symm).1 rfl)).trans (HBA.out.block gm (by have := HO.out.o2; have := HO.out.mb.lt; omega)))
              have hmn : MN K (D.put (.int .i16 kk) (.lit (.int .i16 (ml : Int)))) (met ++ [zz]) := by
                have := HO.out.mi.more (z := zz) (by have := HKR.out zz HZZ.out.1; omega) (by rw [HZZ.out.2]; exact HNO.out.1) (by rw [HZZ.out.2]; exact HNO.out.2)
                rwa [HZZ.out.2, HML.out] at this
              have := HO.out.news HOG.out HTG.out hjt HZZ.out.1 (by rw [HZZ.out.2]; exact HNO.out.1) (by rw [HZZ.out.2]; exact HNO.out.2) B5 e5 (by rw [HML.out]; exact hmn5) hmn (by rw [HML.out]; exact hown5) (by rcases hli5 with x | x; exact Or.inl x; exact Or.inr (by omega))
              rwa [HML.out] at this
            have y0 := HNEW.out.2.2.2.cell (i := j) (by omega)
            have y1 := HNEW.out.2.2.2.frozen j
            clear hown5 hgr5 hli5 hlt5 HOWN HBA HG4 HS4 HMO
            go_wp2_with fail
            go_roundw
            case rel =>
              obtain ⟨h1, h2, h3, -⟩ := HNEW.out
              refine ⟨j + 1, gr, cr, ml + 1, by go_num, by go_num, by omega, by have := h1.mt.few; rw [List.length_append, HML.out] at this; simpa using this, _, _, _, by rw [List.length_append, HML.out]; rfl, h1, h3, h2, by rw [getD_left HS.out.2.1]; exact HS.out.1, by simp; have := HS.out.2.1; omega, by rw [cn_put1 (by omega)]; exact HS.out.2.2.1, fun b hb => ?_⟩
              by_cases e : b = j
              · subst e
                rw [put1_same, HZK.out]
                exact Or.inr ⟨by rw [HYK.out]; exact HNO.out.1, ml, by simp; have := HML.out; omega, rfl, by rw [← HML.out, getD_last, HZZ.out.2, HYK.out]⟩
              · rw [put1_other (fun x => e x.2)]; exact (HS.out.2.2.2 b (by omega)).more zz
            case measure => simp [intOf]; omega
        · obtain rfl : j = 256 := by omega
          have c0 := HO.out.mb.cell (i := 0) (by omega)
          have f0 := HO.out.mb.frozen 0
          simp only [if_true] at c0
          have HLR : Hid (wr.rangeAt gw 0 (rl fun y => F k y) ∧ (rl fun y => F k y).length = 256 ∧ (∀ u ∈ rl fun y => F k y, u.oneCell' = true) ∧ rcl (fun j => j) F k ++ (rl fun y => F k y) = rcl (fun j => j) F (k + 1)) := by
            refine ⟨fun q v hv => ?_, rl_length _, rl_one' _, rcl_succ (fun j => j) F k⟩
            have hq : q < 256 := by have := (List.getElem?_eq_some_iff.1 hv).1; rwa [rl_length] at this
            rw [rl_at _ q hq] at hv
            rw [Nat.zero_add, HOG.out.rw.cell hq, if_pos hq, hv]
          obtain ⟨lr, HLRN⟩ : ∃ q, Hid ((rl fun y => F k y) = q) := ⟨_, (rfl : _ = _)⟩
          rw [HLRN.out] at HLR
          have HSL : Hid ((Try.prog.info? 42).map (·.size) = some lr.length) := by show _ = _; rw [HLR.out.2.1]; exact size42
          have HBA : Hid (Below wr.heap.size wr (wr.alloc (Obj.cells lr.toArray 42))) := (Below.refl _ _).alloc (Nat.le_refl _) _
          have HOWN : Hid ((wr.alloc (Obj.cells lr.toArray 42)).ownsRow (w.heap.size + 2) 42 256 (.slice rVa k rVc) k (rcl (fun j => j) F k)) := own_same HO.out.ro fun a ha => HBA.out.block a (HO.out.ro.lt a ha).2
          have HS2 : Hid (k + 1 ≤ maxLen ∧ (k + 1) * 512 ≤ 140737488355328 ∧ w.heap.size + 2 ≤ (wr.alloc (Obj.cells lr.toArray 42)).heap.size) := ⟨by unfold maxLen; omega, by omega, by have := HO.out.o1; have := HO.out.o2; have := HO.out.mb.lt; simp; omega⟩
          go_wp2_with (refine wpList_load_mid rfl 42 _ rfl gw 0 rfl lr _ HLR.out.1 Try.underlying42 rfl HSL.out ?_)
          refine wp_buildSlice 22 42 1 _ rfl lr.toArray i42 _ Try.underlying22 H42.out.1 H42.out.2.1 (by rw [H42.out.2.2.1]; omega) (by rw [H42.out.2.2.1]; omega) ?hf ?_
          case hf =>
            rw [H42.out.2.2.1]
            simp only [List.map_toArray, List.map_cons, List.map_nil]
            exact fill_row lr HLR.out.2.1 _ (by simp)
          simp only [Act.put, List.setIfInBounds_toArray, List.set_cons_zero, List.set_cons_succ]
          go_wp2_with (at_builtin; refine wpList_append_lies _ rfl _ _ 22 rfl (w.heap.size + 2) 42 i42 _ 256 512 Try.underlying22 H42.out.1 H42.out.2.1 H42.out.2.2.1 H42.out.2.2.2 (by simp [Value.cells]) (by omega) _ _ _ rfl HOWN.out ⟨wr.heap.size, 0, none⟩ 1 1 lr rfl (by rw [HLR.out.2.1]) ?qc2 HLR.out.2.2.1 (by omega) HS2.out.1 HS2.out.2.1 HS2.out.2.2 (wr.heap.size + 1) (by simp) ?_)
          case qc2 =>
            intro q u hq
            rw [Addr.add_lit, Nat.zero_add, cell_of_block]
            exact hq
          intro gr1 cr1 w5 hown5 hgr5 hli5 hlt5
          rw [HLR.out.2.2.2] at hown5
          have HNEW : Hid (w5.rowIs gM 25 2 (fun i => if i = 0 then (.slice rVa k rVc) else (.slice tVa k tVc)) ∧ Oc w (.slice (some ⟨rb, ro, none⟩) n rc) (.slice ta n tc) n R K gm gM (k + 1) ((k + 1) * 256) F met D (.slice (some ⟨gq, 0, none⟩) ml mc) (.slice (some ⟨gr1, 0, none⟩) (k + 1) cr1) (.slice tVa k tVc) (w5.setCell ⟨gM, 0, none⟩ (.slice (some ⟨gr1, 0, none⟩) (k + 1) cr1)) ∧ Ot w T gm gM k met (.slice (some ⟨gq, 0, none⟩) ml mc) (.slice (some ⟨gr1, 0, none⟩) (k + 1) cr1) (.slice tVa k tVc) (w5.setCell ⟨gM, 0, none⟩ (.slice (some ⟨gr1, 0, none⟩) (k + 1) cr1))) := by
            have hob : ∀ a, ((.slice rVa k rVc) : Value).ownBlock = some a → w.heap.size + 2 ≤ a := fun a ha => (HO.out.ro.lt a ha).1
            have B5 : Below w.heap.size w w5 := (HO.out.below.trans (HBA.out.mono HO.out.below.size)).grown hgr5 (by have := HO.out.below.size; simp; omega) (fun a ha => by have := hob a ha; omega)
            exact HO.out.rowed HTG.out HS.out.2.1 HS.out.2.2.1 (by rw [HS.out.1]; exact HS.out.2.2.2) B5 (fun a ha h2 => (hgr5.block a (by simp; omega) (fun x => h2 x.symm)).trans (HBA.out.block a ha)) hown5 (by rcases hli5 with x | x; exact Or.inl x; exact Or.inr (by omega))
          have z0 := HNEW.out.1.cell (i := 0) (by omega)
          have z1 := HNEW.out.1.frozen 0
          simp only [if_true] at z0
          obtain ⟨tb, to, hta, htb, htc⟩ : ∃ b o, ta = some ⟨b, o, none⟩ ∧ b < w.heap.size ∧ w.cell? ⟨b, o + s, none⟩ = some (.int .i64 (T s)) := by
            obtain ⟨a1, x1, e, -, -, h⟩ := HTS.out
            simp at e
            obtain ⟨b, o, e2, g2, g3⟩ := h.resolve_left (by omega)
            exact ⟨b, o, by rw [e.1, e2], g2, g3 s hsn⟩
          subst hta
          have HTC : Hid (tb < w.heap.size ∧ w.cell? ⟨tb, to + s, none⟩ = some (.int .i64 (T s))) := ⟨htb, htc⟩
          clear hown5 hgr5 hli5 hlt5 HOWN HBA HS2 HLR htb htc c0 f0
          go_upto_region 20 with fail
          obtain ⟨W6, HW6⟩ : ∃ q, Hid (w5.setCell ⟨gM, 0, none⟩ (.slice (some ⟨gr1, 0, none⟩) (k + 1) cr1) = q) := ⟨_, (rfl : _ = _)⟩
          have H6 : Hid (Oc w (.slice (some ⟨rb, ro, none⟩) n rc) (.slice (some ⟨tb, to, none⟩) n tc) n R K gm gM (k + 1) ((k + 1) * 256) F met D (.slice (some ⟨gq, 0, none⟩) ml mc) (.slice (some ⟨gr1, 0, none⟩) (k + 1) cr1) (.slice tVa k tVc) W6 ∧ Ot w T gm gM k met (.slice (some ⟨gq, 0, none⟩) ml mc) (.slice (some ⟨gr1, 0, none⟩) (k + 1) cr1) (.slice tVa k tVc) W6) := by rw [← HW6.out]; exact HNEW.out.2
          have HSS : Hid (T (met.getD k 0) = T s) := by show _ = _; rw [HS.out.1]
          rw [HW6.out]
          clear HNEW z0 z1 HW6 HO HTG HOG
          refine wp_region_free mixed (fun a0 d a W => ∃ (gb : Nat) (gr : Nat) (cr : Nat) (x75 x76 x77 x78 x79 x80 x81 x82 x83 x84 : Value), a = ((((((((((a0.put (some 75) x75).put (some 76) x76).put (some 77) x77).put (some 78) x78).put (some 79) x79).put (some 80) x80).put (some 81) x81).put (some 82) x82).put (some 83) x83).put (some 84) x84) ∧ Hid (RT20 w n R T K rb ro rc tb to tc gm gM k F met D (.slice (some ⟨gq, 0, none⟩) ml mc) (.slice (some ⟨gr1, 0, none⟩) (k + 1) cr1) (.slice tVa k tVc) s gb gr cr d x75 x76 x77 x78 x79 x80 x81 x82 x83 x84 W)) (by kernel_rfl) ⟨0, 0, 0, u75, u76, u77, u78, u79, u80, u81, u82, u83, u84, by simp only [Act.put, List.setIfInBounds_toArray, List.set_cons_zero, List.set_cons_succ], ?_⟩ ?_ ?_
          · exact ⟨fun h => no_way h, fun h => no_way h, fun h => no_way h, fun h => no_way h, fun h => no_way h, fun h => no_way h, fun h => no_way h, fun h => no_way h, fun h => no_way h, fun h => no_way h, fun _ => trivial, fun h => no_way h, fun h => no_way h, fun h => no_way h, ⟨H6.out.1.below.drew, H6.out.1.c1⟩, fun _ => ⟨H6.out.1.next (Below.refl _ _).drew, H6.out.2.next (Below.refl _ _).drew⟩, fun h => no_way h, fun h => no_way h, fun h => no_way h⟩
          · simp only [StepAll, and_true]
            refine ⟨?_, ?_, ?_, ?_, ?_, ?_, ?_, ?_, ?_, ?_, ?_⟩
            · intro d a W hI hd hdep
              obtain ⟨gb, gr, cr, x75, x76, x77, x78, x79, x80, x81, x82, x83, x84, rfl, hF⟩ := hI
              clear hdep hd
              intro K hK
              simp only [Act.put, List.setIfInBounds_toArray, List.set_cons_zero, List.set_cons_succ]
              go_simp
              refine hK.out _ _ ⟨gb, gr, cr, (.pointer (some ⟨gM, 1, none⟩)), x76, x77, x78, x79, x80, x81, x82, x83, x84, by simp only [Act.put, List.setIfInBounds_toArray, List.set_cons_zero, List.set_cons_succ], ?_⟩
              exact ⟨fun _ => rfl, fun h => hF.out.f1 (by simpa using h), fun h => hF.out.f2 (by simpa using h), fun h => hF.out.f3 (by simpa using h), fun h => hF.out.f4 (by simpa using h), fun h => hF.out.f5 (by simpa using h), fun h => hF.out.f6 (by simpa using h), fun h => hF.out.f7 (by simpa using h), fun h => hF.out.f8 (by simpa using h), fun h => hF.out.f9 (by simpa using h), fun h => hF.out.f10 (by simpa using h), fun h => by have := hF.out.p1 (by simpa using h); simpa using this, fun h => by have := hF.out.p7 (by simpa using h); simpa using this, fun h => by have := hF.out.q10 (by simpa using h); simpa using this, hF.out.cc, fun h => hF.out.oc (by simpa using h), fun h h2 => hF.out.bs (by simpa using h) (by simpa using h2), fun h h2 => hF.out.th (by simpa using h) (by simpa using h2), fun h => hF.out.fin (by simpa using h)⟩
            · intro d a W hI hd hdep
              obtain ⟨gb, gr, cr, x75, x76, x77, x78, x79, x80, x81, x82, x83, x84, rfl, hF⟩ := hI
              have hd0 : d 0 = true := dep_of hdep 0 (by kernel_rfl)
              obtain rfl := hF.out.f0 hd0
              have HN8 : Hid (d 8 = false) := no_later hF.out.p1 hd
              have hoc := hF.out.oc HN8.out
              have ya := hoc.1.mb.cell (i := 1) (by omega)
              rw [if_neg (by omega)] at ya
              clear hoc
              clear hdep hd hd0
              intro K hK
              simp only [Act.put, List.setIfInBounds_toArray, List.set_cons_zero, List.set_cons_succ]
              go_simp
              refine hK.out _ _ ⟨gb, gr, cr, (.pointer (some ⟨gM, 1, none⟩)), (.slice tVa k tVc), x77, x78, x79, x80, x81, x82, x83, x84, by simp only [Act.put, List.setIfInBounds_toArray, List.set_cons_zero, List.set_cons_succ], ?_⟩
              exact ⟨fun h => hF.out.f0 (by simpa using h), fun _ => rfl, fun h => hF.out.f2 (by simpa using h), fun h => hF.out.f3 (by simpa using h), fun h => hF.out.f4 (by simpa using h), fun h => hF.out.f5 (by simpa using h), fun h => hF.out.f6 (by simpa using h), fun h => hF.out.f7 (by simpa using h), fun h => hF.out.f8 (by simpa using h), fun h => hF.out.f9 (by simpa using h), fun h => hF.out.f10 (by simpa using h), fun _ => by simp, fun h => by have := hF.out.p7 (by simpa using h); simpa using this, fun h => by have := hF.out.q10 (by simpa using h); simpa using this, hF.out.cc, fun h => hF.out.oc (by simpa using h), fun h h2 => hF.out.bs (by simpa using h) (by simpa using h2), fun h h2 => hF.out.th (by simpa using h) (by simpa using h2), fun h => hF.out.fin (by simpa using h)⟩
            · intro d a W hI hd hdep
              obtain ⟨gb, gr, cr, x75, x76, x77, x78, x79, x80, x81, x82, x83, x84, rfl, hF⟩ := hI
              clear hdep hd
              intro K hK
              simp only [Act.put, List.setIfInBounds_toArray, List.set_cons_zero, List.set_cons_succ]
              go_simp
              refine hK.out _ _ ⟨gb, gr, cr, x75, x76, (.pointer (some ⟨w.heap.size, 1, none⟩)), x78, x79, x80, x81, x82, x83, x84, by simp only [Act.put, List.setIfInBounds_toArray, List.set_cons_zero, List.set_cons_succ], ?_⟩
              exact ⟨fun h => hF.out.f0 (by simpa using h), fun h => hF.out.f1 (by simpa using h), fun _ => rfl, fun h => hF.out.f3 (by simpa using h), fun h => hF.out.f4 (by simpa using h), fun h => hF.out.f5 (by simpa using h), fun h => hF.out.f6 (by simpa using h), fun h => hF.out.f7 (by simpa using h), fun h => hF.out.f8 (by simpa using h), fun h => hF.out.f9 (by simpa using h), fun h => hF.out.f10 (by simpa using h), fun h => by have := hF.out.p1 (by simpa using h); simpa using this, fun h => by have := hF.out.p7 (by simpa using h); simpa using this, fun h => by have := hF.out.q10 (by simpa using h); simpa using this, hF.out.cc, fun h => hF.out.oc (by simpa using h), fun h h2 => hF.out.bs (by simpa using h) (by simpa using h2), fun h h2 => hF.out.th (by simpa using h) (by simpa using h2), fun h => hF.out.fin (by simpa using h)⟩
            · intro d a W hI hd hdep
              obtain ⟨gb, gr, cr, x75, x76, x77, x78, x79, x80, x81, x82, x83, x84, rfl, hF⟩ := hI
              have hd2 : d 2 = true := dep_of hdep 2 (by kernel_rfl)
              obtain rfl := hF.out.f2 hd2
              have ya := hF.out.cc.2
              clear hdep hd hd2
              intro K hK
              simp only [Act.put, List.setIfInBounds_toArray, List.set_cons_zero, List.set_cons_succ]
              go_simp
              refine hK.out _ _ ⟨gb, gr, cr, x75, x76, (.pointer (some ⟨w.heap.size, 1, none⟩)), (.slice (some ⟨tb, to, none⟩) n tc), x79, x80, x81, x82, x83, x84, by simp only [Act.put, List.setIfInBounds_toArray, List.set_cons_zero, List.set_cons_succ], ?_⟩
              exact ⟨fun h => hF.out.f0 (by simpa using h), fun h => hF.out.f1 (by simpa using h), fun h => hF.out.f2 (by simpa using h), fun _ => rfl, fun h => hF.out.f4 (by simpa using h), fun h => hF.out.f5 (by simpa using h), fun h => hF.out.f6 (by simpa using h), fun h => hF.out.f7 (by simpa using h), fun h => hF.out.f8 (by simpa using h), fun h => hF.out.f9 (by simpa using h), fun h => hF.out.f10 (by simpa using h), fun h => by have := hF.out.p1 (by simpa using h); simpa using this, fun h => by have := hF.out.p7 (by simpa using h); simpa using this, fun h => by have := hF.out.q10 (by simpa using h); simpa using this, hF.out.cc, fun h => hF.out.oc (by simpa using h), fun h h2 => hF.out.bs (by simpa using h) (by simpa using h2), fun h h2 => hF.out.th (by simpa using h) (by simpa using h2), fun h => hF.out.fin (by simpa using h)⟩
            · intro d a W hI hd hdep
              obtain ⟨gb, gr, cr, x75, x76, x77, x78, x79, x80, x81, x82, x83, x84, rfl, hF⟩ := hI
              clear hdep hd
              intro K hK
              simp only [Act.put, List.setIfInBounds_toArray, List.set_cons_zero, List.set_cons_succ]
              go_simp
              refine hK.out _ _ ⟨gb, gr, cr, x75, x76, x77, x78, (.int .i64 (s : Int)), x80, x81, x82, x83, x84, by simp only [Act.put, List.setIfInBounds_toArray, List.set_cons_zero, List.set_cons_succ], ?_⟩
              exact ⟨fun h => hF.out.f0 (by simpa using h), fun h => hF.out.f1 (by simpa using h), fun h => hF.out.f2 (by simpa using h), fun h => hF.out.f3 (by simpa using h), fun _ => rfl, fun h => hF.out.f5 (by simpa using h), fun h => hF.out.f6 (by simpa using h), fun h => hF.out.f7 (by simpa using h), fun h => hF.out.f8 (by simpa using h), fun h => hF.out.f9 (by simpa using h), fun h => hF.out.f10 (by simpa using h), fun h => by have := hF.out.p1 (by simpa using h); simpa using this, fun h => by have := hF.out.p7 (by simpa using h); simpa using this, fun h => by have := hF.out.q10 (by simpa using h); simpa using this, hF.out.cc, fun h => hF.out.oc (by simpa using h), fun h h2 => hF.out.bs (by simpa using h) (by simpa using h2), fun h h2 => hF.out.th (by simpa using h) (by simpa using h2), fun h => hF.out.fin (by simpa using h)⟩
            · intro d a W hI hd hdep
              obtain ⟨gb, gr, cr, x75, x76, x77, x78, x79, x80, x81, x82, x83, x84, rfl, hF⟩ := hI
              have hd3 : d 3 = true := dep_of hdep 3 (by kernel_rfl)
              have hd4 : d 4 = true := dep_of hdep 4 (by kernel_rfl)
              obtain rfl := hF.out.f3 hd3
              obtain rfl := hF.out.f4 hd4
              clear hdep hd hd3 hd4
              intro K hK
              simp only [Act.put, List.setIfInBounds_toArray, List.set_cons_zero, List.set_cons_succ]
              go_simp
              refine hK.out _ _ ⟨gb, gr, cr, x75, x76, x77, (.slice (some ⟨tb, to, none⟩) n tc), (.int .i64 (s : Int)), (.pointer (some ⟨tb, to + s, none⟩)), x81, x82, x83, x84, by simp only [Act.put, List.setIfInBounds_toArray, List.set_cons_zero, List.set_cons_succ], ?_⟩
              exact ⟨fun h => hF.out.f0 (by simpa using h), fun h => hF.out.f1 (by simpa using h), fun h => hF.out.f2 (by simpa using h), fun h => hF.out.f3 (by simpa using h), fun h => hF.out.f4 (by simpa using h), fun _ => rfl, fun h => hF.out.f6 (by simpa using h), fun h => hF.out.f7 (by simpa using h), fun h => hF.out.f8 (by simpa using h), fun h => hF.out.f9 (by simpa using h), fun h => hF.out.f10 (by simpa using h), fun h => by have := hF.out.p1 (by simpa using h); simpa using this, fun h => by have := hF.out.p7 (by simpa using h); simpa using this, fun h => by have := hF.out.q10 (by simpa using h); simpa using this, hF.out.cc, fun h => hF.out.oc (by simpa using h), fun h h2 => hF.out.bs (by simpa using h) (by simpa using h2), fun h h2 => hF.out.th (by simpa using h) (by simpa using h2), fun h => hF.out.fin (by simpa using h)⟩
            · intro d a W hI hd hdep
              obtain ⟨gb, gr, cr, x75, x76, x77, x78, x79, x80, x81, x82, x83, x84, rfl, hF⟩ := hI
              have hd5 : d 5 = true := dep_of hdep 5 (by kernel_rfl)
              obtain rfl := hF.out.f5 hd5
              have ya := (hF.out.cc.1.cell (p := ⟨tb, to + s, none⟩) HTC.out.1).trans HTC.out.2
              clear hdep hd hd5
              intro K hK
              simp only [Act.put, List.setIfInBounds_toArray, List.set_cons_zero, List.set_cons_succ]
              go_simp
              refine hK.out _ _ ⟨gb, gr, cr, x75, x76, x77, x78, x79, (.pointer (some ⟨tb, to + s, none⟩)), (.int .i64 (T s)), x82, x83, x84, by simp only [Act.put, List.setIfInBounds_toArray, List.set_cons_zero, List.set_cons_succ], ?_⟩
              exact ⟨fun h => hF.out.f0 (by simpa using h), fun h => hF.out.f1 (by simpa using h), fun h => hF.out.f2 (by simpa using h), fun h => hF.out.f3 (by simpa using h), fun h => hF.out.f4 (by simpa using h), fun h => hF.out.f5 (by simpa using h), fun _ => rfl, fun h => hF.out.f7 (by simpa using h), fun h => hF.out.f8 (by simpa using h), fun h => hF.out.f9 (by simpa using h), fun h => hF.out.f10 (by simpa using h), fun h => by have := hF.out.p1 (by simpa using h); simpa using this, fun h => by have := hF.out.p7 (by simpa using h); simpa using this, fun h => by have := hF.out.q10 (by simpa using h); simpa using this, hF.out.cc, fun h => hF.out.oc (by simpa using h), fun h h2 => hF.out.bs (by simpa using h) (by simpa using h2), fun h h2 => hF.out.th (by simpa using h) (by simpa using h2), fun h => hF.out.fin (by simpa using h)⟩
            · intro d a W hI hd hdep
              obtain ⟨gb, gr, cr, x75, x76, x77, x78, x79, x80, x81, x82, x83, x84, rfl, hF⟩ := hI
              have hd6 : d 6 = true := dep_of hdep 6 (by kernel_rfl)
              obtain rfl := hF.out.f6 hd6
              have HN8 : Hid (d 8 = false) := no_later hF.out.p7 hd
              have hoc := hF.out.oc HN8.out
              clear hdep hd hd6
              intro K hK
              simp only [Act.put, List.setIfInBounds_toArray, List.set_cons_zero, List.set_cons_succ]
              go_simp
              refine hK.out _ _ ⟨W.heap.size, gr, cr, x75, x76, x77, x78, x79, x80, (.int .i64 (T s)), (.slice (some ⟨W.heap.size, 0, none⟩) 1 1), x83, x84, by simp only [Act.put, List.setIfInBounds_toArray, List.set_cons_zero, List.set_cons_succ], ?_⟩
              have B1 := (Below.refl W.heap.size W).alloc (Nat.le_refl _) (Obj.cells #[Value.int .i64 (T s)] 3)
              exact ⟨fun h => hF.out.f0 (by simpa using h), fun h => hF.out.f1 (by simpa using h), fun h => hF.out.f2 (by simpa using h), fun h => hF.out.f3 (by simpa using h), fun h => hF.out.f4 (by simpa using h), fun h => hF.out.f5 (by simpa using h), fun h => hF.out.f6 (by simpa using h), fun _ => rfl, fun h => hF.out.f8 (by simpa using h), fun h => hF.out.f9 (by simpa using h), fun h => hF.out.f10 (by simpa using h), fun h => by have := hF.out.p1 (by simpa using h); simpa using this, fun _ => by simp, fun h => by have := hF.out.q10 (by simpa using h); simpa using this, ⟨hF.out.cc.1.trans (B1.mono hF.out.cc.1.size), Go.Lib.cell?_alloc_some _ hF.out.cc.2⟩, fun _ => ⟨hoc.1.next B1, hoc.2.next B1⟩, fun _ _ j u hj => by rw [cell_of_one3]; exact hj, fun h => by have := HN8.out; simp [this] at h, fun h => by have : d 10 = false := no_later hF.out.q10 HN8.out; simp [this] at h⟩
            · intro d a W hI hd hdep
              obtain ⟨gb, gr, cr, x75, x76, x77, x78, x79, x80, x81, x82, x83, x84, rfl, hF⟩ := hI
              have hd1 : d 1 = true := dep_of hdep 1 (by kernel_rfl)
              have hd7 : d 7 = true := dep_of hdep 7 (by kernel_rfl)
              obtain rfl := hF.out.f1 hd1
              obtain rfl := hF.out.f7 hd7
              have hoc := hF.out.oc hd
              have HN10 : Hid (d 10 = false) := no_later hF.out.q10 hd
              have e8_1 := hd1
              have e8_7 := hd7
              have hbk := hF.out.bs hd7 hd
              have hm := run_append_lies (P := Try.prog) W 23 23 (w.heap.size + 2) 3 i3 _ 1 8 Try.underlying23 H3.out.1 H3.out.2.1 H3.out.2.2.1 H3.out.2.2.2 rfl (by omega) (.slice tVa k tVc) k (tl k (fun r => T (met.getD r 0))) hoc.2.to ⟨gb, 0, none⟩ 1 1 [.int .i64 (T s)] rfl (fun j u hj => by rw [Addr.add_lit, Nat.zero_add]; exact hbk j u hj) (by intro u hu; simp at hu; subst hu; rfl) (by omega) (by unfold maxLen; omega) (by omega) (by have := hoc.1.o1; have := hoc.1.o2; have := hoc.1.mb.lt; omega) W.heap.size rfl
              have hmm := hm.choose_spec.choose_spec.choose_spec
              generalize hm.choose_spec.choose_spec.choose = W1x at hmm
              generalize hm.choose_spec.choose = cr2 at hmm
              generalize hm.choose = gr2 at hmm
              have hrun := hmm.1
              have HM : Hid (Oc w (.slice (some ⟨rb, ro, none⟩) n rc) (.slice (some ⟨tb, to, none⟩) n tc) n R K gm gM (k + 1) ((k + 1) * 256) F met D (.slice (some ⟨gq, 0, none⟩) ml mc) (.slice (some ⟨gr1, 0, none⟩) (k + 1) cr1) (.slice tVa k tVc) W1x ∧ Oh w T gm gM k met (.slice (some ⟨gq, 0, none⟩) ml mc) (.slice (some ⟨gr1, 0, none⟩) (k + 1) cr1) gr2 cr2 W1x) := hoc.1.tagged hoc.2 hmm.2.2.1 (by rw [HSS.out]; exact hmm.2.1) hmm.2.2.2.1
              clear hmm hm hbk hoc
              clear hdep hd hd1 hd7
              intro K hK
              refine step_call_append (sv := (.slice tVa k tVc)) (xv := .slice (some ⟨gb, 0, none⟩) 1 1) (v := .slice (some ⟨gr2, 0, none⟩) (k + 1) cr2) (W1 := W1x) (by rfl) _ _ 23 (by rfl) (by simp only [Act.put, List.setIfInBounds_toArray, List.set_cons_zero, List.set_cons_succ]; rfl) (by simp only [Act.put, List.setIfInBounds_toArray, List.set_cons_zero, List.set_cons_succ]; rfl) (by exact hrun) ?_
              simp only [Act.put, List.setIfInBounds_toArray, List.set_cons_zero, List.set_cons_succ]
              refine hK.out _ _ ⟨gb, gr2, cr2, x75, (.slice tVa k tVc), x77, x78, x79, x80, x81, (.slice (some ⟨gb, 0, none⟩) 1 1), (.slice (some ⟨gr2, 0, none⟩) (k + 1) cr2), x84, by simp only [Act.put, List.setIfInBounds_toArray, List.set_cons_zero, List.set_cons_succ], ?_⟩
              exact ⟨fun h => hF.out.f0 (by simpa using h), fun h => hF.out.f1 (by simpa using h), fun h => hF.out.f2 (by simpa using h), fun h => hF.out.f3 (by simpa using h), fun h => hF.out.f4 (by simpa using h), fun h => hF.out.f5 (by simpa using h), fun h => hF.out.f6 (by simpa using h), fun h => hF.out.f7 (by simpa using h), fun _ => rfl, fun h => hF.out.f9 (by simpa using h), fun h => hF.out.f10 (by simpa using h), fun _ => by simpa using e8_1, fun _ => by simpa using e8_7, fun _ => by simp, ⟨HM.out.1.below, HM.out.1.c1⟩, fun h => by simp at h, fun _ h => by simp at h, fun _ _ => HM.out, fun h => by have := HN10.out; simp [this] at h⟩
            · intro d a W hI hd hdep
              obtain ⟨gb, gr, cr, x75, x76, x77, x78, x79, x80, x81, x82, x83, x84, rfl, hF⟩ := hI
              clear hdep hd
              intro K hK
              simp only [Act.put, List.setIfInBounds_toArray, List.set_cons_zero, List.set_cons_succ]
              go_simp
              refine hK.out _ _ ⟨gb, gr, cr, x75, x76, x77, x78, x79, x80, x81, x82, x83, (.pointer (some ⟨gM, 1, none⟩)), by simp only [Act.put, List.setIfInBounds_toArray, List.set_cons_zero, List.set_cons_succ], ?_⟩
              exact ⟨fun h => hF.out.f0 (by simpa using h), fun h => hF.out.f1 (by simpa using h), fun h => hF.out.f2 (by simpa using h), fun h => hF.out.f3 (by simpa using h), fun h => hF.out.f4 (by simpa using h), fun h => hF.out.f5 (by simpa using h), fun h => hF.out.f6 (by simpa using h), fun h => hF.out.f7 (by simpa using h), fun h => hF.out.f8 (by simpa using h), fun _ => rfl, fun h => hF.out.f10 (by simpa using h), fun h => by have := hF.out.p1 (by simpa using h); simpa using this, fun h => by have := hF.out.p7 (by simpa using h); simpa using this, fun h => by have := hF.out.q10 (by simpa using h); simpa using this, hF.out.cc, fun h => hF.out.oc (by simpa using h), fun h h2 => hF.out.bs (by simpa using h) (by simpa using h2), fun h h2 => hF.out.th (by simpa using h) (by simpa using h2), fun h => hF.out.fin (by simpa using h)⟩
            · intro d a W hI hd hdep
              obtain ⟨gb, gr, cr, x75, x76, x77, x78, x79, x80, x81, x82, x83, x84, rfl, hF⟩ := hI
              have hd9 : d 9 = true := dep_of hdep 9 (by kernel_rfl)
              have hd8 : d 8 = true := dep_of hdep 8 (by kernel_rfl)
              obtain rfl := hF.out.f9 hd9
              obtain rfl := hF.out.f8 hd8
              have g8 := hd8
              have hth := hF.out.th hd8 hd
              have HTH : Hid (Oc w (.slice (some ⟨rb, ro, none⟩) n rc) (.slice (some ⟨tb, to, none⟩) n tc) n R K gm gM (k + 1) ((k + 1) * 256) F met D (.slice (some ⟨gq, 0, none⟩) ml mc) (.slice (some ⟨gr1, 0, none⟩) (k + 1) cr1) (.slice tVa k tVc) W ∧ Oh w T gm gM k met (.slice (some ⟨gq, 0, none⟩) ml mc) (.slice (some ⟨gr1, 0, none⟩) (k + 1) cr1) gr cr W) := hth
              have ya := hth.1.mb.cell (i := 1) (by omega)
              have yb := hth.1.mb.frozen 1
              clear hth
              clear hdep hd hd9 hd8
              intro K hK
              simp only [Act.put, List.setIfInBounds_toArray, List.set_cons_zero, List.set_cons_succ]
              go_simp
              refine hK.out _ _ ⟨gb, gr, cr, x75, x76, x77, x78, x79, x80, x81, x82, (.slice (some ⟨gr, 0, none⟩) (k + 1) cr), (.pointer (some ⟨gM, 1, none⟩)), by simp only [Act.put, List.setIfInBounds_toArray, List.set_cons_zero, List.set_cons_succ], ?_⟩
              exact ⟨fun h => hF.out.f0 (by simpa using h), fun h => hF.out.f1 (by simpa using h), fun h => hF.out.f2 (by simpa using h), fun h => hF.out.f3 (by simpa using h), fun h => hF.out.f4 (by simpa using h), fun h => hF.out.f5 (by simpa using h), fun h => hF.out.f6 (by simpa using h), fun h => hF.out.f7 (by simpa using h), fun h => hF.out.f8 (by simpa using h), fun h => hF.out.f9 (by simpa using h), fun _ => trivial, fun h => by have := hF.out.p1 (by simpa using h); simpa using this, fun h => by have := hF.out.p7 (by simpa using h); simpa using this, fun _ => by simpa using g8, have k := HTH.out.2.put HTH.out.1; ⟨k.1.below, k.1.c1⟩, fun h => by have := g8; simp [this] at h, fun _ h => by have := g8; simp [this] at h, fun _ h => by simp at h, fun _ => HTH.out.2.put HTH.out.1⟩
          · intro d a W hI hall
            obtain ⟨gb, gr, cr, x75, x76, x77, x78, x79, x80, x81, x82, x83, x84, rfl, hF⟩ := hI
            simp only [List.length_cons, List.length_nil] at hall
            obtain rfl := hF.out.f0 (hall 0 (by omega))
            obtain rfl := hF.out.f1 (hall 1 (by omega))
            obtain rfl := hF.out.f2 (hall 2 (by omega))
            obtain rfl := hF.out.f3 (hall 3 (by omega))
            obtain rfl := hF.out.f4 (hall 4 (by omega))
            obtain rfl := hF.out.f5 (hall 5 (by omega))
            obtain rfl := hF.out.f6 (hall 6 (by omega))
            obtain rfl := hF.out.f7 (hall 7 (by omega))
            obtain rfl := hF.out.f8 (hall 8 (by omega))
            obtain rfl := hF.out.f9 (hall 9 (by omega))
            have HR : Hid (Oc w (.slice (some ⟨rb, ro, none⟩) n rc) (.slice (some ⟨tb, to, none⟩) n tc) n R K gm gM (k + 1) ((k + 1) * 256) F met D (.slice (some ⟨gq, 0, none⟩) ml mc) (.slice (some ⟨gr1, 0, none⟩) (k + 1) cr1) (.slice (some ⟨gr, 0, none⟩) (k + 1) cr) W ∧ Ot w T gm gM (k + 1) met (.slice (some ⟨gq, 0, none⟩) ml mc) (.slice (some ⟨gr1, 0, none⟩) (k + 1) cr1) (.slice (some ⟨gr, 0, none⟩) (k + 1) cr) W) := hF.out.fin (hall 10 (by omega))
            clear hF hall
            simp only [Act.put, List.setIfInBounds_toArray, List.set_cons_zero, List.set_cons_succ]
            go_wp2_with fail
            go_roundw
            case rel => exact ⟨k + 1, _, rfl, by have := HR.out.1.krl; have := HR.out.1.mt.few; omega, F, met, D, _, _, HR.out.1, HR.out.2⟩
            case measure =>
              have y0 := HR.out.1.mb.cell (i := 0) (by omega)
              simp only [if_true] at y0
              rw [y0, HC00.out]
              simp only []
              have := HR.out.1.krl; have := HR.out.1.mt.few
              omega
    · have hke : k = ml := by omega
      subst hke
      have hk1 : ¬ (k : Int) < (k : Int) := by omega
      have d1 := HO.out.mb.cell (i := 1) (by omega)
      rw [if_neg (by omega)] at d1
      have r0 := HO.out.rs.cell (i := 0) (by omega)
      have r1 := HO.out.rs.cell (i := 1) (by omega)
      have s0 := HO.out.rs.frozen 0
      have s1 := HO.out.rs.frozen 1
      go_wp2_with fail
      have hrow := row_two_set HO.out.rs (.slice rVa k rVc) (.slice tVa k tVc)
      have hsame := same_two W0 (w.heap.size + 1) (.slice rVa k rVc) (.slice tVa k tVc)
      have hc0 := hrow.cell (i := 0) (by omega)
      have hc1 := hrow.cell (i := 1) (by omega)
      simp only [if_true] at hc0
      rw [if_neg (by omega)] at hc1
      have hro := own_same (w' := (W0.setCell ⟨w.heap.size + 1, 0, none⟩ (.slice rVa k rVc)).setCell ⟨w.heap.size + 1, 1, none⟩ (.slice tVa k tVc)) HO.out.ro fun q hq => hsame.2.2.2.2 q (by have := (HO.out.ro.lt q hq).1; omega)
      have hto := own_same (w' := (W0.setCell ⟨w.heap.size + 1, 0, none⟩ (.slice rVa k rVc)).setCell ⟨w.heap.size + 1, 1, none⟩ (.slice tVa k tVc)) HTG.out.to fun q hq => hsame.2.2.2.2 q (by have := (HTG.out.to.lt q hq).1; omega)
      have hB : Below w.heap.size w ((W0.setCell ⟨w.heap.size + 1, 0, none⟩ (.slice rVa k rVc)).setCell ⟨w.heap.size + 1, 1, none⟩ (.slice tVa k tVc)) := (HO.out.below.setCell (by simp) _).setCell (by simp) _
      have hk0 : 0 < k := by have := HO.out.mt.pos; rw [HML.out] at this; exact this
      have hfb : ∀ i j, i < k → j < 256 → -1 ≤ F i j ∧ F i j < (k : Int) := fun i j hi hj => by
        rcases HO.out.rows i j hi hj with ⟨-, e⟩ | ⟨-, q, hq, e, -⟩
        · rw [e]; omega
        · rw [e]; rw [HML.out] at hq; omega
      have hRw := rows_of_own hro hk0 (by omega) (fun i j hi hj => by have := hfb i j hi hj; omega)
      have hTs : Ts ((W0.setCell ⟨w.heap.size + 1, 0, none⟩ (.slice rVa k rVc)).setCell ⟨w.heap.size + 1, 1, none⟩ (.slice tVa k tVc)) (.slice tVa k tVc) k (fun r => T (met.getD r 0)) := by
        obtain ⟨g, cap, e, -, hgl, hgc⟩ := cells_of_own hto hk0
        obtain ⟨_, _, _, hx1, hx2, _⟩ := HTS.out
        exact ⟨_, _, rfl, by omega, fun i => hx2 _, Or.inr ⟨g, 0, by simp at e; exact e.1, hgl, fun i hi => by rw [Nat.zero_add]; exact hgc i _ (tl_at _ _ i hi)⟩⟩
      have hcn : ∀ q, q ≤ k * 256 → cn (fun i j => if i < k ∧ j < 256 then F i j else 0) q = cn F q := fun q hq => cn_congr q fun p hp => by
        rw [if_pos ⟨by omega, by omega⟩]
      refine bodyPost_ret (v := .agg #[.slice rVa k rVc, .slice tVa k tVc]) (by simp [results, Try.results31, go_sem, hc0, hc1]) rfl ⟨_, _, rfl, ⟨k, _, _, K, met, ⟨HOK.out.2, HO.out.mt, HML.out, fun r b hr hb => ?_, fun r _ => rfl, fun q hq => ?_, fun i hi => ?_, ?_⟩, hRw, hTs, fun g hg => by have := (HO.out.ro.lt g hg).1; omega, fun g hg => by have := (HTG.out.to.lt g hg).1; omega⟩, hB⟩
      · rw [if_pos ⟨hr, hb⟩]; exact HO.out.rows r b hr hb
      · rw [if_pos ⟨by omega, by omega⟩, hcn q (by omega)]; exact HO.out.first q hq
      · rw [hcn _ (by omega)]; exact HO.out.mets i hi
      · rw [hcn _ (Nat.le_refl _), ← HO.out.cnt, HML.out]
end Go.Proofs.Ytlgcggfenljdnaa
