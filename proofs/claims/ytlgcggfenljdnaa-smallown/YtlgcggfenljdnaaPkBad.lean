/-
  The contract of small.Pack where its automaton is wrong.
-/
import Derived.Test.YtlgcggfenljdnaaPkPack
namespace Go.Proofs.Ytlgcggfenljdnaa
open Go.RowKit
open Go.Maps
open Dfa

set_option maxHeartbeats 4000000 in
set_option maxRecDepth 20000 in
theorem pack_bad (rv tv : Value) (n m : Nat) (R : Nat → Nat → Int) (T : Nat → Int) (w : World) (hr : Rw w rv n R) (ht : Ts w tv m T) (hok : ¬ chk n m R T = 0) :
    Calls Try.prog 18 #[.agg #[rv, tv]] w fun e w' => e = .returned (.tuple #[.agg (pl (fun _ => 0) (.slice none 0 0) (.slice none 0 0)).toArray, .int .i64 (chk n m R T)]) ∧ Below w.heap.size w w' := by
  obtain ⟨ra, rc, rfl, -⟩ := id hr
  have HRW : Hid (Rw w (.slice ra n rc) n R) := hr
  have HTS : Hid (Ts w tv m T) := ht
  obtain ⟨zs, hz47, hzsz, hzs⟩ := zero47
  have HZS : Hid (zs = (pl (fun _ => 0) (.slice none 0 0) (.slice none 0 0)).toArray) := hzs
  have HZSZ : Hid (zs.size = 258) := hzsz
  have HZL : Hid (zs.toList.length = 258) := by show _ = _; rw [Array.length_toList]; exact hzsz
  have HL1 : Hid (zs.all (·.oneCell') = true) := by show _ = _; rw [hzs]; exact pl_one _ _ _ _ _ _ _
  have HI9 : Hid ((Try.prog.info? 47).map (·.size) = some zs.size) := by rw [hzsz]; exact size47
  have HROW : Hid (∀ W : World, (W.alloc (.cells zs 47)).rowIs W.heap.size 47 258 (pf (fun _ => 0) (.slice none 0 0) (.slice none 0 0))) := fun W => by
    have := World.rowIs_alloc W zs 47 (pf (fun _ => 0) (.slice none 0 0) (.slice none 0 0)) (fun i hi => by rw [hzs, List.getElem?_toArray]; exact pf_at _ _ _ i (by omega))
    rwa [hzsz] at this
  have HRS0 : Hid (((w.alloc (Obj.cells #[(.slice ra n rc), tv] 25)).alloc (Obj.cells zs 47)).rowIs (w.heap.size + 1) 47 258 (pf (fun _ => 0) (.slice none 0 0) (.slice none 0 0))) := by
    have := HROW.out (w.alloc (Obj.cells #[(.slice ra n rc), tv] 25))
    rwa [show (w.alloc (Obj.cells #[(.slice ra n rc), tv] 25)).heap.size = w.heap.size + 1 by simp] at this
  have B0 : Below w.heap.size w ((w.alloc (Obj.cells #[(.slice ra n rc), tv] 25)).alloc (Obj.cells zs 47)) := ((Below.refl _ _).alloc (Nat.le_refl _) _).alloc (by simp) _
  have hc := check_any _ tv n m R T _ (HRW.out.below B0 (Nat.le_refl _)) (HTS.out.below B0 (Nat.le_refl _))
  rw [← HZS.out]
  obtain ⟨c, HC⟩ : ∃ q, Hid (chk n m R T = q) := ⟨_, (rfl : _ = _)⟩
  rw [HC.out] at hc hok ⊢
  have hb0 : (c != 0) = true := by simp; exact hok
  clear hr ht hzs hzsz HROW HZS hok
  go_enter Try.func18, Try.ntmps18
  go_wp2_with fail
  refine hc.mono ?_
  rintro _ w1 ⟨rfl, hb⟩
  have HB1 : Hid (Below w.heap.size w w1) := B0.trans (hb.mono (by simp; omega))
  have HRS1 : Hid (w1.rowIs (w.heap.size + 1) 47 258 (pf (fun _ => 0) (.slice none 0 0) (.slice none 0 0))) := HRS0.out.of_block (hb.block _ HRS0.out.lt)
  have HTH : Hid (w1.there (w.heap.size + 1) 0 zs.size) := by rw [HZSZ.out]; exact there_row HRS1.out
  clear hb hc HRS0 B0
  go_wp2_with (refine wpList_store_mid rfl 47 _ _ rfl (w.heap.size + 1) 0 zs rfl rfl HTH.out HI9.out HL1.out ?_)
  refine bodyPost_ret (v := .tuple #[.agg zs.toList.toArray, .int .i64 c]) ?_ rfl ?_
  · exact results_cell_tmp_mid Try.results18 _ _ (w.heap.size + 1) zs.toList _ rfl (World.rangeAt_setCells_same _ _ _ _ (by rw [HZL.out]; exact there_row HRS1.out)) Try.underlying47 rfl (by rw [HZL.out]; exact size47)
  · exact ⟨rfl, setCells_below _ (by omega) _ _ _ HB1.out⟩
end Go.Proofs.Ytlgcggfenljdnaa
