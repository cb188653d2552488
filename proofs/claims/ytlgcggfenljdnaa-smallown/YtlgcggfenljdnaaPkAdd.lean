/-
  The contract of small.addColumn: each row of the table has one number more.
-/
import Derived.Test.YtlgcggfenljdnaaPkTab
namespace Go.Proofs.Ytlgcggfenljdnaa
open Go.RowKit
open Dfa

set_option maxHeartbeats 4000000 in
set_option maxRecDepth 20000 in
theorem addColumn_any (B gN n k b : Nat) (R X : Nat → Nat → Int) (V0 : Nat → Value) (w : World) (h : Tn B gN n (fun _ => k) X V0 w) (hn : n ≤ 200) (hk : k ≤ 256) (hR : ∀ i j, -32768 ≤ R i j ∧ R i j ≤ 32767) (hX : ∀ j, j < n → X j k = cf n R b j) :
    Calls Try.prog 43 #[(.slice (some ⟨gN, 0, none⟩) n n), .agg (cl n R b).toArray] w fun e w' => e = .returned (.tuple #[]) ∧ Mk B gN w w' ∧ ∃ V', Tn B gN n (fun _ => k + 1) X V' w' := by
  have HX : Hid (∀ j, j < n → X j k = cf n R b j) := hX
  have HCR : Hid (∀ s, -32768 ≤ cf n R b s ∧ cf n R b s ≤ 32767) := fun s => by unfold cf; split <;> simp [hR]
  have HT0 : Hid (Tn B gN n (fun _ => k) X V0 w) := h
  have HC0 : Hid (∀ s, s < 200 → (w.alloc (Obj.cells (cl n R b).toArray 83)).cell? ⟨w.heap.size, s, none⟩ = some (.int .i16 (cf n R b s))) := fun s hs => by rw [cell_of_block, cl_at n R b s hs]
  obtain ⟨l, HLN⟩ : ∃ q, Hid (cl n R b = q) := ⟨_, (rfl : _ = _)⟩
  obtain ⟨Z, HZ⟩ : ∃ q, Hid (cf n R b = q) := ⟨_, (rfl : _ = _)⟩
  rw [HLN.out] at HC0 ⊢
  rw [HZ.out] at HC0 HX HCR
  obtain ⟨i3, hi3, hz3, hs3, hb3⟩ := info_parts info3
  have H3 : Hid (Try.prog.info? 3 = some i3 ∧ i3.zero = some (.int .i64 0) ∧ i3.size = 1 ∧ i3.bytes = 8) := ⟨hi3, hz3, hs3, hb3⟩
  clear hi3 hz3 hs3 hb3 h hX hR
  obtain ⟨gc, HGG⟩ : ∃ q, Hid (w.heap.size = q) := ⟨_, (rfl : _ = _)⟩
  rw [HGG.out] at HC0
  go_enter Try.func43, Try.ntmps43
  go_wp2_with fail
  rw [HGG.out]
  go_loopw [7] (fun i2 wr => ∃ i : Nat, i ≤ n ∧ i2 = .int .i64 (i : Int) ∧ Hid (∃ V, Tn B gN n (fun j => if j < i then k + 1 else k) X V wr ∧ (∀ j, i ≤ j → V j = V0 j) ∧ Mk B gN w wr ∧ ∀ s, s < 200 → wr.cell? ⟨gc, s, none⟩ = some (.int .i16 (Z s)))) (fun i2 _ => n - (intOf i2).toNat)
  case atStart => exact ⟨0, by omega, rfl, V0, (HT0.out.next ((Below.refl _ _).alloc (Nat.le_refl _) _)).congrC (fun j _ => by simp), fun j _ => rfl, (Mk.refl _ _ _).below ((Below.refl _ _).alloc (Nat.le_refl _) _) HT0.out.size, HC0.out⟩
  case round =>
    obtain ⟨i, hi, rfl, HE⟩ := hrel
    obtain ⟨V, htn, hve, hmv, hcc⟩ := HE.out
    have HVE : Hid (∀ j, i ≤ j → V j = V0 j) := hve
    have HMV : Hid (Mk B gN w wr) := hmv
    have HCC : Hid (∀ s, s < 200 → wr.cell? ⟨gc, s, none⟩ = some (.int .i16 (Z s))) := hcc
    by_cases hlt : i < n
    · obtain ⟨C, HCE⟩ : ∃ q, Hid ((fun j => if j < i then k + 1 else k) = q) := ⟨_, (rfl : _ = _)⟩
      have HCK : Hid (C i = k) := by show _ = _; rw [← HCE.out]; simp
      rw [HCE.out] at htn
      have HTN : Hid (Tn B gN n C X V wr) := htn
      have HIL : Hid (i < n) := hlt
      have HI2 : Hid (i < 200) := by show _ < _; omega
      have HCI : Hid (C i ≤ 256) := by show _ ≤ _; rw [HCK.out]; exact hk
      have HXZ : Hid (X i (C i) = Z i) := by show _ = _; rw [HCK.out]; exact HX.out i hlt
      have HWR : Hid (IntKind.i64.wrap (Z i) = Z i) := wrap_small (HCR.out i)
      have HGC : Hid (some w.heap.size ≠ (V i).ownBlock) := fun e => by rw [HVE.out i (Nat.le_refl _)] at e; have := ((HT0.out.own i hlt).lt _ e.symm).2; omega
      have HGCN : Hid (w.heap.size ≠ gN) := by have h1 := HT0.out.top.lt; show _ ≠ _; omega
      have hi0 : (0 : Int) ≤ (i : Int) := by omega
      have hi1 : (i : Int) < (n : Int) := by omega
      have hi2 : (i : Int) < 200 := by omega
      rw [HGG.out] at HGC HGCN
      clear htn hve hmv hcc HE
      go_wp2_with fail
      refine wp_region_free mixed (fun a0 d a W => ∃ (gb : Nat) (gr : Nat) (cr : Nat) (x10 x11 x12 x13 x14 x15 x16 x17 x18 x19 x20 x21 x22 : Value), a = (((((((((((((a0.put (some 10) x10).put (some 11) x11).put (some 12) x12).put (some 13) x13).put (some 14) x14).put (some 15) x15).put (some 16) x16).put (some 17) x17).put (some 18) x18).put (some 19) x19).put (some 20) x20).put (some 21) x21).put (some 22) x22) ∧ Hid (RD4 w wr B gN gc n i C X V Z gb gr cr d x10 x11 x12 x13 x14 x15 x16 x17 x18 x19 x20 x21 x22 W)) (by kernel_rfl) ⟨0, 0, 0, u10, u11, u12, u13, u14, u15, u16, u17, u18, u19, u20, u21, u22, by simp only [Act.put, List.setIfInBounds_toArray, List.set_cons_zero, List.set_cons_succ], ?_⟩ ?_ ?_
      · exact ⟨fun h => no_way h, fun h => no_way h, fun h => no_way h, fun h => no_way h, fun h => no_way h, fun h => no_way h, fun h => no_way h, fun h => no_way h, fun h => no_way h, fun h => no_way h, fun h => no_way h, fun h => no_way h, fun h => no_way h, fun _ => trivial, fun h => no_way h, fun h => no_way h, fun h => no_way h, fun h => no_way h, fun h => no_way h, fun h => no_way h, fun _ => HTN.out.next (Below.refl _ _).drew, HCC.out, fun h => no_way h, fun h => no_way h, (Mk.refl _ _ _).below (Below.refl _ _).drew HTN.out.size, fun h => no_way h⟩
      · simp only [StepAll, and_true]
        refine ⟨?_, ?_, ?_, ?_, ?_, ?_, ?_, ?_, ?_, ?_, ?_, ?_, ?_, ?_⟩
        · intro d a W hI hd hdep
          obtain ⟨gb, gr, cr, x10, x11, x12, x13, x14, x15, x16, x17, x18, x19, x20, x21, x22, rfl, hF⟩ := hI
          clear hdep hd
          intro K hK
          simp only [Act.put, List.setIfInBounds_toArray, List.set_cons_zero, List.set_cons_succ]
          go_simp
          refine hK.out _ _ ⟨gb, gr, cr, (.slice (some ⟨gN, 0, none⟩) n n), x11, x12, x13, x14, x15, x16, x17, x18, x19, x20, x21, x22, by simp only [Act.put, List.setIfInBounds_toArray, List.set_cons_zero, List.set_cons_succ], ?_⟩
          exact ⟨fun _ => rfl, fun h => hF.out.f1 (by simpa using h), fun h => hF.out.f2 (by simpa using h), fun h => hF.out.f3 (by simpa using h), fun h => hF.out.f4 (by simpa using h), fun h => hF.out.f5 (by simpa using h), fun h => hF.out.f6 (by simpa using h), fun h => hF.out.f7 (by simpa using h), fun h => hF.out.f8 (by simpa using h), fun h => hF.out.f9 (by simpa using h), fun h => hF.out.f10 (by simpa using h), fun h => hF.out.f11 (by simpa using h), fun h => hF.out.f12 (by simpa using h), fun h => hF.out.f13 (by simpa using h), fun h => by have := hF.out.o9_8 (by simpa using h); simpa using this, fun h => by have := hF.out.o10_8 (by simpa using h); simpa using this, fun h => by have := hF.out.p5 (by simpa using h); simpa using this, fun h => by have := hF.out.p8 (by simpa using h); simpa using this, fun h => by have := hF.out.p10 (by simpa using h); simpa using this, fun h => by have := hF.out.q13 (by simpa using h); simpa using this, fun h => hF.out.tn (by simpa using h), hF.out.cc, fun h h2 => hF.out.bs (by simpa using h) (by simpa using h2), fun h h2 => hF.out.th (by simpa using h) (by simpa using h2), hF.out.mv, fun h => hF.out.fin (by simpa using h)⟩
        · intro d a W hI hd hdep
          obtain ⟨gb, gr, cr, x10, x11, x12, x13, x14, x15, x16, x17, x18, x19, x20, x21, x22, rfl, hF⟩ := hI
          clear hdep hd
          intro K hK
          simp only [Act.put, List.setIfInBounds_toArray, List.set_cons_zero, List.set_cons_succ]
          go_simp
          refine hK.out _ _ ⟨gb, gr, cr, x10, (.int .i64 (i : Int)), x12, x13, x14, x15, x16, x17, x18, x19, x20, x21, x22, by simp only [Act.put, List.setIfInBounds_toArray, List.set_cons_zero, List.set_cons_succ], ?_⟩
          exact ⟨fun h => hF.out.f0 (by simpa using h), fun _ => rfl, fun h => hF.out.f2 (by simpa using h), fun h => hF.out.f3 (by simpa using h), fun h => hF.out.f4 (by simpa using h), fun h => hF.out.f5 (by simpa using h), fun h => hF.out.f6 (by simpa using h), fun h => hF.out.f7 (by simpa using h), fun h => hF.out.f8 (by simpa using h), fun h => hF.out.f9 (by simpa using h), fun h => hF.out.f10 (by simpa using h), fun h => hF.out.f11 (by simpa using h), fun h => hF.out.f12 (by simpa using h), fun h => hF.out.f13 (by simpa using h), fun h => by have := hF.out.o9_8 (by simpa using h); simpa using this, fun h => by have := hF.out.o10_8 (by simpa using h); simpa using this, fun h => by have := hF.out.p5 (by simpa using h); simpa using this, fun h => by have := hF.out.p8 (by simpa using h); simpa using this, fun h => by have := hF.out.p10 (by simpa using h); simpa using this, fun h => by have := hF.out.q13 (by simpa using h); simpa using this, fun h => hF.out.tn (by simpa using h), hF.out.cc, fun h h2 => hF.out.bs (by simpa using h) (by simpa using h2), fun h h2 => hF.out.th (by simpa using h) (by simpa using h2), hF.out.mv, fun h => hF.out.fin (by simpa using h)⟩
        · intro d a W hI hd hdep
          obtain ⟨gb, gr, cr, x10, x11, x12, x13, x14, x15, x16, x17, x18, x19, x20, x21, x22, rfl, hF⟩ := hI
          clear hdep hd
          intro K hK
          simp only [Act.put, List.setIfInBounds_toArray, List.set_cons_zero, List.set_cons_succ]
          go_simp
          refine hK.out _ _ ⟨gb, gr, cr, x10, x11, (.slice (some ⟨gN, 0, none⟩) n n), x13, x14, x15, x16, x17, x18, x19, x20, x21, x22, by simp only [Act.put, List.setIfInBounds_toArray, List.set_cons_zero, List.set_cons_succ], ?_⟩
          exact ⟨fun h => hF.out.f0 (by simpa using h), fun h => hF.out.f1 (by simpa using h), fun _ => rfl, fun h => hF.out.f3 (by simpa using h), fun h => hF.out.f4 (by simpa using h), fun h => hF.out.f5 (by simpa using h), fun h => hF.out.f6 (by simpa using h), fun h => hF.out.f7 (by simpa using h), fun h => hF.out.f8 (by simpa using h), fun h => hF.out.f9 (by simpa using h), fun h => hF.out.f10 (by simpa using h), fun h => hF.out.f11 (by simpa using h), fun h => hF.out.f12 (by simpa using h), fun h => hF.out.f13 (by simpa using h), fun h => by have := hF.out.o9_8 (by simpa using h); simpa using this, fun h => by have := hF.out.o10_8 (by simpa using h); simpa using this, fun h => by have := hF.out.p5 (by simpa using h); simpa using this, fun h => by have := hF.out.p8 (by simpa using h); simpa using this, fun h => by have := hF.out.p10 (by simpa using h); simpa using this, fun h => by have := hF.out.q13 (by simpa using h); simpa using this, fun h => hF.out.tn (by simpa using h), hF.out.cc, fun h h2 => hF.out.bs (by simpa using h) (by simpa using h2), fun h h2 => hF.out.th (by simpa using h) (by simpa using h2), hF.out.mv, fun h => hF.out.fin (by simpa using h)⟩
        · intro d a W hI hd hdep
          obtain ⟨gb, gr, cr, x10, x11, x12, x13, x14, x15, x16, x17, x18, x19, x20, x21, x22, rfl, hF⟩ := hI
          clear hdep hd
          intro K hK
          simp only [Act.put, List.setIfInBounds_toArray, List.set_cons_zero, List.set_cons_succ]
          go_simp
          refine hK.out _ _ ⟨gb, gr, cr, x10, x11, x12, (.int .i64 (i : Int)), x14, x15, x16, x17, x18, x19, x20, x21, x22, by simp only [Act.put, List.setIfInBounds_toArray, List.set_cons_zero, List.set_cons_succ], ?_⟩
          exact ⟨fun h => hF.out.f0 (by simpa using h), fun h => hF.out.f1 (by simpa using h), fun h => hF.out.f2 (by simpa using h), fun _ => rfl, fun h => hF.out.f4 (by simpa using h), fun h => hF.out.f5 (by simpa using h), fun h => hF.out.f6 (by simpa using h), fun h => hF.out.f7 (by simpa using h), fun h => hF.out.f8 (by simpa using h), fun h => hF.out.f9 (by simpa using h), fun h => hF.out.f10 (by simpa using h), fun h => hF.out.f11 (by simpa using h), fun h => hF.out.f12 (by simpa using h), fun h => hF.out.f13 (by simpa using h), fun h => by have := hF.out.o9_8 (by simpa using h); simpa using this, fun h => by have := hF.out.o10_8 (by simpa using h); simpa using this, fun h => by have := hF.out.p5 (by simpa using h); simpa using this, fun h => by have := hF.out.p8 (by simpa using h); simpa using this, fun h => by have := hF.out.p10 (by simpa using h); simpa using this, fun h => by have := hF.out.q13 (by simpa using h); simpa using this, fun h => hF.out.tn (by simpa using h), hF.out.cc, fun h h2 => hF.out.bs (by simpa using h) (by simpa using h2), fun h h2 => hF.out.th (by simpa using h) (by simpa using h2), hF.out.mv, fun h => hF.out.fin (by simpa using h)⟩
        · intro d a W hI hd hdep
          obtain ⟨gb, gr, cr, x10, x11, x12, x13, x14, x15, x16, x17, x18, x19, x20, x21, x22, rfl, hF⟩ := hI
          have hd2 : d 2 = true := dep_of hdep 2 (by kernel_rfl)
          have hd3 : d 3 = true := dep_of hdep 3 (by kernel_rfl)
          obtain rfl := hF.out.f2 hd2
          obtain rfl := hF.out.f3 hd3
          clear hdep hd hd2 hd3
          intro K hK
          simp only [Act.put, List.setIfInBounds_toArray, List.set_cons_zero, List.set_cons_succ]
          go_simp
          refine hK.out _ _ ⟨gb, gr, cr, x10, x11, (.slice (some ⟨gN, 0, none⟩) n n), (.int .i64 (i : Int)), (.pointer (some ⟨gN, i, none⟩)), x15, x16, x17, x18, x19, x20, x21, x22, by simp only [Act.put, List.setIfInBounds_toArray, List.set_cons_zero, List.set_cons_succ], ?_⟩
          exact ⟨fun h => hF.out.f0 (by simpa using h), fun h => hF.out.f1 (by simpa using h), fun h => hF.out.f2 (by simpa using h), fun h => hF.out.f3 (by simpa using h), fun _ => rfl, fun h => hF.out.f5 (by simpa using h), fun h => hF.out.f6 (by simpa using h), fun h => hF.out.f7 (by simpa using h), fun h => hF.out.f8 (by simpa using h), fun h => hF.out.f9 (by simpa using h), fun h => hF.out.f10 (by simpa using h), fun h => hF.out.f11 (by simpa using h), fun h => hF.out.f12 (by simpa using h), fun h => hF.out.f13 (by simpa using h), fun h => by have := hF.out.o9_8 (by simpa using h); simpa using this, fun h => by have := hF.out.o10_8 (by simpa using h); simpa using this, fun h => by have := hF.out.p5 (by simpa using h); simpa using this, fun h => by have := hF.out.p8 (by simpa using h); simpa using this, fun h => by have := hF.out.p10 (by simpa using h); simpa using this, fun h => by have := hF.out.q13 (by simpa using h); simpa using this, fun h => hF.out.tn (by simpa using h), hF.out.cc, fun h h2 => hF.out.bs (by simpa using h) (by simpa using h2), fun h h2 => hF.out.th (by simpa using h) (by simpa using h2), hF.out.mv, fun h => hF.out.fin (by simpa using h)⟩
        · intro d a W hI hd hdep
          obtain ⟨gb, gr, cr, x10, x11, x12, x13, x14, x15, x16, x17, x18, x19, x20, x21, x22, rfl, hF⟩ := hI
          have hd4 : d 4 = true := dep_of hdep 4 (by kernel_rfl)
          obtain rfl := hF.out.f4 hd4
          have HN11 : Hid (d 11 = false) := no_later hF.out.p5 hd
          have htn := hF.out.tn HN11.out
          have ya := htn.top.cell HIL.out
          clear hdep hd hd4
          intro K hK
          simp only [Act.put, List.setIfInBounds_toArray, List.set_cons_zero, List.set_cons_succ]
          go_simp
          refine hK.out _ _ ⟨gb, gr, cr, x10, x11, x12, x13, (.pointer (some ⟨gN, i, none⟩)), (V i), x16, x17, x18, x19, x20, x21, x22, by simp only [Act.put, List.setIfInBounds_toArray, List.set_cons_zero, List.set_cons_succ], ?_⟩
          exact ⟨fun h => hF.out.f0 (by simpa using h), fun h => hF.out.f1 (by simpa using h), fun h => hF.out.f2 (by simpa using h), fun h => hF.out.f3 (by simpa using h), fun h => hF.out.f4 (by simpa using h), fun _ => rfl, fun h => hF.out.f6 (by simpa using h), fun h => hF.out.f7 (by simpa using h), fun h => hF.out.f8 (by simpa using h), fun h => hF.out.f9 (by simpa using h), fun h => hF.out.f10 (by simpa using h), fun h => hF.out.f11 (by simpa using h), fun h => hF.out.f12 (by simpa using h), fun h => hF.out.f13 (by simpa using h), fun h => by have := hF.out.o9_8 (by simpa using h); simpa using this, fun h => by have := hF.out.o10_8 (by simpa using h); simpa using this, fun _ => by simp, fun h => by have := hF.out.p8 (by simpa using h); simpa using this, fun h => by have := hF.out.p10 (by simpa using h); simpa using this, fun h => by have := hF.out.q13 (by simpa using h); simpa using this, fun h => hF.out.tn (by simpa using h), hF.out.cc, fun h h2 => hF.out.bs (by simpa using h) (by simpa using h2), fun h h2 => hF.out.th (by simpa using h) (by simpa using h2), hF.out.mv, fun h => hF.out.fin (by simpa using h)⟩
        · intro d a W hI hd hdep
          obtain ⟨gb, gr, cr, x10, x11, x12, x13, x14, x15, x16, x17, x18, x19, x20, x21, x22, rfl, hF⟩ := hI
          clear hdep hd
          intro K hK
          simp only [Act.put, List.setIfInBounds_toArray, List.set_cons_zero, List.set_cons_succ]
          go_simp
          refine hK.out _ _ ⟨gb, gr, cr, x10, x11, x12, x13, x14, x15, (.int .i64 (i : Int)), x17, x18, x19, x20, x21, x22, by simp only [Act.put, List.setIfInBounds_toArray, List.set_cons_zero, List.set_cons_succ], ?_⟩
          exact ⟨fun h => hF.out.f0 (by simpa using h), fun h => hF.out.f1 (by simpa using h), fun h => hF.out.f2 (by simpa using h), fun h => hF.out.f3 (by simpa using h), fun h => hF.out.f4 (by simpa using h), fun h => hF.out.f5 (by simpa using h), fun _ => rfl, fun h => hF.out.f7 (by simpa using h), fun h => hF.out.f8 (by simpa using h), fun h => hF.out.f9 (by simpa using h), fun h => hF.out.f10 (by simpa using h), fun h => hF.out.f11 (by simpa using h), fun h => hF.out.f12 (by simpa using h), fun h => hF.out.f13 (by simpa using h), fun h => by have := hF.out.o9_8 (by simpa using h); simpa using this, fun h => by have := hF.out.o10_8 (by simpa using h); simpa using this, fun h => by have := hF.out.p5 (by simpa using h); simpa using this, fun h => by have := hF.out.p8 (by simpa using h); simpa using this, fun h => by have := hF.out.p10 (by simpa using h); simpa using this, fun h => by have := hF.out.q13 (by simpa using h); simpa using this, fun h => hF.out.tn (by simpa using h), hF.out.cc, fun h h2 => hF.out.bs (by simpa using h) (by simpa using h2), fun h h2 => hF.out.th (by simpa using h) (by simpa using h2), hF.out.mv, fun h => hF.out.fin (by simpa using h)⟩
        · intro d a W hI hd hdep
          obtain ⟨gb, gr, cr, x10, x11, x12, x13, x14, x15, x16, x17, x18, x19, x20, x21, x22, rfl, hF⟩ := hI
          have hd6 : d 6 = true := dep_of hdep 6 (by kernel_rfl)
          obtain rfl := hF.out.f6 hd6
          clear hdep hd hd6
          intro K hK
          simp only [Act.put, List.setIfInBounds_toArray, List.set_cons_zero, List.set_cons_succ]
          go_simp
          refine hK.out _ _ ⟨gb, gr, cr, x10, x11, x12, x13, x14, x15, (.int .i64 (i : Int)), (.pointer (some ⟨gc, i, none⟩)), x18, x19, x20, x21, x22, by simp only [Act.put, List.setIfInBounds_toArray, List.set_cons_zero, List.set_cons_succ], ?_⟩
          exact ⟨fun h => hF.out.f0 (by simpa using h), fun h => hF.out.f1 (by simpa using h), fun h => hF.out.f2 (by simpa using h), fun h => hF.out.f3 (by simpa using h), fun h => hF.out.f4 (by simpa using h), fun h => hF.out.f5 (by simpa using h), fun h => hF.out.f6 (by simpa using h), fun _ => rfl, fun h => hF.out.f8 (by simpa using h), fun h => hF.out.f9 (by simpa using h), fun h => hF.out.f10 (by simpa using h), fun h => hF.out.f11 (by simpa using h), fun h => hF.out.f12 (by simpa using h), fun h => hF.out.f13 (by simpa using h), fun h => by have := hF.out.o9_8 (by simpa using h); simpa using this, fun h => by have := hF.out.o10_8 (by simpa using h); simpa using this, fun h => by have := hF.out.p5 (by simpa using h); simpa using this, fun h => by have := hF.out.p8 (by simpa using h); simpa using this, fun h => by have := hF.out.p10 (by simpa using h); simpa using this, fun h => by have := hF.out.q13 (by simpa using h); simpa using this, fun h => hF.out.tn (by simpa using h), hF.out.cc, fun h h2 => hF.out.bs (by simpa using h) (by simpa using h2), fun h h2 => hF.out.th (by simpa using h) (by simpa using h2), hF.out.mv, fun h => hF.out.fin (by simpa using h)⟩
        · intro d a W hI hd hdep
          obtain ⟨gb, gr, cr, x10, x11, x12, x13, x14, x15, x16, x17, x18, x19, x20, x21, x22, rfl, hF⟩ := hI
          have hd7 : d 7 = true := dep_of hdep 7 (by kernel_rfl)
          obtain rfl := hF.out.f7 hd7
          have HN11 : Hid (d 11 = false) := no_later hF.out.p8 hd
          have htn := hF.out.tn HN11.out
          have ya := hF.out.cc i HI2.out
          clear hdep hd hd7
          intro K hK
          simp only [Act.put, List.setIfInBounds_toArray, List.set_cons_zero, List.set_cons_succ]
          go_simp
          refine hK.out _ _ ⟨gb, gr, cr, x10, x11, x12, x13, x14, x15, x16, (.pointer (some ⟨gc, i, none⟩)), (.int .i16 (Z i)), x19, x20, x21, x22, by simp only [Act.put, List.setIfInBounds_toArray, List.set_cons_zero, List.set_cons_succ], ?_⟩
          exact ⟨fun h => hF.out.f0 (by simpa using h), fun h => hF.out.f1 (by simpa using h), fun h => hF.out.f2 (by simpa using h), fun h => hF.out.f3 (by simpa using h), fun h => hF.out.f4 (by simpa using h), fun h => hF.out.f5 (by simpa using h), fun h => hF.out.f6 (by simpa using h), fun h => hF.out.f7 (by simpa using h), fun _ => rfl, fun h => hF.out.f9 (by simpa using h), fun h => hF.out.f10 (by simpa using h), fun h => hF.out.f11 (by simpa using h), fun h => hF.out.f12 (by simpa using h), fun h => hF.out.f13 (by simpa using h), fun _ => by simp, fun _ => by simp, fun h => by have := hF.out.p5 (by simpa using h); simpa using this, fun _ => by simp, fun h => by have := hF.out.p10 (by simpa using h); simpa using this, fun h => by have := hF.out.q13 (by simpa using h); simpa using this, fun h => hF.out.tn (by simpa using h), hF.out.cc, fun h h2 => hF.out.bs (by simpa using h) (by simpa using h2), fun h h2 => hF.out.th (by simpa using h) (by simpa using h2), hF.out.mv, fun h => hF.out.fin (by simpa using h)⟩
        · intro d a W hI hd hdep
          obtain ⟨gb, gr, cr, x10, x11, x12, x13, x14, x15, x16, x17, x18, x19, x20, x21, x22, rfl, hF⟩ := hI
          have hd8 : d 8 = true := dep_of hdep 8 (by kernel_rfl)
          obtain rfl := hF.out.f8 hd8
          have hwr := HWR.out
          have e9_8 := hd8
          clear hdep hd hd8
          intro K hK
          simp only [Act.put, List.setIfInBounds_toArray, List.set_cons_zero, List.set_cons_succ]
          go_simp
          refine hK.out _ _ ⟨gb, gr, cr, x10, x11, x12, x13, x14, x15, x16, x17, (.int .i16 (Z i)), (.int .i64 (Z i)), x20, x21, x22, by simp only [Act.put, List.setIfInBounds_toArray, List.set_cons_zero, List.set_cons_succ], ?_⟩
          exact ⟨fun h => hF.out.f0 (by simpa using h), fun h => hF.out.f1 (by simpa using h), fun h => hF.out.f2 (by simpa using h), fun h => hF.out.f3 (by simpa using h), fun h => hF.out.f4 (by simpa using h), fun h => hF.out.f5 (by simpa using h), fun h => hF.out.f6 (by simpa using h), fun h => hF.out.f7 (by simpa using h), fun h => hF.out.f8 (by simpa using h), fun _ => rfl, fun h => hF.out.f10 (by simpa using h), fun h => hF.out.f11 (by simpa using h), fun h => hF.out.f12 (by simpa using h), fun h => hF.out.f13 (by simpa using h), fun _ => by simpa using e9_8, fun h => by have := hF.out.o10_8 (by simpa using h); simpa using this, fun h => by have := hF.out.p5 (by simpa using h); simpa using this, fun h => by have := hF.out.p8 (by simpa using h); simpa using this, fun h => by have := hF.out.p10 (by simpa using h); simpa using this, fun h => by have := hF.out.q13 (by simpa using h); simpa using this, fun h => hF.out.tn (by simpa using h), hF.out.cc, fun h h2 => hF.out.bs (by simpa using h) (by simpa using h2), fun h h2 => hF.out.th (by simpa using h) (by simpa using h2), hF.out.mv, fun h => hF.out.fin (by simpa using h)⟩
        · intro d a W hI hd hdep
          obtain ⟨gb, gr, cr, x10, x11, x12, x13, x14, x15, x16, x17, x18, x19, x20, x21, x22, rfl, hF⟩ := hI
          have hd9 : d 9 = true := dep_of hdep 9 (by kernel_rfl)
          obtain rfl := hF.out.f9 hd9
          have HN11 : Hid (d 11 = false) := no_later hF.out.p10 hd
          have htn := hF.out.tn HN11.out
          have e10_8 := hF.out.o9_8 hd9
          clear hdep hd hd9
          intro K hK
          simp only [Act.put, List.setIfInBounds_toArray, List.set_cons_zero, List.set_cons_succ]
          go_simp
          refine hK.out _ _ ⟨W.heap.size, gr, cr, x10, x11, x12, x13, x14, x15, x16, x17, x18, (.int .i64 (Z i)), (.slice (some ⟨W.heap.size, 0, none⟩) 1 1), x21, x22, by simp only [Act.put, List.setIfInBounds_toArray, List.set_cons_zero, List.set_cons_succ], ?_⟩
          have B1 := (Below.refl W.heap.size W).alloc (Nat.le_refl _) (Obj.cells #[Value.int .i64 (Z i)] 3)
          exact ⟨fun h => hF.out.f0 (by simpa using h), fun h => hF.out.f1 (by simpa using h), fun h => hF.out.f2 (by simpa using h), fun h => hF.out.f3 (by simpa using h), fun h => hF.out.f4 (by simpa using h), fun h => hF.out.f5 (by simpa using h), fun h => hF.out.f6 (by simpa using h), fun h => hF.out.f7 (by simpa using h), fun h => hF.out.f8 (by simpa using h), fun h => hF.out.f9 (by simpa using h), fun _ => rfl, fun h => hF.out.f11 (by simpa using h), fun h => hF.out.f12 (by simpa using h), fun h => hF.out.f13 (by simpa using h), fun h => by have := hF.out.o9_8 (by simpa using h); simpa using this, fun _ => by simpa using e10_8, fun h => by have := hF.out.p5 (by simpa using h); simpa using this, fun h => by have := hF.out.p8 (by simpa using h); simpa using this, fun _ => by simp, fun h => by have := hF.out.q13 (by simpa using h); simpa using this, fun _ => htn.next B1, fun s hs => Go.Lib.cell?_alloc_some _ (hF.out.cc s hs), fun _ _ j u hj => by rw [cell_of_one3]; exact hj, fun h => by have := HN11.out; simp [this] at h, hF.out.mv.below B1 htn.size, fun h => by have : d 13 = false := no_later hF.out.q13 HN11.out; simp [this] at h⟩
        · intro d a W hI hd hdep
          obtain ⟨gb, gr, cr, x10, x11, x12, x13, x14, x15, x16, x17, x18, x19, x20, x21, x22, rfl, hF⟩ := hI
          have hd5 : d 5 = true := dep_of hdep 5 (by kernel_rfl)
          have hd10 : d 10 = true := dep_of hdep 10 (by kernel_rfl)
          obtain rfl := hF.out.f5 hd5
          obtain rfl := hF.out.f10 hd10
          have htn := hF.out.tn hd
          have HN13 : Hid (d 13 = false) := no_later hF.out.q13 hd
          have e11_5 := hd5
          have e11_10 := hd10
          have e11_8 := hF.out.o10_8 hd10
          have hbk := hF.out.bs hd10 hd
          have hm := run_append_lies (P := Try.prog) W 23 23 B 3 i3 _ 1 8 Try.underlying23 H3.out.1 H3.out.2.1 H3.out.2.2.1 H3.out.2.2.2 rfl (by omega) (V i) (C i) (tl (C i) (X i)) (htn.own i HIL.out) ⟨gb, 0, none⟩ 1 1 [.int .i64 (Z i)] rfl (fun j u hj => by rw [Addr.add_lit, Nat.zero_add]; exact hbk j u hj) (by intro u hu; simp at hu; subst hu; rfl) (by omega) (by unfold maxLen; have := HCI.out; omega) (by have := HCI.out; omega) htn.size W.heap.size rfl
          have hmm := hm.choose_spec.choose_spec.choose_spec
          generalize hm.choose_spec.choose_spec.choose = W1 at hmm
          generalize hm.choose_spec.choose = cr1 at hmm
          generalize hm.choose = gr1 at hmm
          have hrun := hmm.1
          have HM : Hid (Th B gN n i C X V gr1 cr1 W1 ∧ W.grownBy W1 (V i).ownBlock) := ⟨htn.grow HIL.out hmm.2.2.1 (by rw [tl_succ, HXZ.out]; exact hmm.2.1) hmm.2.2.2.1, hmm.2.2.1⟩
          have HOB : Hid (∀ k, (V i).ownBlock = some k → B ≤ k) := fun k hk => ((htn.own i HIL.out).lt k hk).1
          have HBS : Hid (B ≤ W.heap.size) := htn.size
          clear hmm hm hbk htn
          clear hdep hd hd5 hd10
          intro K hK
          refine step_call_append (sv := V i) (xv := .slice (some ⟨gb, 0, none⟩) 1 1) (v := .slice (some ⟨gr1, 0, none⟩) (C i + 1) cr1) (W1 := W1) (by rfl) _ _ 23 (by rfl) (by simp only [Act.put, List.setIfInBounds_toArray, List.set_cons_zero, List.set_cons_succ]; rfl) (by simp only [Act.put, List.setIfInBounds_toArray, List.set_cons_zero, List.set_cons_succ]; rfl) (by exact hrun) ?_
          simp only [Act.put, List.setIfInBounds_toArray, List.set_cons_zero, List.set_cons_succ]
          refine hK.out _ _ ⟨gb, gr1, cr1, x10, x11, x12, x13, x14, (V i), x16, x17, x18, x19, (.slice (some ⟨gb, 0, none⟩) 1 1), (.slice (some ⟨gr1, 0, none⟩) (C i + 1) cr1), x22, by simp only [Act.put, List.setIfInBounds_toArray, List.set_cons_zero, List.set_cons_succ], ?_⟩
          exact ⟨fun h => hF.out.f0 (by simpa using h), fun h => hF.out.f1 (by simpa using h), fun h => hF.out.f2 (by simpa using h), fun h => hF.out.f3 (by simpa using h), fun h => hF.out.f4 (by simpa using h), fun h => hF.out.f5 (by simpa using h), fun h => hF.out.f6 (by simpa using h), fun h => hF.out.f7 (by simpa using h), fun h => hF.out.f8 (by simpa using h), fun h => hF.out.f9 (by simpa using h), fun h => hF.out.f10 (by simpa using h), fun _ => rfl, fun h => hF.out.f12 (by simpa using h), fun h => hF.out.f13 (by simpa using h), fun h => by have := hF.out.o9_8 (by simpa using h); simpa using this, fun h => by have := hF.out.o10_8 (by simpa using h); simpa using this, fun _ => by simpa using e11_5, fun _ => by simpa using e11_8, fun _ => by simpa using e11_10, fun _ => by simp, fun h => by simp at h, fun s hs => HM.out.2.cell (hF.out.cc s hs) HGC.out, fun _ h => by simp at h, fun _ _ => HM.out.1, hF.out.mv.grown HM.out.2 HOB.out HBS.out, fun h => by have := HN13.out; simp [this] at h⟩
        · intro d a W hI hd hdep
          obtain ⟨gb, gr, cr, x10, x11, x12, x13, x14, x15, x16, x17, x18, x19, x20, x21, x22, rfl, hF⟩ := hI
          have hd0 : d 0 = true := dep_of hdep 0 (by kernel_rfl)
          have hd1 : d 1 = true := dep_of hdep 1 (by kernel_rfl)
          obtain rfl := hF.out.f0 hd0
          obtain rfl := hF.out.f1 hd1
          clear hdep hd hd0 hd1
          intro K hK
          simp only [Act.put, List.setIfInBounds_toArray, List.set_cons_zero, List.set_cons_succ]
          go_simp
          refine hK.out _ _ ⟨gb, gr, cr, (.slice (some ⟨gN, 0, none⟩) n n), (.int .i64 (i : Int)), x12, x13, x14, x15, x16, x17, x18, x19, x20, x21, (.pointer (some ⟨gN, i, none⟩)), by simp only [Act.put, List.setIfInBounds_toArray, List.set_cons_zero, List.set_cons_succ], ?_⟩
          exact ⟨fun h => hF.out.f0 (by simpa using h), fun h => hF.out.f1 (by simpa using h), fun h => hF.out.f2 (by simpa using h), fun h => hF.out.f3 (by simpa using h), fun h => hF.out.f4 (by simpa using h), fun h => hF.out.f5 (by simpa using h), fun h => hF.out.f6 (by simpa using h), fun h => hF.out.f7 (by simpa using h), fun h => hF.out.f8 (by simpa using h), fun h => hF.out.f9 (by simpa using h), fun h => hF.out.f10 (by simpa using h), fun h => hF.out.f11 (by simpa using h), fun _ => rfl, fun h => hF.out.f13 (by simpa using h), fun h => by have := hF.out.o9_8 (by simpa using h); simpa using this, fun h => by have := hF.out.o10_8 (by simpa using h); simpa using this, fun h => by have := hF.out.p5 (by simpa using h); simpa using this, fun h => by have := hF.out.p8 (by simpa using h); simpa using this, fun h => by have := hF.out.p10 (by simpa using h); simpa using this, fun h => by have := hF.out.q13 (by simpa using h); simpa using this, fun h => hF.out.tn (by simpa using h), hF.out.cc, fun h h2 => hF.out.bs (by simpa using h) (by simpa using h2), fun h h2 => hF.out.th (by simpa using h) (by simpa using h2), hF.out.mv, fun h => hF.out.fin (by simpa using h)⟩
        · intro d a W hI hd hdep
          obtain ⟨gb, gr, cr, x10, x11, x12, x13, x14, x15, x16, x17, x18, x19, x20, x21, x22, rfl, hF⟩ := hI
          have hd12 : d 12 = true := dep_of hdep 12 (by kernel_rfl)
          have hd11 : d 11 = true := dep_of hdep 11 (by kernel_rfl)
          obtain rfl := hF.out.f12 hd12
          obtain rfl := hF.out.f11 hd11
          have g11 := hd11
          have hth := hF.out.th hd11 hd
          have HTH : Hid (Th B gN n i C X V gr cr W) := hth
          have ya := hth.top.cell HIL.out
          have yb := hth.top.frozen i
          clear hth
          clear hdep hd hd12 hd11
          intro K hK
          simp only [Act.put, List.setIfInBounds_toArray, List.set_cons_zero, List.set_cons_succ]
          go_simp
          refine hK.out _ _ ⟨gb, gr, cr, x10, x11, x12, x13, x14, x15, x16, x17, x18, x19, x20, (.slice (some ⟨gr, 0, none⟩) (C i + 1) cr), (.pointer (some ⟨gN, i, none⟩)), by simp only [Act.put, List.setIfInBounds_toArray, List.set_cons_zero, List.set_cons_succ], ?_⟩
          exact ⟨fun h => hF.out.f0 (by simpa using h), fun h => hF.out.f1 (by simpa using h), fun h => hF.out.f2 (by simpa using h), fun h => hF.out.f3 (by simpa using h), fun h => hF.out.f4 (by simpa using h), fun h => hF.out.f5 (by simpa using h), fun h => hF.out.f6 (by simpa using h), fun h => hF.out.f7 (by simpa using h), fun h => hF.out.f8 (by simpa using h), fun h => hF.out.f9 (by simpa using h), fun h => hF.out.f10 (by simpa using h), fun h => hF.out.f11 (by simpa using h), fun h => hF.out.f12 (by simpa using h), fun _ => trivial, fun h => by have := hF.out.o9_8 (by simpa using h); simpa using this, fun h => by have := hF.out.o10_8 (by simpa using h); simpa using this, fun h => by have := hF.out.p5 (by simpa using h); simpa using this, fun h => by have := hF.out.p8 (by simpa using h); simpa using this, fun h => by have := hF.out.p10 (by simpa using h); simpa using this, fun _ => by simpa using g11, fun h => by have := g11; simp [this] at h, fun s hs => (cell_set_other HGCN.out).trans (hF.out.cc s hs), fun _ h => by have := g11; simp [this] at h, fun _ h => by simp at h, hF.out.mv.set _ _, fun _ => HTH.out.put HIL.out⟩
      · intro d a W hI hall
        obtain ⟨gb, gr, cr, x10, x11, x12, x13, x14, x15, x16, x17, x18, x19, x20, x21, x22, rfl, hF⟩ := hI
        simp only [List.length_cons, List.length_nil] at hall
        obtain rfl := hF.out.f0 (hall 0 (by omega))
        obtain rfl := hF.out.f1 (hall 1 (by omega))
        obtain rfl := hF.out.f2 (hall 2 (by omega))
        obtain rfl := hF.out.f3 (hall 3 (by omega))
        obtain rfl := hF.out.f4 (hall 4 (by omega))
        obtain rfl := hF.out.f5 (hall 5 (by omega))
        obtain rfl := hF.out.f6 (hall 6 (by omega))
        obtain rfl := hF.out.f7 (hall 7 (by omega))
        obtain rfl := hF.out.f8 (hall 8 (by omega))
        obtain rfl := hF.out.f9 (hall 9 (by omega))
        obtain rfl := hF.out.f10 (hall 10 (by omega))
        obtain rfl := hF.out.f11 (hall 11 (by omega))
        obtain rfl := hF.out.f12 (hall 12 (by omega))
        have HR : Hid (Tn B gN n (fun j => if j = i then C i + 1 else C j) X (fun j => if j = i then (.slice (some ⟨gr, 0, none⟩) (C i + 1) cr) else V j) W ∧ Mk B gN wr W ∧ ∀ s, s < 200 → W.cell? ⟨gc, s, none⟩ = some (.int .i16 (Z s))) := ⟨hF.out.fin (hall 13 (by omega)), hF.out.mv, hF.out.cc⟩
        clear hF hall
        simp only [Act.put, List.setIfInBounds_toArray, List.set_cons_zero, List.set_cons_succ]
        go_wp2_with fail
        go_roundw
        case rel =>
          have hfin : ∃ V, Tn B gN n (fun j => if j < i + 1 then k + 1 else k) X V W ∧ (∀ j, i + 1 ≤ j → V j = V0 j) ∧ Mk B gN w W ∧ ∀ s, s < 200 → W.cell? ⟨gc, s, none⟩ = some (.int .i16 (Z s)) := by
            refine ⟨_, HR.out.1.congrC fun j hj => ?_, fun j hj => ?_, HMV.out.trans HR.out.2.1, HR.out.2.2⟩
            · rw [HCK.out]
              by_cases e : j = i
              · subst e; simp
              · have hcj : C j = if j < i then k + 1 else k := by rw [← HCE.out]
                by_cases e2 : j < i
                · simp [e, hcj, e2, show j < i + 1 by omega]
                · simp [e, hcj, e2, show ¬ j < i + 1 by omega]
            · rw [if_neg (by omega)]
              exact HVE.out j (by omega)
          exact ⟨i + 1, by omega, by go_num, hfin⟩
        case measure => simp [intOf]; omega
    · have HFI : Hid (Mk B gN w wr ∧ ∃ V', Tn B gN n (fun _ => k + 1) X V' wr) := ⟨hmv, V, htn.congrC fun j hj => by rw [if_pos (by omega)]⟩
      clear htn hve hmv hcc HE
      go_wp2_with fail
      refine bodyPost_end (v := .tuple #[]) (by simp [results, Try.results43, go_sem]) rfl ⟨rfl, HFI.out⟩
end Go.Proofs.Ytlgcggfenljdnaa
