/-
  The contract of pushkeep.calm.
-/
import Derived.Test.YtpbnnmfjahckmaaBrAu
namespace Go.Proofs.Ytpbnnmfjahckmaa
open Go.RowKit
open Cg

/-- What calm leaves. -/
def CaQ (w : World) (T n : Nat) (ps : List Pd) (e : Ending) (w' : World) : Prop :=
  Below w.heap.size w w' ∧ ∃ E F V R M ks ss nx, Fa ps E F V R M ∧ Auw T n ps E F ks ss nx ∧
    ((200 < ks.length ∧ e = .returned (.tuple #[.agg #[.slice none 0 0, .slice none 0 0], .bool false])) ∨
     (ks.length ≤ 200 ∧ nx.length = ks.length ∧ ∃ av gv, e = .returned (.tuple #[.agg #[av, gv], .bool (decide (ftN T ps ss nx ks.length = []))]) ∧ ArsF w.heap.size w' av (actsT T ks.length ps ss nx) ∧ RwsF w.heap.size w' gv (gotoT T ks.length nx)))
theorem ArsF.lower {B B' : Nat} {w : World} {v : Value} {l : List (List Sy)} (h : ArsF B w v l) (hb : B' ≤ B) : ArsF B' w v l := by
  obtain ⟨ao, cap, hv, hm, h | ⟨b, o, h1, h0, h2, h3⟩⟩ := h
  · exact ⟨ao, cap, hv, hm, Or.inl h⟩
  · exact ⟨ao, cap, hv, hm, Or.inr ⟨b, o, h1, Nat.le_trans hb h0, h2, fun i hi => by obtain ⟨u, g1, g2, g3⟩ := h3 i hi; exact ⟨u, g1, g2, fun q hq => Nat.le_trans hb (g3 q hq)⟩⟩⟩
theorem RwsF.lower {B B' : Nat} {w : World} {v : Value} {l : List (List Int)} (h : RwsF B w v l) (hb : B' ≤ B) : RwsF B' w v l := by
  obtain ⟨ao, cap, hv, hm, h | ⟨b, o, h1, h0, h2, h3⟩⟩ := h
  · exact ⟨ao, cap, hv, hm, Or.inl h⟩
  · exact ⟨ao, cap, hv, hm, Or.inr ⟨b, o, h1, Nat.le_trans hb h0, h2, fun i hi => by obtain ⟨u, g1, g2, g3⟩ := h3 i hi; exact ⟨u, g1, g2, fun q hq => Nat.le_trans hb (g3 q hq)⟩⟩⟩
set_option maxHeartbeats 3200000 in
set_option maxRecDepth 20000 in
theorem calm_bad (t n : Int) (pv : Value) (ps : List Pd) (w : World) (hp : Pds w pv ps) (hk : chk t n ps ≠ 0) :
    Calls Try.prog 13 #[.agg #[.int .i64 t, .int .i64 n, pv]] w fun e w' => e = .returned (.tuple #[.agg #[.slice none 0 0, .slice none 0 0], .bool false]) ∧ Below w.heap.size w w' := by
  obtain ⟨po, pc, rfl⟩ := hp.len
  have hab2 := below_alloc2 w (Obj.cells #[.int .i64 t, .int .i64 n, .slice po ps.length pc] 24) (Obj.cells #[.slice none 0 0, .slice none 0 0] 28)
  have hcall := LrMake_bad t n _ ps ((w.alloc (Obj.cells #[.int .i64 t, .int .i64 n, .slice po ps.length pc] 24)).alloc (Obj.cells #[.slice none 0 0, .slice none 0 0] 28)) (hp.below hab2) hk
  obtain ⟨r, HR⟩ : ∃ r, Hid (chk t n ps = r) := ⟨_, (rfl : chk t n ps = chk t n ps)⟩
  rw [HR.out] at hcall hk
  have hk2 : (r == 0) = false := by simpa using hk
  have HRC : Hid (((w.alloc (Obj.cells #[.int .i64 t, .int .i64 n, .slice po ps.length pc] 24)).alloc (Obj.cells #[.slice none 0 0, .slice none 0 0] 28)).heap[w.heap.size + 1]? = some (.cells #[.slice none 0 0, .slice none 0 0] 28)) := by
    show _ = _
    have := heap_alloc_new (w.alloc (Obj.cells #[.int .i64 t, .int .i64 n, .slice po ps.length pc] 24)) (Obj.cells #[.slice none 0 0, .slice none 0 0] 28)
    simpa using this
  have HB2 : Hid (_) := hab2
  clear hab2 hp hk
  go_enter Try.func13, Try.ntmps13
  go_wp2_with fail
  refine hcall.mono ?_
  rintro _ w1 ⟨rfl, hb1⟩
  have HBW : Hid (Below w.heap.size w w1) := HB2.out.trans (hb1.mono HB2.out.size)
  have hrc := mbox_next HRC.out hb1
  clear hcall hb1 HRC HB2
  have HBX : Hid (_) := mbox_next hrc (below_alloc w1 (Obj.cells #[.slice none 0 0, .slice none 0 0] 28))
  have HBY : Hid (_) := HBW.out.trans ((below_alloc w1 (Obj.cells #[.slice none 0 0, .slice none 0 0] 28)).mono HBW.out.size)
  have HTB : Hid (_) := heap_alloc_new w1 (Obj.cells #[.slice none 0 0, .slice none 0 0] 28)
  clear hrc
  go_upto_region 2 with fail
  obtain ⟨tb, HTBE⟩ : ∃ z, Hid (w1.heap.size = z) := ⟨_, (rfl : w1.heap.size = _)⟩
  rw [HTBE.out] at HTB ⊢
  generalize (w1.alloc (Obj.cells #[.slice none 0 0, .slice none 0 0] 28)) = w2 at HBX HBY HTB ⊢
  clear HTBE
  have b0 := mcell_blk HTB.out 0
  have b1 := mcell_blk HTB.out 1
  simp only [List.getElem?_toArray, List.getElem?_cons_zero, List.getElem?_cons_succ] at b0 b1
  have a0 := mcell_blk HBX.out 0
  have z0 := mfrozen_blk HBX.out 0
  have hs1 := mblock_store (i := 0) HBX.out (.slice none 0 0)
  have z2 := mfrozen_blk hs1 1
  have a2 := mcell_blk hs1 1
  simp at a0 a2
  have hs2 := mblock_store (i := 1) hs1 (.slice none 0 0)
  have v0 := mcell_blk hs2 0
  have v1 := mcell_blk hs2 1
  simp at v0 v1
  have HFIN : Hid (Below w.heap.size w ((w2.setCell ⟨w.heap.size + 1, 0, none⟩ (.slice none 0 0)).setCell ⟨w.heap.size + 1, 1, none⟩ (.slice none 0 0))) := (HBY.out.setCell (by simp) _).setCell (by simp) _
  clear hs1 hs2
  go_wp2_with fail
  exact bodyPost_ret (v := .tuple #[.agg #[(.slice none 0 0), (.slice none 0 0)], .bool false]) (by simp [results, Try.results13, go_sem, v0, v1]) rfl ⟨rfl, HFIN.out⟩
set_option maxHeartbeats 6400000 in
set_option maxRecDepth 20000 in
theorem calm_ok (T n : Nat) (pv : Value) (ps : List Pd) (w : World) (hp : Pds w pv ps) (hk : chk (T : Int) (n : Int) ps = 0) :
    Calls Try.prog 13 #[.agg #[.int .i64 (T : Int), .int .i64 (n : Int), pv]] w fun e w' => CaQ w T n ps e w' := by
  obtain ⟨po, pc, rfl⟩ := hp.len
  have hab2 := below_alloc2 w (Obj.cells #[.int .i64 (T : Int), .int .i64 (n : Int), .slice po ps.length pc] 24) (Obj.cells #[.slice none 0 0, .slice none 0 0] 28)
  have hcall := LrMake_ok T n _ ps ((w.alloc (Obj.cells #[.int .i64 (T : Int), .int .i64 (n : Int), .slice po ps.length pc] 24)).alloc (Obj.cells #[.slice none 0 0, .slice none 0 0] 28)) (hp.below hab2) hk
  have HSA : Hid (((w.alloc (Obj.cells #[.int .i64 (T : Int), .int .i64 (n : Int), .slice po ps.length pc] 24)).alloc (Obj.cells #[.slice none 0 0, .slice none 0 0] 28)).heap.size = w.heap.size + 2) := by show _ = _; simp
  have HRC : Hid (((w.alloc (Obj.cells #[.int .i64 (T : Int), .int .i64 (n : Int), .slice po ps.length pc] 24)).alloc (Obj.cells #[.slice none 0 0, .slice none 0 0] 28)).heap[w.heap.size + 1]? = some (.cells #[.slice none 0 0, .slice none 0 0] 28)) := by
    show _ = _
    have := heap_alloc_new (w.alloc (Obj.cells #[.int .i64 (T : Int), .int .i64 (n : Int), .slice po ps.length pc] 24)) (Obj.cells #[.slice none 0 0, .slice none 0 0] 28)
    simpa using this
  have HB2 : Hid (_) := hab2
  clear hab2 hp hk
  go_enter Try.func13, Try.ntmps13
  go_wp2_with fail
  refine hcall.mono ?_
  rintro e1 w1 ⟨hb1, E, F, V0, R, M, ks, ss, nx, hfa, hau, hcase⟩
  have HFA : Hid (Fa ps E F V0 R M) := hfa
  have HAU : Hid (Auw T n ps E F ks ss nx) := hau
  have HBW : Hid (Below w.heap.size w w1) := HB2.out.trans (hb1.mono HB2.out.size)
  have hrc := mbox_next HRC.out hb1
  have HSZ1 : Hid (w.heap.size + 2 ≤ w1.heap.size) := by have := hb1.size; have h2 := HSA.out; show _ ≤ _; omega
  rcases hcase with ⟨h200, rfl⟩ | ⟨hle, hnxl, av, gv, fo, fc, rfl, har, hrw, -⟩
  · have HKS : Hid (200 < ks.length) := h200
    clear hcall hb1 HRC HB2 hfa hau h200
    have HBX : Hid (_) := mbox_next hrc (below_alloc w1 (Obj.cells #[.slice none 0 0, .slice none 0 0] 28))
    have HBY : Hid (_) := HBW.out.trans ((below_alloc w1 (Obj.cells #[.slice none 0 0, .slice none 0 0] 28)).mono HBW.out.size)
    have HTB : Hid (_) := heap_alloc_new w1 (Obj.cells #[.slice none 0 0, .slice none 0 0] 28)
    clear hrc
    go_upto_region 2 with fail
    obtain ⟨tb, HTBE⟩ : ∃ z, Hid (w1.heap.size = z) := ⟨_, (rfl : w1.heap.size = _)⟩
    rw [HTBE.out] at HTB ⊢
    generalize (w1.alloc (Obj.cells #[.slice none 0 0, .slice none 0 0] 28)) = w2 at HBX HBY HTB ⊢
    clear HTBE
    have b0 := mcell_blk HTB.out 0
    have b1 := mcell_blk HTB.out 1
    simp only [List.getElem?_toArray, List.getElem?_cons_zero, List.getElem?_cons_succ] at b0 b1
    have a0 := mcell_blk HBX.out 0
    have z0 := mfrozen_blk HBX.out 0
    have hs1 := mblock_store (i := 0) HBX.out (.slice none 0 0)
    have z2 := mfrozen_blk hs1 1
    have a2 := mcell_blk hs1 1
    simp at a0 a2
    have hs2 := mblock_store (i := 1) hs1 (.slice none 0 0)
    have v0 := mcell_blk hs2 0
    have v1 := mcell_blk hs2 1
    simp at v0 v1
    have HFIN : Hid (CaQ w T n ps (.returned (.tuple #[.agg #[.slice none 0 0, .slice none 0 0], .bool false])) ((w2.setCell ⟨w.heap.size + 1, 0, none⟩ (.slice none 0 0)).setCell ⟨w.heap.size + 1, 1, none⟩ (.slice none 0 0))) := ⟨(HBY.out.setCell (by simp) _).setCell (by simp) _, E, F, V0, R, M, ks, ss, nx, HFA.out, HAU.out, Or.inl ⟨HKS.out, rfl⟩⟩
    clear hs1 hs2
    go_wp2_with fail
    exact bodyPost_ret (v := .tuple #[.agg #[(.slice none 0 0), (.slice none 0 0)], .bool false]) (by simp [results, Try.results13, go_sem, v0, v1]) rfl HFIN.out
  · have HLE : Hid (ks.length ≤ 200 ∧ nx.length = ks.length) := ⟨hle, hnxl⟩
    obtain ⟨ao, ac, rfl⟩ : ∃ ao ac, av = .slice ao (actsT T ks.length ps ss nx).length ac := by obtain ⟨ao, c, e, -⟩ := har; exact ⟨ao, c, e⟩
    obtain ⟨go, gc, rfl⟩ : ∃ go gc, gv = .slice go (gotoT T ks.length nx).length gc := by obtain ⟨ao, c, e, -⟩ := hrw; exact ⟨ao, c, e⟩
    rw [HSA.out] at har hrw
    have HAR0 : Hid (ArsF (w.heap.size + 2) w1 (.slice ao (actsT T ks.length ps ss nx).length ac) (actsT T ks.length ps ss nx)) := har
    have HRW0 : Hid (RwsF (w.heap.size + 2) w1 (.slice go (gotoT T ks.length nx).length gc) (gotoT T ks.length nx)) := hrw
    obtain ⟨an, HAN⟩ : ∃ an, Hid ((actsT T ks.length ps ss nx).length = an) := ⟨_, (rfl : (actsT T ks.length ps ss nx).length = _)⟩
    obtain ⟨gn, HGN⟩ : ∃ gn, Hid ((gotoT T ks.length nx).length = gn) := ⟨_, (rfl : (gotoT T ks.length nx).length = _)⟩
    obtain ⟨m, HMN⟩ : ∃ m, Hid ((ftN T ps ss nx ks.length).length = m) := ⟨_, (rfl : (ftN T ps ss nx ks.length).length = _)⟩
    have HAR : Hid (ArsF (w.heap.size + 2) w1 (.slice ao an ac) (actsT T ks.length ps ss nx)) := by
      show ArsF _ _ _ _
      rw [← HAN.out]; exact HAR0.out
    have HRW : Hid (RwsF (w.heap.size + 2) w1 (.slice go gn gc) (gotoT T ks.length nx)) := by
      show RwsF _ _ _ _
      rw [← HGN.out]; exact HRW0.out
    rw [HAN.out, HGN.out, HMN.out]
    clear HAR0 HRW0
    have HDE : Hid (decide (ftN T ps ss nx ks.length = []) = ((m : Int) == 0)) := by
      show _ = _
      rw [← HMN.out]
      cases ftN T ps ss nx ks.length with
      | nil => simp
      | cons a l => simp; omega
    clear hcall hb1 HRC HB2 hfa hau hle hnxl har hrw
    have hab := below_alloc w1 (Obj.cells #[.slice ao an ac, .slice go gn gc] 28)
    have HBX : Hid (_) := mbox_next hrc hab
    have HBY : Hid (_) := HBW.out.trans (hab.mono HBW.out.size)
    have HTB : Hid (_) := heap_alloc_new w1 (Obj.cells #[.slice ao an ac, .slice go gn gc] 28)
    have HAR2 : Hid (ArsF (w.heap.size + 2) (w1.alloc (Obj.cells #[.slice ao an ac, .slice go gn gc] 28)) (.slice ao an ac) (actsT T ks.length ps ss nx)) := ArsF.keep HAR.out (fun q _ hq => hab.block q hq) hab.size
    have HRW2 : Hid (RwsF (w.heap.size + 2) (w1.alloc (Obj.cells #[.slice ao an ac, .slice go gn gc] 28)) (.slice go gn gc) (gotoT T ks.length nx)) := RwsF.keep HRW.out (fun q _ hq => hab.block q hq) hab.size
    clear hrc hab HAR HRW
    go_upto_region 2 with fail
    obtain ⟨tb, HTBE⟩ : ∃ z, Hid (w1.heap.size = z) := ⟨_, (rfl : w1.heap.size = _)⟩
    rw [HTBE.out] at HTB ⊢
    generalize (w1.alloc (Obj.cells #[.slice ao an ac, .slice go gn gc] 28)) = w2 at HBX HBY HTB HAR2 HRW2 ⊢
    clear HTBE
    have b0 := mcell_blk HTB.out 0
    have b1 := mcell_blk HTB.out 1
    simp only [List.getElem?_toArray, List.getElem?_cons_zero, List.getElem?_cons_succ] at b0 b1
    have a0 := mcell_blk HBX.out 0
    have z0 := mfrozen_blk HBX.out 0
    have hs1 := mblock_store (i := 0) HBX.out (.slice ao an ac)
    have z2 := mfrozen_blk hs1 1
    have a2 := mcell_blk hs1 1
    simp at a0 a2
    have hs2 := mblock_store (i := 1) hs1 (.slice go gn gc)
    have v0 := mcell_blk hs2 0
    have v1 := mcell_blk hs2 1
    simp at v0 v1
    have HFIN : Hid (CaQ w T n ps (.returned (.tuple #[.agg #[.slice ao an ac, .slice go gn gc], .bool ((m : Int) == 0)])) ((w2.setCell ⟨w.heap.size + 1, 0, none⟩ (.slice ao an ac)).setCell ⟨w.heap.size + 1, 1, none⟩ (.slice go gn gc))) := by
      have hsame : ∀ q, w.heap.size + 2 ≤ q → q < w2.heap.size → ((w2.setCell ⟨w.heap.size + 1, 0, none⟩ (.slice ao an ac)).setCell ⟨w.heap.size + 1, 1, none⟩ (.slice go gn gc)).heap[q]? = w2.heap[q]? := fun q hq _ => (mset_ne _ 1 _ (by omega)).trans (mset_ne _ 0 _ (by omega))
      refine ⟨(HBY.out.setCell (by simp) _).setCell (by simp) _, E, F, V0, R, M, ks, ss, nx, HFA.out, HAU.out, Or.inr ⟨HLE.out.1, HLE.out.2, _, _, by rw [HDE.out], ?_, ?_⟩⟩
      · exact (ArsF.keep HAR2.out hsame (by simp [World.setCell])).lower (by omega)
      · exact (RwsF.keep HRW2.out hsame (by simp [World.setCell])).lower (by omega)
    clear hs1 hs2
    go_wp2_with fail
    exact bodyPost_ret (v := .tuple #[.agg #[(.slice ao an ac), (.slice go gn gc)], .bool ((m : Int) == 0)]) (by simp [results, Try.results13, go_sem, v0, v1]) rfl HFIN.out
end Go.Proofs.Ytpbnnmfjahckmaa
