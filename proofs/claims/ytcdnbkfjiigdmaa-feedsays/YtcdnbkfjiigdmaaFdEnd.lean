/-
  The contracts of feed.End, and of feed.Feed where something is wrong ahead of all.
-/
import Derived.Test.YtcdnbkfjiigdmaaFdFeed
namespace Go.Proofs.Ytcdnbkfjiigdmaa
open Go.RowKit
open Dfa

/-- What End answers, of all tokens of what waits. -/
def endAns (a0 k : Nat) (al : List (Int × Nat × Nat) × Option Nat) : Nat × List UInt8 × List (Int × Nat × Nat) × Int := match al.2 with
  | none => (a0 + k, [], al.1.map (sh a0), 15)
  | some p => (a0 + p, [], al.1.map (sh a0), 9)
def errOf : Option Nat → Int
  | none => 0
  | some _ => 9
structure RE8 (w : World) (O : Nat → Nat) (nv tv : Value) (B g b2 ia : Nat) (bf : ByteArray) (o : Int) (va : Option Addr) (vc : Nat) (ts : List (Int × Nat × Nat)) (d : Nat → Bool) (x5 x6 x34 x35 x36 x37 x38 x39 x40 : Value) (W : World) : Prop where
  f0 : d 0 = true → x34 = (.pointer (some ⟨g, 258, none⟩))
  f1 : d 1 = true → x35 = (.agg #[.int .i64 (ia : Int), .string bf, .int .i64 o])
  f2 : d 2 = true → x36 = (.pointer (some ⟨g, 261, none⟩))
  f3 : d 3 = true → x37 = (.slice va ts.length vc)
  f4 : d 4 = true → x38 = (.pointer (some ⟨g, 258, none⟩))
  f5 : d 5 = true → x39 = (.pointer (some ⟨g, 260, none⟩))
  f6 : d 6 = true → x40 = (.int .i64 o)
  f7 : d 7 = true → True
  f8 : d 8 = true → x5 = (.slice va ts.length vc)
  f9 : d 9 = true → x6 = (.int .i64 o)
  bel : Below w.heap.size w W
  rd : Rd O nv tv B g ia bf o (.slice va ts.length vc) ts W
  bl : d 7 = false → W.heap[b2]? = some (.cells #[.int .i64 0, .string ⟨#[]⟩, .int .i64 0] 29 (0, 0))
  fin : d 7 = true → W.heap[b2]? = some (.cells #[.int .i64 (ia : Int), .string bf, .int .i64 o] 29 (0, 0))

structure RE10 (w : World) (O : Nat → Nat) (nv tv : Value) (B g b2 ia : Nat) (bf : ByteArray) (o : Int) (va : Option Addr) (vc : Nat) (ts : List (Int × Nat × Nat)) (d : Nat → Bool) (x5 x6 x43 x44 x45 x46 : Value) (W : World) : Prop where
  f0 : d 0 = true → x43 = (.pointer (some ⟨g, 258, none⟩))
  f1 : d 1 = true → x44 = (.agg #[.int .i64 (ia : Int), .string bf, .int .i64 o])
  f2 : d 2 = true → x45 = (.pointer (some ⟨g, 261, none⟩))
  f3 : d 3 = true → x46 = (.slice va ts.length vc)
  f4 : d 4 = true → True
  f5 : d 5 = true → x5 = (.slice va ts.length vc)
  f6 : d 6 = true → x6 = (.int .i64 0)
  bel : Below w.heap.size w W
  rd : Rd O nv tv B g ia bf o (.slice va ts.length vc) ts W
  bl : d 4 = false → W.heap[b2]? = some (.cells #[.int .i64 0, .string ⟨#[]⟩, .int .i64 0] 29 (0, 0))
  fin : d 4 = true → W.heap[b2]? = some (.cells #[.int .i64 (ia : Int), .string bf, .int .i64 o] 29 (0, 0))

set_option maxHeartbeats 8000000 in
set_option maxRecDepth 20000 in
theorem end_ok (O : Nat → Nat) (nv tv : Value) (n : Nat) (L : Nat → Nat) (X : Nat → Nat → Int) (T : Nat → Int) (a0 : Nat) (b0 : ByteArray) (w : World) (hO : ∀ j, O j < 256) (hx : Nx w nv n L X) (ht : Ts w tv n T) (hok : chkP n n O L X T = 0) (ha : a0 ≤ 1099511627776) (hb : b0.size ≤ 64) :
    Calls Try.prog 6 #[.agg (pl O nv tv).toArray, .agg #[.int .i64 (a0 : Int), .string b0, .int .i64 0]] w fun e w' => HAns (endAns a0 b0.size (Dfa.all (RR n O X) T b0.data.toList)) w e (errOf (Dfa.all (RR n O X) T b0.data.toList).2) w' := by
  have HOO : Hid (∀ j, O j < 256) := hO
  have HNX : Hid (Nx w nv n L X) := hx
  have HTT : Hid (Ts w tv n T) := ht
  have HCP : Hid (chkP n n O L X T = 0) := hok
  have HON : Hid ((pl O nv tv).toArray.all (·.oneCell') = true) := pl_ones hx ht
  have HLN : Hid ((pl O nv tv).length = 258) := pl_length _ _ _
  -- the boxes
  obtain ⟨l, HLL⟩ : ∃ l, Hid (pl O nv tv = l) := ⟨_, (rfl : _ = _)⟩
  rw [HLL.out] at HON HLN ⊢
  have hsl : (Try.prog.info? 26).map (·.size) = some l.length := by rw [HLN.out]; exact size26
  have HSI : Hid ((Try.prog.info? 26).map (·.size) = some l.length) := hsl
  obtain ⟨w3, HW3⟩ : ∃ q, Hid (((w.alloc (Obj.cells l.toArray 26)).alloc (Obj.cells #[.int .i64 (a0 : Int), .string b0, .int .i64 0] 29)).alloc (Obj.cells #[.int .i64 0, .string ⟨#[]⟩, .int .i64 0] 29) = q) := ⟨_, (rfl : _ = _)⟩
  have hB3 : Below w.heap.size w w3 := by rw [← HW3.out]; exact (((Below.refl _ _).alloc (Nat.le_refl _) _).alloc (by simp) _).alloc (by simp <;> omega) _
  have hg0 : w3.rangeAt w.heap.size 0 l := by
    rw [← HW3.out]
    intro j u hu
    exact Go.Lib.cell?_alloc_some _ (Go.Lib.cell?_alloc_some _ (range_block w l 26 j u hu))
  have hg1 : w3.heap[w.heap.size + 1]? = some (.cells #[.int .i64 (a0 : Int), .string b0, .int .i64 0] 29 (0, 0)) := by
    have := heap_alloc_new (w.alloc (Obj.cells l.toArray 26)) (Obj.cells #[.int .i64 (a0 : Int), .string b0, .int .i64 0] 29)
    rw [World.size_alloc] at this
    rw [← HW3.out]; exact (Below.heap_alloc _ _ _ (by simp)).trans this
  have hg2 : w3.heap[w.heap.size + 2]? = some (.cells #[.int .i64 0, .string ⟨#[]⟩, .int .i64 0] 29 (0, 0)) := by
    have := heap_alloc_new ((w.alloc (Obj.cells l.toArray 26)).alloc (Obj.cells #[.int .i64 (a0 : Int), .string b0, .int .i64 0] 29)) (Obj.cells #[.int .i64 0, .string ⟨#[]⟩, .int .i64 0] 29)
    rw [World.size_alloc, World.size_alloc] at this
    rw [← HW3.out]; exact this
  have hs3 : w3.heap.size = w.heap.size + 3 := by rw [← HW3.out]; simp
  have HQ := checkH_any O nv tv n n L X T (a0 : Int) b0 0 w3 hO (hx.below hB3 (Nat.le_refl _)) (ht.below hB3 (Nat.le_refl _))
  rw [hok, show chkH 0 (a0 : Int) b0.size 0 = 0 by unfold chkH; rw [if_neg (by omega), if_neg (by omega), if_neg (by omega)], HLL.out] at HQ
  have HG3 : Hid (w3.rangeAt w.heap.size 0 l ∧ w3.heap[w.heap.size + 1]? = some (.cells #[.int .i64 (a0 : Int), .string b0, .int .i64 0] 29 (0, 0)) ∧ w3.heap[w.heap.size + 2]? = some (.cells #[.int .i64 0, .string ⟨#[]⟩, .int .i64 0] 29 (0, 0)) ∧ w3.heap.size = w.heap.size + 3 ∧ Below w.heap.size w w3) := ⟨hg0, hg1, hg2, hs3, hB3⟩
  have x0 := block_cell hg1 0
  have x1 := block_cell hg1 1
  have x2 := block_cell hg1 2
  simp only [List.getElem?_toArray, List.getElem?_cons_zero, List.getElem?_cons_succ] at x0 x1 x2
  obtain ⟨R, HR⟩ : ∃ q, Hid (RR n O X = q) := ⟨_, (rfl : _ = _)⟩
  rw [HR.out]
  obtain ⟨al, HAL⟩ : ∃ q, Hid (Dfa.all R T b0.data.toList = q) := ⟨_, (rfl : _ = _)⟩
  rw [HAL.out]
  obtain ⟨an, HEA⟩ : ∃ q, Hid (endAns a0 b0.size al = q) := ⟨_, (rfl : _ = _)⟩
  rw [HEA.out]
  obtain ⟨er, HER⟩ : ∃ q, Hid (errOf al.2 = q) := ⟨_, (rfl : _ = _)⟩
  rw [HER.out]
  clear hO hx ht hok hsl hg0 hg1 hg2 hs3 hB3
  go_enter Try.func6, Try.ntmps6
  go_upto_region 1 with fail
  rw [HW3.out]
  clear HW3
  go_wp2_with (refine wpList_load_mid rfl 26 _ rfl w.heap.size 0 rfl l _ HG3.out.1 Try.underlying26 rfl HSI.out ?_)
  refine HQ.mono ?_
  rintro _ w4 ⟨rfl, hbb⟩
  clear x0 x1 x2 HQ
  have hg0 : w4.rangeAt w.heap.size 0 l := fun j u hu => (hbb.cell (p := ⟨w.heap.size, 0 + j, none⟩) (by have := HG3.out.2.2.2.1; simp; omega)).trans (HG3.out.1 j u hu)
  have hg1 := (hbb.block (w.heap.size + 1) (by have := HG3.out.2.2.2.1; omega)).trans HG3.out.2.1
  have hg2 := (hbb.block (w.heap.size + 2) (by have := HG3.out.2.2.2.1; omega)).trans HG3.out.2.2.1
  have hs4 : w.heap.size + 3 ≤ w4.heap.size := by have := hbb.size; have := HG3.out.2.2.2.1; omega
  have hB4 : Below w.heap.size w w4 := HG3.out.2.2.2.2.trans (hbb.mono HG3.out.2.2.2.2.size)
  have x0 := block_cell hg1 0
  have x1 := block_cell hg1 1
  have x2 := block_cell hg1 2
  simp only [List.getElem?_toArray, List.getElem?_cons_zero, List.getElem?_cons_succ] at x0 x1 x2
  have HG4 : Hid (w4.rangeAt w.heap.size 0 l) := hg0
  have HBX := Rd.box w4 O nv tv a0 b0 0
  rw [HLL.out] at HBX
  have hbA := (Below.refl w4.heap.size w4).alloc (Nat.le_refl _) (Obj.cells (rdl l (.int .i64 (a0 : Int)) (.string b0) (.int .i64 0) (.slice none 0 0)).toArray 42)
  have hbw : Below w.heap.size w (w4.alloc (Obj.cells (rdl l (.int .i64 (a0 : Int)) (.string b0) (.int .i64 0) (.slice none 0 0)).toArray 42)) := hB4.trans (hbA.mono hB4.size)
  have hgA := (hbA.block (w.heap.size + 2) (by omega)).trans hg2
  obtain ⟨zs, hz42, hzs, hze⟩ := zero42
  have hfo := fold42 l HLN.out (.int .i64 (a0 : Int)) (.string b0) (.int .i64 0)
  have hfs := fold42_size l
  rw [← hze] at hfo hfs
  have hln := HLN.out
  have HR1 : Hid ((rdl l (.int .i64 (a0 : Int)) (.string b0) (.int .i64 0) (.slice none 0 0)).toArray.all (·.oneCell') = true) := rdl_one l HON.out _ _ _
  have HRS : Hid ((rdl l (.int .i64 (a0 : Int)) (.string b0) (.int .i64 0) (.slice none 0 0)).toArray.size = 262) := by show _ = _; rw [List.size_toArray]; exact rdl_length _ _ _ _ _ HLN.out
  obtain ⟨ra, HRA⟩ : ∃ q, Hid ((rdl l (.int .i64 (a0 : Int)) (.string b0) (.int .i64 0) (.slice none 0 0)).toArray = q) := ⟨_, (rfl : _ = _)⟩
  rw [HRA.out] at HBX hbA hbw hgA hfo HR1 HRS
  have HZS : Hid (zs.size = 262) := hzs
  obtain ⟨g, HGE⟩ : ∃ q, Hid (w4.heap.size = q) := ⟨_, (rfl : _ = _)⟩
  obtain ⟨wA, HWA⟩ : ∃ q, Hid (w4.alloc (Obj.cells ra 42) = q) := ⟨_, (rfl : _ = _)⟩
  rw [HWA.out] at HBX hbA hbw hgA
  rw [HGE.out] at HBX hs4
  have HRD0 : Hid (Rd O nv tv (g + 1) g a0 b0 0 (.slice none 0 0) [] wA) := HBX
  have HBA : Hid (Below w.heap.size w wA) := hbw
  have HGB : Hid (w.heap.size ≤ g ∧ w.heap.size ≤ g + 1) := ⟨by omega, by omega⟩
  have HGG : Hid (w.heap.size + 2 < g) := by show _ < _; omega
  have HBW : Hid (w.heap.size ≤ g + 1) := by show _ ≤ _; omega
  have HRG2 : Hid (wA.rangeAt w.heap.size 0 l ∧ w.heap.size < g) := ⟨fun j u hu => (hbA.cell (p := ⟨w.heap.size, 0 + j, none⟩) (by have := HGE.out; simp; omega)).trans (HG4.out j u hu), by omega⟩
  have HGA : Hid (wA.heap[w.heap.size + 2]? = some (.cells #[.int .i64 0, .string ⟨#[]⟩, .int .i64 0] 29 (0, 0))) := hgA
  clear hbb hg0 hg1 hg2 hs4 hB4 HBX hbA hbw hgA HRA hze
  go_wp2_with (first | refine wpList_load_mid rfl 26 _ rfl w.heap.size 0 rfl l _ HG4.out Try.underlying26 rfl HSI.out ?_ | (refine wpList_store_new42 rfl _ _ rfl zs ra rfl rfl HZS.out HRS.out HR1.out ?_; rw [HWA.out, HGE.out]))
  simp only [Act.put]
  have HTK0 : Hid (Tk R T b0.data.toList [] 0) := Tk.start R T b0.data.toList
  have HRA2 : Hid (wA.rangeAt w.heap.size 0 l ∧ w.heap.size < g) := HRG2
  clear HRG2
  go_loopw [] (fun wr => ∃ (k ia : Nat) (bf : ByteArray) (v : Value) (ts tm : List (Int × Nat × Nat)) (o : Int), ia = a0 + k ∧ tm = ts.map (sh a0) ∧ Rd O nv tv (g + 1) g ia bf o v tm wr ∧ Mk (g + 1) g wA wr ∧ ((o = 0 ∧ bf.data.toList = b0.data.toList.drop k ∧ Tk R T b0.data.toList ts k) ∨ (o = 9 ∧ bf = ⟨#[]⟩ ∧ al = (ts, some k))) ∧ k ≤ b0.size ∧ tm.length ≤ k ∧ bf.size ≤ 64) (fun wr => bufOf wr g)
  case atStart => exact ⟨0, a0, b0, _, [], [], 0, rfl, rfl, HRD0.out, Mk.refl _ _ _, Or.inl ⟨rfl, rfl, HTK0.out⟩, by omega, by simp, hb⟩
  case round =>
    clear HRD0 HTK0 x0 x1 x2
    obtain ⟨k, ia, bf, v, ts, tm, o, hia, htm, hrd, hmk, hor, hq1, hq2, hq3⟩ := hrel
    have HIA : Hid (ia = a0 + k ∧ tm = ts.map (sh a0)) := ⟨hia, htm⟩
    have hia2 : ia ≤ a0 + 64 := by omega
    clear hia htm
    have HMK : Hid (Mk (g + 1) g wA wr) := hmk
    obtain ⟨va, vc, rfl⟩ := own_form hrd.own
    have HRD : Hid (Rd O nv tv (g + 1) g ia bf o (.slice va tm.length vc) tm wr) := hrd
    have HC9 : Hid (wr.cell? ⟨g, 259, none⟩ = some (.string bf)) := hrd.c259
    have HFZ : Hid (Below w.heap.size w wr ∧ wr.heap[w.heap.size + 2]? = some (.cells #[.int .i64 0, .string ⟨#[]⟩, .int .i64 0] 29 (0, 0)) ∧ wr.rangeAt w.heap.size 0 l) := ⟨hmk.below HBA.out HGB.out.1 HGB.out.2, (hmk.blk _ (by have := HGG.out; omega) (by have := HGG.out; omega)).trans HGA.out, fun j u hu => (cell_same (hmk.blk w.heap.size (by have := HGG.out; omega) (by have := HGG.out; omega)) _).trans (HRA2.out.1 j u hu)⟩
    have y9 := hrd.c259
    have y6 := hrd.c260
    clear hmk hrd
    by_cases hse : bf.size = 0
    · have HBN : Hid (bf = ⟨#[]⟩) := nil_of hse
      have hem : bf.toList.isEmpty = true := by rw [Go.Lib.toList_data, nil_of hse]; rfl
      rcases hor with ⟨rfl, h1, h2⟩ | ⟨rfl, -, h1⟩
      · -- all is told
        have hkl : b0.data.toList.length ≤ k := by
          have := congrArg List.length h1
          rw [List.length_drop, data_size, data_size, hse] at this
          rw [data_size]; omega
        have hal : al = (ts, none) := by rw [← HAL.out]; exact h2.over hkl
        have HAN : Hid (an = (ia, bf.data.toList, tm, 15)) := by
          show _ = _
          rw [data_size] at hkl
          rw [HBN.out]
          rw [← HEA.out, hal, HIA.out.1, HIA.out.2]
          show (a0 + b0.size, _, _, _) = _
          rw [show b0.size = k by omega]
        have HEE : Hid (er = 0) := by show _ = _; rw [← HER.out, hal]; rfl
        have HR15 : Hid (Rd O nv tv (g + 1) g ia bf 15 (.slice va tm.length vc) tm (wr.setCell ⟨g, 260, none⟩ (.int .i64 15))) := HRD.out.setOver 15
        have HFR : Hid (Below w.heap.size w (wr.setCell ⟨g, 260, none⟩ (.int .i64 15)) ∧ Rd O nv tv (g + 1) g ia bf 15 (.slice va tm.length vc) tm (wr.setCell ⟨g, 260, none⟩ (.int .i64 15)) ∧ (wr.setCell ⟨g, 260, none⟩ (.int .i64 15)).heap[w.heap.size + 2]? = some (.cells #[.int .i64 0, .string ⟨#[]⟩, .int .i64 0] 29 (0, 0))) := ⟨HFZ.out.1.setCell (by have := HGB.out.1; simp; omega) _, HR15.out, (Below.heap_setCell _ _ _ _ (by have := HGG.out; simp; omega)).trans HFZ.out.2.1⟩
        have f6 := HRD.out.row.frozen 260
        obtain ⟨w15, HW15⟩ : ∃ q, Hid (wr.setCell ⟨g, 260, none⟩ (.int .i64 15) = q) := ⟨_, (rfl : _ = _)⟩
        rw [HW15.out] at HFR
        clear HR15 h1 h2 hal
        go_upto_region 10 with fail
        rw [HW15.out]
        go_wp2_with fail
        refine wp_region_free mixed (fun a0 d a W => ∃ (x5 x6 x43 x44 x45 x46 : Value), a = ((((((a0.put (some 5) x5).put (some 6) x6).put (some 43) x43).put (some 44) x44).put (some 45) x45).put (some 46) x46) ∧ Hid (RE10 w O nv tv (g + 1) g (w.heap.size + 2) ia bf 15 va vc tm d x5 x6 x43 x44 x45 x46 W)) (by kernel_rfl) ⟨(.slice none 0 0), (.int .i64 0), undef, undef, undef, undef, by simp only [Act.put, List.setIfInBounds_toArray, List.set_cons_zero, List.set_cons_succ], ?_⟩ ?_ ?_
        · exact ⟨fun h => no_way h, fun h => no_way h, fun h => no_way h, fun h => no_way h, fun _ => trivial, fun h => no_way h, fun h => no_way h, HFR.out.1.drew, HFR.out.2.1.drew, fun _ => HFR.out.2.2, fun h => no_way h⟩
        · simp only [StepAll, and_true]
          refine ⟨?_, ?_, ?_, ?_, ?_, ?_, ?_⟩
          · intro d a W hI hd hdep
            obtain ⟨x5, x6, x43, x44, x45, x46, rfl, hF⟩ := hI
            clear hdep hd
            intro K hK
            simp only [Act.put, List.setIfInBounds_toArray, List.set_cons_zero, List.set_cons_succ]
            go_simp
            refine hK.out _ _ ⟨x5, x6, (.pointer (some ⟨g, 258, none⟩)), x44, x45, x46, by simp only [Act.put, List.setIfInBounds_toArray, List.set_cons_zero, List.set_cons_succ], ?_⟩
            exact ⟨fun _ => rfl, fun h => hF.out.f1 (by simpa using h), fun h => hF.out.f2 (by simpa using h), fun h => hF.out.f3 (by simpa using h), fun h => hF.out.f4 (by simpa using h), fun h => hF.out.f5 (by simpa using h), fun h => hF.out.f6 (by simpa using h), hF.out.bel, hF.out.rd, fun h => hF.out.bl (by simpa using h), fun h => hF.out.fin (by simpa using h)⟩
          · intro d a W hI hd hdep
            obtain ⟨x5, x6, x43, x44, x45, x46, rfl, hF⟩ := hI
            have hd0 : d 0 = true := dep_of hdep 0 (by kernel_rfl)
            obtain rfl := hF.out.f0 hd0
            have ya := hF.out.rd.c258
            have yb := hF.out.rd.c259
            have yc := hF.out.rd.c260
            clear hdep hd hd0
            intro K hK
            simp only [Act.put, List.setIfInBounds_toArray, List.set_cons_zero, List.set_cons_succ]
            go_simp
            refine hK.out _ _ ⟨x5, x6, (.pointer (some ⟨g, 258, none⟩)), (.agg #[.int .i64 (ia : Int), .string bf, .int .i64 15]), x45, x46, by simp only [Act.put, List.setIfInBounds_toArray, List.set_cons_zero, List.set_cons_succ], ?_⟩
            exact ⟨fun h => hF.out.f0 (by simpa using h), fun _ => rfl, fun h => hF.out.f2 (by simpa using h), fun h => hF.out.f3 (by simpa using h), fun h => hF.out.f4 (by simpa using h), fun h => hF.out.f5 (by simpa using h), fun h => hF.out.f6 (by simpa using h), hF.out.bel, hF.out.rd, fun h => hF.out.bl (by simpa using h), fun h => hF.out.fin (by simpa using h)⟩
          · intro d a W hI hd hdep
            obtain ⟨x5, x6, x43, x44, x45, x46, rfl, hF⟩ := hI
            clear hdep hd
            intro K hK
            simp only [Act.put, List.setIfInBounds_toArray, List.set_cons_zero, List.set_cons_succ]
            go_simp
            refine hK.out _ _ ⟨x5, x6, x43, x44, (.pointer (some ⟨g, 261, none⟩)), x46, by simp only [Act.put, List.setIfInBounds_toArray, List.set_cons_zero, List.set_cons_succ], ?_⟩
            exact ⟨fun h => hF.out.f0 (by simpa using h), fun h => hF.out.f1 (by simpa using h), fun _ => rfl, fun h => hF.out.f3 (by simpa using h), fun h => hF.out.f4 (by simpa using h), fun h => hF.out.f5 (by simpa using h), fun h => hF.out.f6 (by simpa using h), hF.out.bel, hF.out.rd, fun h => hF.out.bl (by simpa using h), fun h => hF.out.fin (by simpa using h)⟩
          · intro d a W hI hd hdep
            obtain ⟨x5, x6, x43, x44, x45, x46, rfl, hF⟩ := hI
            have hd2 : d 2 = true := dep_of hdep 2 (by kernel_rfl)
            obtain rfl := hF.out.f2 hd2
            have ya := hF.out.rd.c261
            clear hdep hd hd2
            intro K hK
            simp only [Act.put, List.setIfInBounds_toArray, List.set_cons_zero, List.set_cons_succ]
            go_simp
            refine hK.out _ _ ⟨x5, x6, x43, x44, (.pointer (some ⟨g, 261, none⟩)), (.slice va tm.length vc), by simp only [Act.put, List.setIfInBounds_toArray, List.set_cons_zero, List.set_cons_succ], ?_⟩
            exact ⟨fun h => hF.out.f0 (by simpa using h), fun h => hF.out.f1 (by simpa using h), fun h => hF.out.f2 (by simpa using h), fun _ => rfl, fun h => hF.out.f4 (by simpa using h), fun h => hF.out.f5 (by simpa using h), fun h => hF.out.f6 (by simpa using h), hF.out.bel, hF.out.rd, fun h => hF.out.bl (by simpa using h), fun h => hF.out.fin (by simpa using h)⟩
          · intro d a W hI hd hdep
            obtain ⟨x5, x6, x43, x44, x45, x46, rfl, hF⟩ := hI
            have hd1 : d 1 = true := dep_of hdep 1 (by kernel_rfl)
            obtain rfl := hF.out.f1 hd1
            have hbl := hF.out.bl hd
            have x0 := block_cell hbl 0
            have x1 := block_cell hbl 1
            have x2 := block_cell hbl 2
            have f0 := block_free hbl 0
            have f1 := block_free hbl 1
            have f2 := block_free hbl 2
            simp only [List.getElem?_toArray, List.getElem?_cons_zero, List.getElem?_cons_succ] at x0 x1 x2
            have HBL : Hid (W.heap[w.heap.size + 2]? = some (.cells #[.int .i64 0, .string ⟨#[]⟩, .int .i64 0] 29 (0, 0))) := hbl
            clear hbl
            clear hdep hd hd1
            intro K hK
            simp only [Act.put, List.setIfInBounds_toArray, List.set_cons_zero, List.set_cons_succ]
            go_simp
            refine hK.out _ _ ⟨x5, x6, x43, (.agg #[.int .i64 (ia : Int), .string bf, .int .i64 15]), x45, x46, by simp only [Act.put, List.setIfInBounds_toArray, List.set_cons_zero, List.set_cons_succ], ?_⟩
            have hsame := same_three W (w.heap.size + 2) (.int .i64 (ia : Int)) (.string bf) (.int .i64 15)
            exact ⟨fun h => hF.out.f0 (by simpa using h), fun h => hF.out.f1 (by simpa using h), fun h => hF.out.f2 (by simpa using h), fun h => hF.out.f3 (by simpa using h), fun _ => trivial, fun h => hF.out.f5 (by simpa using h), fun h => hF.out.f6 (by simpa using h), ((hF.out.bel.setCell (by simp <;> omega) _).setCell (by simp <;> omega) _).setCell (by simp <;> omega) _, ⟨hF.out.rd.row.of_block (hsame.2.2.2.2 g (by have := HGG.out; omega)), own_same hF.out.rd.own fun k hk => hsame.2.2.2.2 k (by have := (hF.out.rd.own.lt k hk).1; have := HGG.out; omega), hF.out.rd.lt, by rw [hsame.1]; exact hF.out.rd.sz⟩, fun h => by simp at h, fun _ => three HBL.out _ _ _⟩
          · intro d a W hI hd hdep
            obtain ⟨x5, x6, x43, x44, x45, x46, rfl, hF⟩ := hI
            have hd3 : d 3 = true := dep_of hdep 3 (by kernel_rfl)
            obtain rfl := hF.out.f3 hd3
            clear hdep hd hd3
            intro K hK
            simp only [Act.put, List.setIfInBounds_toArray, List.set_cons_zero, List.set_cons_succ]
            go_simp
            refine hK.out _ _ ⟨(.slice va tm.length vc), x6, x43, x44, x45, (.slice va tm.length vc), by simp only [Act.put, List.setIfInBounds_toArray, List.set_cons_zero, List.set_cons_succ], ?_⟩
            exact ⟨fun h => hF.out.f0 (by simpa using h), fun h => hF.out.f1 (by simpa using h), fun h => hF.out.f2 (by simpa using h), fun h => hF.out.f3 (by simpa using h), fun h => hF.out.f4 (by simpa using h), fun _ => rfl, fun h => hF.out.f6 (by simpa using h), hF.out.bel, hF.out.rd, fun h => hF.out.bl (by simpa using h), fun h => hF.out.fin (by simpa using h)⟩
          · intro d a W hI hd hdep
            obtain ⟨x5, x6, x43, x44, x45, x46, rfl, hF⟩ := hI
            clear hdep hd
            intro K hK
            simp only [Act.put, List.setIfInBounds_toArray, List.set_cons_zero, List.set_cons_succ]
            go_simp
            refine hK.out _ _ ⟨x5, (.int .i64 0), x43, x44, x45, x46, by simp only [Act.put, List.setIfInBounds_toArray, List.set_cons_zero, List.set_cons_succ], ?_⟩
            exact ⟨fun h => hF.out.f0 (by simpa using h), fun h => hF.out.f1 (by simpa using h), fun h => hF.out.f2 (by simpa using h), fun h => hF.out.f3 (by simpa using h), fun h => hF.out.f4 (by simpa using h), fun h => hF.out.f5 (by simpa using h), fun _ => rfl, hF.out.bel, hF.out.rd, fun h => hF.out.bl (by simpa using h), fun h => hF.out.fin (by simpa using h)⟩
        · intro d a W hI hall
          obtain ⟨x5, x6, x43, x44, x45, x46, rfl, hF⟩ := hI
          simp only [List.length_cons, List.length_nil] at hall
          obtain rfl := hF.out.f0 (hall 0 (by omega))
          obtain rfl := hF.out.f1 (hall 1 (by omega))
          obtain rfl := hF.out.f2 (hall 2 (by omega))
          obtain rfl := hF.out.f3 (hall 3 (by omega))
          obtain rfl := hF.out.f5 (hall 5 (by omega))
          obtain rfl := hF.out.f6 (hall 6 (by omega))
          have hfn := hF.out.fin (hall 4 (by omega))
          have HEN : Hid (HAns an w (.returned (.tuple #[(.agg #[.int .i64 (ia : Int), .string bf, .int .i64 15]), (.slice va tm.length vc), .int .i64 er])) er W) := ⟨ia, bf, _, tm, 15, rfl, HAN.out, own_less hF.out.rd.own HBW.out, hF.out.bel⟩
          have HERR : Hid (er = 0) := HEE.out
          have y0 := block_cell hfn 0
          have y1 := block_cell hfn 1
          have y2 := block_cell hfn 2
          simp only [List.getElem?_toArray, List.getElem?_cons_zero, List.getElem?_cons_succ] at y0 y1 y2
          clear hF hall hfn
          simp only [Act.put, List.setIfInBounds_toArray, List.set_cons_zero, List.set_cons_succ]
          go_wp2_with fail
          rw [HERR.out] at HEN ⊢
          exact bodyPost_ret (v := .tuple #[(.agg #[.int .i64 (ia : Int), .string bf, .int .i64 15]), (.slice va tm.length vc), .int .i64 (0)]) (by simp [results, Try.results6, go_sem, y0, y1, y2]) rfl HEN.out
      · -- none begins
        have HAN : Hid (an = (ia, bf.data.toList, tm, 9)) := by
          show _ = _
          rw [HBN.out]
          rw [← HEA.out, h1, HIA.out.1, HIA.out.2]
          rfl
        have HEE : Hid (er = 9) := by show _ = _; rw [← HER.out, h1]; rfl
        have HFR : Hid (Below w.heap.size w wr ∧ Rd O nv tv (g + 1) g ia bf 9 (.slice va tm.length vc) tm wr ∧ wr.heap[w.heap.size + 2]? = some (.cells #[.int .i64 0, .string ⟨#[]⟩, .int .i64 0] 29 (0, 0))) := ⟨HFZ.out.1, HRD.out, HFZ.out.2.1⟩
        clear h1
        go_wp2_with fail
        refine wp_region_free mixed (fun a0 d a W => ∃ (x5 x6 x34 x35 x36 x37 x38 x39 x40 : Value), a = (((((((((a0.put (some 5) x5).put (some 6) x6).put (some 34) x34).put (some 35) x35).put (some 36) x36).put (some 37) x37).put (some 38) x38).put (some 39) x39).put (some 40) x40) ∧ Hid (RE8 w O nv tv (g + 1) g (w.heap.size + 2) ia bf 9 va vc tm d x5 x6 x34 x35 x36 x37 x38 x39 x40 W)) (by kernel_rfl) ⟨(.slice none 0 0), (.int .i64 0), undef, undef, undef, undef, undef, undef, undef, by simp only [Act.put, List.setIfInBounds_toArray, List.set_cons_zero, List.set_cons_succ], ?_⟩ ?_ ?_
        · exact ⟨fun h => no_way h, fun h => no_way h, fun h => no_way h, fun h => no_way h, fun h => no_way h, fun h => no_way h, fun h => no_way h, fun _ => trivial, fun h => no_way h, fun h => no_way h, HFR.out.1.drew, HFR.out.2.1.drew, fun _ => HFR.out.2.2, fun h => no_way h⟩
        · simp only [StepAll, and_true]
          refine ⟨?_, ?_, ?_, ?_, ?_, ?_, ?_, ?_, ?_, ?_⟩
          · intro d a W hI hd hdep
            obtain ⟨x5, x6, x34, x35, x36, x37, x38, x39, x40, rfl, hF⟩ := hI
            clear hdep hd
            intro K hK
            simp only [Act.put, List.setIfInBounds_toArray, List.set_cons_zero, List.set_cons_succ]
            go_simp
            refine hK.out _ _ ⟨x5, x6, (.pointer (some ⟨g, 258, none⟩)), x35, x36, x37, x38, x39, x40, by simp only [Act.put, List.setIfInBounds_toArray, List.set_cons_zero, List.set_cons_succ], ?_⟩
            exact ⟨fun _ => rfl, fun h => hF.out.f1 (by simpa using h), fun h => hF.out.f2 (by simpa using h), fun h => hF.out.f3 (by simpa using h), fun h => hF.out.f4 (by simpa using h), fun h => hF.out.f5 (by simpa using h), fun h => hF.out.f6 (by simpa using h), fun h => hF.out.f7 (by simpa using h), fun h => hF.out.f8 (by simpa using h), fun h => hF.out.f9 (by simpa using h), hF.out.bel, hF.out.rd, fun h => hF.out.bl (by simpa using h), fun h => hF.out.fin (by simpa using h)⟩
          · intro d a W hI hd hdep
            obtain ⟨x5, x6, x34, x35, x36, x37, x38, x39, x40, rfl, hF⟩ := hI
            have hd0 : d 0 = true := dep_of hdep 0 (by kernel_rfl)
            obtain rfl := hF.out.f0 hd0
            have ya := hF.out.rd.c258
            have yb := hF.out.rd.c259
            have yc := hF.out.rd.c260
            clear hdep hd hd0
            intro K hK
            simp only [Act.put, List.setIfInBounds_toArray, List.set_cons_zero, List.set_cons_succ]
            go_simp
            refine hK.out _ _ ⟨x5, x6, (.pointer (some ⟨g, 258, none⟩)), (.agg #[.int .i64 (ia : Int), .string bf, .int .i64 9]), x36, x37, x38, x39, x40, by simp only [Act.put, List.setIfInBounds_toArray, List.set_cons_zero, List.set_cons_succ], ?_⟩
            exact ⟨fun h => hF.out.f0 (by simpa using h), fun _ => rfl, fun h => hF.out.f2 (by simpa using h), fun h => hF.out.f3 (by simpa using h), fun h => hF.out.f4 (by simpa using h), fun h => hF.out.f5 (by simpa using h), fun h => hF.out.f6 (by simpa using h), fun h => hF.out.f7 (by simpa using h), fun h => hF.out.f8 (by simpa using h), fun h => hF.out.f9 (by simpa using h), hF.out.bel, hF.out.rd, fun h => hF.out.bl (by simpa using h), fun h => hF.out.fin (by simpa using h)⟩
          · intro d a W hI hd hdep
            obtain ⟨x5, x6, x34, x35, x36, x37, x38, x39, x40, rfl, hF⟩ := hI
            clear hdep hd
            intro K hK
            simp only [Act.put, List.setIfInBounds_toArray, List.set_cons_zero, List.set_cons_succ]
            go_simp
            refine hK.out _ _ ⟨x5, x6, x34, x35, (.pointer (some ⟨g, 261, none⟩)), x37, x38, x39, x40, by simp only [Act.put, List.setIfInBounds_toArray, List.set_cons_zero, List.set_cons_succ], ?_⟩
            exact ⟨fun h => hF.out.f0 (by simpa using h), fun h => hF.out.f1 (by simpa using h), fun _ => rfl, fun h => hF.out.f3 (by simpa using h), fun h => hF.out.f4 (by simpa using h), fun h => hF.out.f5 (by simpa using h), fun h => hF.out.f6 (by simpa using h), fun h => hF.out.f7 (by simpa using h), fun h => hF.out.f8 (by simpa using h), fun h => hF.out.f9 (by simpa using h), hF.out.bel, hF.out.rd, fun h => hF.out.bl (by simpa using h), fun h => hF.out.fin (by simpa using h)⟩
          · intro d a W hI hd hdep
            obtain ⟨x5, x6, x34, x35, x36, x37, x38, x39, x40, rfl, hF⟩ := hI
            have hd2 : d 2 = true := dep_of hdep 2 (by kernel_rfl)
            obtain rfl := hF.out.f2 hd2
            have ya := hF.out.rd.c261
            clear hdep hd hd2
            intro K hK
            simp only [Act.put, List.setIfInBounds_toArray, List.set_cons_zero, List.set_cons_succ]
            go_simp
            refine hK.out _ _ ⟨x5, x6, x34, x35, (.pointer (some ⟨g, 261, none⟩)), (.slice va tm.length vc), x38, x39, x40, by simp only [Act.put, List.setIfInBounds_toArray, List.set_cons_zero, List.set_cons_succ], ?_⟩
            exact ⟨fun h => hF.out.f0 (by simpa using h), fun h => hF.out.f1 (by simpa using h), fun h => hF.out.f2 (by simpa using h), fun _ => rfl, fun h => hF.out.f4 (by simpa using h), fun h => hF.out.f5 (by simpa using h), fun h => hF.out.f6 (by simpa using h), fun h => hF.out.f7 (by simpa using h), fun h => hF.out.f8 (by simpa using h), fun h => hF.out.f9 (by simpa using h), hF.out.bel, hF.out.rd, fun h => hF.out.bl (by simpa using h), fun h => hF.out.fin (by simpa using h)⟩
          · intro d a W hI hd hdep
            obtain ⟨x5, x6, x34, x35, x36, x37, x38, x39, x40, rfl, hF⟩ := hI
            clear hdep hd
            intro K hK
            simp only [Act.put, List.setIfInBounds_toArray, List.set_cons_zero, List.set_cons_succ]
            go_simp
            refine hK.out _ _ ⟨x5, x6, x34, x35, x36, x37, (.pointer (some ⟨g, 258, none⟩)), x39, x40, by simp only [Act.put, List.setIfInBounds_toArray, List.set_cons_zero, List.set_cons_succ], ?_⟩
            exact ⟨fun h => hF.out.f0 (by simpa using h), fun h => hF.out.f1 (by simpa using h), fun h => hF.out.f2 (by simpa using h), fun h => hF.out.f3 (by simpa using h), fun _ => rfl, fun h => hF.out.f5 (by simpa using h), fun h => hF.out.f6 (by simpa using h), fun h => hF.out.f7 (by simpa using h), fun h => hF.out.f8 (by simpa using h), fun h => hF.out.f9 (by simpa using h), hF.out.bel, hF.out.rd, fun h => hF.out.bl (by simpa using h), fun h => hF.out.fin (by simpa using h)⟩
          · intro d a W hI hd hdep
            obtain ⟨x5, x6, x34, x35, x36, x37, x38, x39, x40, rfl, hF⟩ := hI
            have hd4 : d 4 = true := dep_of hdep 4 (by kernel_rfl)
            obtain rfl := hF.out.f4 hd4
            clear hdep hd hd4
            intro K hK
            simp only [Act.put, List.setIfInBounds_toArray, List.set_cons_zero, List.set_cons_succ]
            go_simp
            refine hK.out _ _ ⟨x5, x6, x34, x35, x36, x37, (.pointer (some ⟨g, 258, none⟩)), (.pointer (some ⟨g, 260, none⟩)), x40, by simp only [Act.put, List.setIfInBounds_toArray, List.set_cons_zero, List.set_cons_succ], ?_⟩
            exact ⟨fun h => hF.out.f0 (by simpa using h), fun h => hF.out.f1 (by simpa using h), fun h => hF.out.f2 (by simpa using h), fun h => hF.out.f3 (by simpa using h), fun h => hF.out.f4 (by simpa using h), fun _ => rfl, fun h => hF.out.f6 (by simpa using h), fun h => hF.out.f7 (by simpa using h), fun h => hF.out.f8 (by simpa using h), fun h => hF.out.f9 (by simpa using h), hF.out.bel, hF.out.rd, fun h => hF.out.bl (by simpa using h), fun h => hF.out.fin (by simpa using h)⟩
          · intro d a W hI hd hdep
            obtain ⟨x5, x6, x34, x35, x36, x37, x38, x39, x40, rfl, hF⟩ := hI
            have hd5 : d 5 = true := dep_of hdep 5 (by kernel_rfl)
            obtain rfl := hF.out.f5 hd5
            have ya := hF.out.rd.c260
            clear hdep hd hd5
            intro K hK
            simp only [Act.put, List.setIfInBounds_toArray, List.set_cons_zero, List.set_cons_succ]
            go_simp
            refine hK.out _ _ ⟨x5, x6, x34, x35, x36, x37, x38, (.pointer (some ⟨g, 260, none⟩)), (.int .i64 9), by simp only [Act.put, List.setIfInBounds_toArray, List.set_cons_zero, List.set_cons_succ], ?_⟩
            exact ⟨fun h => hF.out.f0 (by simpa using h), fun h => hF.out.f1 (by simpa using h), fun h => hF.out.f2 (by simpa using h), fun h => hF.out.f3 (by simpa using h), fun h => hF.out.f4 (by simpa using h), fun h => hF.out.f5 (by simpa using h), fun _ => rfl, fun h => hF.out.f7 (by simpa using h), fun h => hF.out.f8 (by simpa using h), fun h => hF.out.f9 (by simpa using h), hF.out.bel, hF.out.rd, fun h => hF.out.bl (by simpa using h), fun h => hF.out.fin (by simpa using h)⟩
          · intro d a W hI hd hdep
            obtain ⟨x5, x6, x34, x35, x36, x37, x38, x39, x40, rfl, hF⟩ := hI
            have hd1 : d 1 = true := dep_of hdep 1 (by kernel_rfl)
            obtain rfl := hF.out.f1 hd1
            have hbl := hF.out.bl hd
            have x0 := block_cell hbl 0
            have x1 := block_cell hbl 1
            have x2 := block_cell hbl 2
            have f0 := block_free hbl 0
            have f1 := block_free hbl 1
            have f2 := block_free hbl 2
            simp only [List.getElem?_toArray, List.getElem?_cons_zero, List.getElem?_cons_succ] at x0 x1 x2
            have HBL : Hid (W.heap[w.heap.size + 2]? = some (.cells #[.int .i64 0, .string ⟨#[]⟩, .int .i64 0] 29 (0, 0))) := hbl
            clear hbl
            clear hdep hd hd1
            intro K hK
            simp only [Act.put, List.setIfInBounds_toArray, List.set_cons_zero, List.set_cons_succ]
            go_simp
            refine hK.out _ _ ⟨x5, x6, x34, (.agg #[.int .i64 (ia : Int), .string bf, .int .i64 9]), x36, x37, x38, x39, x40, by simp only [Act.put, List.setIfInBounds_toArray, List.set_cons_zero, List.set_cons_succ], ?_⟩
            have hsame := same_three W (w.heap.size + 2) (.int .i64 (ia : Int)) (.string bf) (.int .i64 9)
            exact ⟨fun h => hF.out.f0 (by simpa using h), fun h => hF.out.f1 (by simpa using h), fun h => hF.out.f2 (by simpa using h), fun h => hF.out.f3 (by simpa using h), fun h => hF.out.f4 (by simpa using h), fun h => hF.out.f5 (by simpa using h), fun h => hF.out.f6 (by simpa using h), fun _ => trivial, fun h => hF.out.f8 (by simpa using h), fun h => hF.out.f9 (by simpa using h), ((hF.out.bel.setCell (by simp <;> omega) _).setCell (by simp <;> omega) _).setCell (by simp <;> omega) _, ⟨hF.out.rd.row.of_block (hsame.2.2.2.2 g (by have := HGG.out; omega)), own_same hF.out.rd.own fun k hk => hsame.2.2.2.2 k (by have := (hF.out.rd.own.lt k hk).1; have := HGG.out; omega), hF.out.rd.lt, by rw [hsame.1]; exact hF.out.rd.sz⟩, fun h => by simp at h, fun _ => three HBL.out _ _ _⟩
          · intro d a W hI hd hdep
            obtain ⟨x5, x6, x34, x35, x36, x37, x38, x39, x40, rfl, hF⟩ := hI
            have hd3 : d 3 = true := dep_of hdep 3 (by kernel_rfl)
            obtain rfl := hF.out.f3 hd3
            clear hdep hd hd3
            intro K hK
            simp only [Act.put, List.setIfInBounds_toArray, List.set_cons_zero, List.set_cons_succ]
            go_simp
            refine hK.out _ _ ⟨(.slice va tm.length vc), x6, x34, x35, x36, (.slice va tm.length vc), x38, x39, x40, by simp only [Act.put, List.setIfInBounds_toArray, List.set_cons_zero, List.set_cons_succ], ?_⟩
            exact ⟨fun h => hF.out.f0 (by simpa using h), fun h => hF.out.f1 (by simpa using h), fun h => hF.out.f2 (by simpa using h), fun h => hF.out.f3 (by simpa using h), fun h => hF.out.f4 (by simpa using h), fun h => hF.out.f5 (by simpa using h), fun h => hF.out.f6 (by simpa using h), fun h => hF.out.f7 (by simpa using h), fun _ => rfl, fun h => hF.out.f9 (by simpa using h), hF.out.bel, hF.out.rd, fun h => hF.out.bl (by simpa using h), fun h => hF.out.fin (by simpa using h)⟩
          · intro d a W hI hd hdep
            obtain ⟨x5, x6, x34, x35, x36, x37, x38, x39, x40, rfl, hF⟩ := hI
            have hd6 : d 6 = true := dep_of hdep 6 (by kernel_rfl)
            obtain rfl := hF.out.f6 hd6
            clear hdep hd hd6
            intro K hK
            simp only [Act.put, List.setIfInBounds_toArray, List.set_cons_zero, List.set_cons_succ]
            go_simp
            refine hK.out _ _ ⟨x5, (.int .i64 9), x34, x35, x36, x37, x38, x39, (.int .i64 9), by simp only [Act.put, List.setIfInBounds_toArray, List.set_cons_zero, List.set_cons_succ], ?_⟩
            exact ⟨fun h => hF.out.f0 (by simpa using h), fun h => hF.out.f1 (by simpa using h), fun h => hF.out.f2 (by simpa using h), fun h => hF.out.f3 (by simpa using h), fun h => hF.out.f4 (by simpa using h), fun h => hF.out.f5 (by simpa using h), fun h => hF.out.f6 (by simpa using h), fun h => hF.out.f7 (by simpa using h), fun h => hF.out.f8 (by simpa using h), fun _ => rfl, hF.out.bel, hF.out.rd, fun h => hF.out.bl (by simpa using h), fun h => hF.out.fin (by simpa using h)⟩
        · intro d a W hI hall
          obtain ⟨x5, x6, x34, x35, x36, x37, x38, x39, x40, rfl, hF⟩ := hI
          simp only [List.length_cons, List.length_nil] at hall
          obtain rfl := hF.out.f0 (hall 0 (by omega))
          obtain rfl := hF.out.f1 (hall 1 (by omega))
          obtain rfl := hF.out.f2 (hall 2 (by omega))
          obtain rfl := hF.out.f3 (hall 3 (by omega))
          obtain rfl := hF.out.f4 (hall 4 (by omega))
          obtain rfl := hF.out.f5 (hall 5 (by omega))
          obtain rfl := hF.out.f6 (hall 6 (by omega))
          obtain rfl := hF.out.f8 (hall 8 (by omega))
          obtain rfl := hF.out.f9 (hall 9 (by omega))
          have hfn := hF.out.fin (hall 7 (by omega))
          have HEN : Hid (HAns an w (.returned (.tuple #[(.agg #[.int .i64 (ia : Int), .string bf, .int .i64 9]), (.slice va tm.length vc), .int .i64 er])) er W) := ⟨ia, bf, _, tm, 9, rfl, HAN.out, own_less hF.out.rd.own HBW.out, hF.out.bel⟩
          have HERR : Hid (er = 9) := HEE.out
          have y0 := block_cell hfn 0
          have y1 := block_cell hfn 1
          have y2 := block_cell hfn 2
          simp only [List.getElem?_toArray, List.getElem?_cons_zero, List.getElem?_cons_succ] at y0 y1 y2
          clear hF hall hfn
          simp only [Act.put, List.setIfInBounds_toArray, List.set_cons_zero, List.set_cons_succ]
          go_wp2_with fail
          rw [HERR.out] at HEN ⊢
          exact bodyPost_ret (v := .tuple #[(.agg #[.int .i64 (ia : Int), .string bf, .int .i64 9]), (.slice va tm.length vc), .int .i64 (9)]) (by simp [results, Try.results6, go_sem, y0, y1, y2]) rfl HEN.out
    · rcases hor with ⟨rfl, h1, h2⟩ | ⟨-, rfl, -⟩
      rotate_left
      · exact absurd rfl hse
      have hem : bf.toList.isEmpty = false := isEmpty_no hse
      have hlk := lookAt_any O nv tv n L X T bf wr HOO.out (HNX.out.below HFZ.out.1 (Nat.le_refl _)) (HTT.out.below HFZ.out.1 (Nat.le_refl _)) HCP.out (by omega)
      rw [HR.out, HLL.out] at hlk
      have hkl : k < b0.data.toList.length := by
        have := congrArg List.length h1
        rw [List.length_drop, data_size] at this
        omega
      have HBD : Hid ((lng R T bf.data.toList).2 = 0 → al = (ts, some k)) := fun h => by rw [← HAL.out]; exact h2.bad hkl (by rw [← h1]; exact h)
      have HNT : Hid (¬ (lng R T bf.data.toList).2 = 0 → Tk R T b0.data.toList (ts ++ [((lng R T bf.data.toList).1, k, k + (lng R T bf.data.toList).2)]) (k + (lng R T bf.data.toList).2)) := fun h => by
        have := h2.next hkl (by rw [← h1]; exact h)
        rwa [← h1] at this
      have HDR : Hid (bf.data.toList = b0.data.toList.drop k) := h1
      have HZL : Hid ((lng R T bf.data.toList).2 ≤ bf.size) := by have := lng_le R T bf.data.toList; rw [data_size] at this; exact this
      have HSM : Hid (k + bf.size = b0.size) := by
        show _ = _
        have := congrArg List.length h1
        rw [List.length_drop, data_size, data_size] at this
        rw [data_size] at hkl
        omega
      obtain ⟨z, HZ⟩ : ∃ q, Hid ((lng R T bf.data.toList).2 = q) := ⟨_, (rfl : _ = _)⟩
      obtain ⟨r, HR0⟩ : ∃ q, Hid ((lng R T bf.data.toList).1 = q) := ⟨_, (rfl : _ = _)⟩
      obtain ⟨ce, HCE⟩ : ∃ q, Hid (stk R L X bf.data.toList = q) := ⟨_, (rfl : _ = _)⟩
      rw [HZ.out] at hlk HBD HNT HZL
      rw [HR0.out] at hlk HNT
      rw [HCE.out] at hlk
      have HRG3 : Hid (wr.rangeAt w.heap.size 0 l) := HFZ.out.2.2
      clear h1 h2
      go_wp2_with (refine wpList_load_mid rfl 26 _ rfl w.heap.size 0 rfl l _ HRG3.out Try.underlying26 rfl HSI.out ?_)
      refine hlk.mono ?_
      rintro _ w6 ⟨rfl, hbb⟩
      have HR6 : Hid (Rd O nv tv (g + 1) g ia bf 0 (.slice va tm.length vc) tm w6) := HRD.out.next hbb
      have HM6 : Hid (Mk (g + 1) g wA w6) := HMK.out.next hbb HRD.out.sz
      clear hlk hbb
      by_cases hz0 : z = 0
      · subst hz0
        have htb := tell_bad O nv tv (g + 1) g ia r ce bf 0 (.slice va tm.length vc) tm w6 HR6.out
        go_wp2_with fail
        refine htb.mono ?_
        rintro _ w7 ⟨rfl, q1, q2⟩
        have HR7 : Hid (Rd O nv tv (g + 1) g ia ⟨#[]⟩ 9 (.slice va tm.length vc) tm w7 ∧ Mk (g + 1) g wA w7) := ⟨q1, HM6.out.trans q2⟩
        clear htb q1 q2
        go_wp2_with fail
        have z9 := HR7.out.1.c259
        go_roundw
        case rel => exact ⟨k, ia, ⟨#[]⟩, _, ts, tm, 9, HIA.out.1, HIA.out.2, HR7.out.1, HR7.out.2, Or.inr ⟨rfl, rfl, HBD.out (by trivial)⟩, hq1, hq2, by show 0 ≤ 64; omega⟩
        case measure => rw [bufOf_at z9, bufOf_at HC9.out]; show 0 < bf.size; omega
      · have hzp : 0 < z := by omega
        have hto := tell_ok O nv tv (g + 1) g ia z r ce bf 0 (.slice va tm.length vc) tm w6 HR6.out hzp HZL.out (by have := HZL.out; omega) (by omega)
        go_wp2_with fail
        refine hto.mono ?_
        rintro _ w7 ⟨rfl, v7, q1, q2⟩
        have HR7 : Hid (Rd O nv tv (g + 1) g (ia + z) (bf.extract z bf.size) 0 v7 (tm ++ [(r, ia, ia + z)]) w7 ∧ Mk (g + 1) g wA w7) := ⟨q1, HM6.out.trans q2⟩
        have hl3 : (bf.extract z bf.size).size = bf.size - z := by simp
        clear hto q1 q2
        go_wp2_with fail
        have z9 := HR7.out.1.c259
        go_roundw
        case rel =>
          refine ⟨k + z, ia + z, bf.extract z bf.size, v7, ts ++ [(r, k, k + z)], tm ++ [(r, ia, ia + z)], 0, by rw [HIA.out.1]; omega, ?_, HR7.out.1, HR7.out.2, Or.inl ⟨rfl, ?_, HNT.out hz0⟩, by have := HZL.out; have := HSM.out; omega, by rw [List.length_append]; simp; omega, by rw [hl3]; omega⟩
          · rw [List.map_append, HIA.out.2, HIA.out.1]; simp [sh, Nat.add_assoc]
          · rw [tail_list, HDR.out, List.drop_drop]
        case measure => rw [bufOf_at z9, bufOf_at HC9.out, hl3]; omega
end Go.Proofs.Ytcdnbkfjiigdmaa
