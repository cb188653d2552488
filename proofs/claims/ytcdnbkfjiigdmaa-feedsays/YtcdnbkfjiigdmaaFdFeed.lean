/-
  The contract of feed.Feed.
-/
import Derived.Test.YtcdnbkfjiigdmaaFdCheck
import Derived.Laws.DeepStrings4
namespace Go.Proofs.Ytcdnbkfjiigdmaa
open Go.RowKit
open Dfa

theorem fold42 (l : List Value) (hl : l.length = 258) (x y z : Value) : (((List.foldl (fun (cs : Array Value) (q : Value × Nat) => cs.setIfInBounds q.2 q.1) z42.toArray l.zipIdx).setIfInBounds 258 x).setIfInBounds 259 y).setIfInBounds 260 z = (rdl l x y z (.slice none 0 0)).toArray := by
  obtain ⟨g1, g2⟩ := Great.foldl_set 0 l 0 z42.toArray
  simp only [Nat.zero_add, Nat.add_zero, Nat.sub_zero, List.size_toArray, z42_length, hl] at g1 g2
  refine Array.ext_getElem? fun k => ?_
  rw [Array.getElem?_setIfInBounds, Array.getElem?_setIfInBounds, Array.getElem?_setIfInBounds]
  simp only [Array.size_setIfInBounds, g1, g2, List.getElem?_toArray]
  by_cases ha : k < 258
  · rw [if_neg (by omega), if_neg (by omega), if_neg (by omega), if_pos (by omega)]
    unfold rdl
    rw [List.getElem?_append_left (by omega)]
  · by_cases hb : k < 261
    · unfold rdl
      rw [List.getElem?_append_right (by omega), hl]
      have : k = 258 ∨ k = 259 ∨ k = 260 := by omega
      rcases this with rfl | rfl | rfl <;> simp
    · rw [if_neg (by omega), if_neg (by omega), if_neg (by omega), if_neg (by omega)]
      by_cases hc : k = 261
      · subst hc
        have a1 : z42[261]? = some (.slice none 0 0) := by unfold z42 rdl; rw [List.getElem?_append_right (by rw [pl_length]; omega), pl_length]; rfl
        have a2 : (rdl l x y z (.slice none 0 0))[261]? = some (.slice none 0 0) := by unfold rdl; rw [List.getElem?_append_right (by omega), hl]; rfl
        rw [a1, a2]
      · rw [List.getElem?_eq_none (by rw [z42_length]; omega), List.getElem?_eq_none (by rw [rdl_length _ _ _ _ _ hl]; omega)]
theorem fold42_size (l : List Value) : (List.foldl (fun (cs : Array Value) (q : Value × Nat) => cs.setIfInBounds q.2 q.1) z42.toArray l.zipIdx).size = 262 := by
  have := (Great.foldl_set 0 l 0 z42.toArray).1
  simp only [Nat.zero_add, List.size_toArray, z42_length] at this
  exact this
theorem wpList_store_new42 {ops : Array Oper} {rest : List Oper} {op : Oper} {a : Act} {w : World} {Q : Exit → Act → World → Prop} (hgd : op.guard = none) (x y : Operand) (ho : op.op = .store 42 x y)
    (c c' : Array Value) (hx : a.eval x = .pointer (some ⟨w.heap.size, 0, none⟩)) (hy : a.eval y = .agg c') (hc : c.size = 262) (hc' : c'.size = 262) (h1 : c'.all (·.oneCell') = true)
    (h : wpList Try.prog ops Q rest (a.put op.dst undef) (w.alloc (.cells c' 42))) : wpList Try.prog ops Q (op :: rest) a (w.alloc (.cells c 42)) :=
  wpList_plain hgd fun K hK => by
    unfold Oper.wp execOp
    simp only [ho, hx, hy, Sem.run_bind, run_storeAt_new w 42 c c' (by rw [hc']; exact size42) (by omega) h1, Result.andThen_ok]
    exact hK _ _ h
theorem zero42 : ∃ zs : Array Value, (∀ w, (zeroValue 42).run Try.prog w = .ok (.agg zs) w) ∧ zs.size = 262 ∧ zs = z42.toArray := ⟨z42.toArray, (zero_of_info (P := Try.prog) (t := 42) (v := .agg z42.toArray) (n := 262) (by kernel_rfl)).1, by rw [List.size_toArray, z42_length], rfl⟩
theorem cat_one (b s : ByteArray) (k : Nat) (h : k < s.size) : (b ++ s.extract k (k + 1)).data.toList = b.data.toList ++ [s[k]] := by
  rw [ByteArray.data_append, Array.toList_append, ByteArray.data_extract, Array.toList_extract, List.extract_eq_take_drop, drop_cons s k h]
  simp
theorem slice_one (s : ByteArray) (k : Nat) (h : k < s.size) (w : World) : (Instr.slice 9 (.string s) (some (.int .i64 (k : Int))) (some (.int .i64 ((k : Int) + 1))) none).run Try.prog w = .ok (.string (s.extract k (k + 1))) w := by
  rw [run_slice_string_if w 9 s .i64 .i64 _ _ Try.underlying9, if_pos (by omega), if_pos (by omega)]
  rfl
/-- What is answered: what is held, the tokens, an error. -/
def HAns (an : Nat × List UInt8 × List (Int × Nat × Nat) × Int) (w : World) (e : Ending) (er : Int) (w' : World) : Prop := ∃ (ia : Nat) (bf : ByteArray) (v : Value) (ts : List (Int × Nat × Nat)) (o : Int), e = .returned (.tuple #[.agg #[.int .i64 (ia : Int), .string bf, .int .i64 o], v, .int .i64 er]) ∧ an = (ia, bf.data.toList, ts, o) ∧ w'.ownsRow w.heap.size 37 3 v ts.length (tcs ts) ∧ Below w.heap.size w w'
theorem rdl_one (l : List Value) (h : l.toArray.all (·.oneCell') = true) (x : Int) (y : ByteArray) (z : Int) : (rdl l (.int .i64 x) (.string y) (.int .i64 z) (.slice none 0 0)).toArray.all (·.oneCell') = true := by
  simp only [rdl, List.all_toArray, List.all_append] at h ⊢
  rw [h]; rfl
theorem pl_ones {w : World} {O : Nat → Nat} {nv tv : Value} {n m : Nat} {L : Nat → Nat} {X : Nat → Nat → Int} {T : Nat → Int} (hx : Nx w nv n L X) (ht : Ts w tv m T) : (pl O nv tv).toArray.all (·.oneCell') = true := by
  obtain ⟨_, _, e1, _⟩ := hx
  obtain ⟨_, _, e2, _⟩ := ht
  rw [e1, e2]
  exact all_oneCell_toArray fun v hv => by
    simp only [pl, ol, List.mem_append, List.mem_map, List.mem_cons, List.not_mem_nil, or_false] at hv
    rcases hv with ⟨j, _, rfl⟩ | rfl | rfl <;> rfl
structure RG10 (w1 : World) (O : Nat → Nat) (nv tv : Value) (B g ia k : Nat) (bf s : ByteArray) (o : Int) (v : Value) (ts : List (Int × Nat × Nat)) (d : Nat → Bool) (x42 x43 x44 x45 x46 x47 x48 x49 x50 x51 x52 : Value) (W : World) : Prop where
  f0 : d 0 = true → x42 = (.pointer (some ⟨g, 258, none⟩))
  f1 : d 1 = true → x43 = (.pointer (some ⟨g, 259, none⟩))
  f2 : d 2 = true → x44 = (.string bf)
  f3 : d 3 = true → x45 = (.string s)
  f4 : d 4 = true → x46 = (.int .i64 (k : Int))
  f5 : d 5 = true → x47 = (.int .i64 (k : Int))
  f6 : d 6 = true → x48 = (.int .i64 ((k : Int) + 1))
  f7 : d 7 = true → x49 = (.string (s.extract k (k + 1)))
  f8 : d 8 = true → x50 = (.string (bf ++ s.extract k (k + 1)))
  f9 : d 9 = true → x51 = (.pointer (some ⟨g, 258, none⟩))
  f10 : d 10 = true → x52 = (.pointer (some ⟨g, 259, none⟩))
  f11 : d 11 = true → True
  o8_2 : d 8 = true → d 2 = true
  q11_8 : d 11 = true → d 8 = true
  kk : Mk B g w1 W
  rd : d 11 = false → Rd O nv tv B g ia bf o v ts W
  fin : d 11 = true → Rd O nv tv B g ia (bf ++ s.extract k (k + 1)) o v ts W

structure RG12 (w : World) (O : Nat → Nat) (nv tv : Value) (B g b2 ia : Nat) (bf : ByteArray) (o : Int) (va : Option Addr) (vc : Nat) (ts : List (Int × Nat × Nat)) (d : Nat → Bool) (x7 x8 x54 x55 x56 x57 x58 x59 x60 x61 : Value) (W : World) : Prop where
  f0 : d 0 = true → x54 = (.pointer (some ⟨g, 258, none⟩))
  f1 : d 1 = true → x55 = (.agg #[.int .i64 (ia : Int), .string bf, .int .i64 o])
  f2 : d 2 = true → x56 = (.agg #[.int .i64 (ia : Int), .string bf, .int .i64 o])
  f3 : d 3 = true → x57 = (.pointer (some ⟨g, 261, none⟩))
  f4 : d 4 = true → x58 = (.slice va ts.length vc)
  f5 : d 5 = true → x59 = (.pointer (some ⟨g, 258, none⟩))
  f6 : d 6 = true → x60 = (.pointer (some ⟨g, 260, none⟩))
  f7 : d 7 = true → x61 = (.int .i64 o)
  f8 : d 8 = true → True
  f9 : d 9 = true → x7 = (.slice va ts.length vc)
  f10 : d 10 = true → x8 = (.int .i64 o)
  q8_2 : d 8 = true → d 2 = true
  bel : Below w.heap.size w W
  rd : Rd O nv tv B g ia bf o (.slice va ts.length vc) ts W
  bl : d 8 = false → W.heap[b2]? = some (.cells #[.int .i64 0, .string ⟨#[]⟩, .int .i64 0] 29 (0, 0))
  fin : d 8 = true → W.heap[b2]? = some (.cells #[.int .i64 (ia : Int), .string bf, .int .i64 o] 29 (0, 0))

set_option maxHeartbeats 8000000 in
set_option maxRecDepth 20000 in
theorem feed_ok (O : Nat → Nat) (nv tv : Value) (n : Nat) (L : Nat → Nat) (X : Nat → Nat → Int) (T : Nat → Int) (a0 : Nat) (b0 s : ByteArray) (w : World) (hO : ∀ j, O j < 256) (hx : Nx w nv n L X) (ht : Ts w tv n T) (hok : chkP n n O L X T = 0) (ha : a0 ≤ 1099511627776) (hb : b0.size ≤ 64) (hs : s.size ≤ 2000) :
    Calls Try.prog 5 #[.agg (pl O nv tv).toArray, .agg #[.int .i64 (a0 : Int), .string b0, .int .i64 0], .string s] w fun e w' => HAns (fd (RR n O X) T L X s.data.toList a0 b0.data.toList []) w e (fd (RR n O X) T L X s.data.toList a0 b0.data.toList []).2.2.2 w' := by
  have hF0 := Fz.start (R := RR n O X) (T := T) (L := L) (X := X) s.data.toList a0 b0.data.toList []
  obtain ⟨an, HA⟩ : ∃ q, Hid (fd (RR n O X) T L X s.data.toList a0 b0.data.toList [] = q) := ⟨_, (rfl : _ = _)⟩
  rw [HA.out] at hF0 ⊢
  obtain ⟨er, HER⟩ : ∃ q, Hid (an.2.2.2 = q) := ⟨_, (rfl : _ = _)⟩
  rw [HER.out]
  have HOO : Hid (∀ j, O j < 256) := hO
  have HNX : Hid (Nx w nv n L X) := hx
  have HTT : Hid (Ts w tv n T) := ht
  have HCP : Hid (chkP n n O L X T = 0) := hok
  have HON : Hid ((pl O nv tv).toArray.all (·.oneCell') = true) := pl_ones hx ht
  have HLN : Hid ((pl O nv tv).length = 258) := pl_length _ _ _
  -- the boxes
  obtain ⟨l, HLL⟩ : ∃ l, Hid (pl O nv tv = l) := ⟨_, (rfl : _ = _)⟩
  rw [HLL.out] at HON HLN ⊢
  have hsl : (Try.prog.info? 26).map (·.size) = some l.length := by rw [HLN.out]; exact size26
  have HSI : Hid ((Try.prog.info? 26).map (·.size) = some l.length) := hsl
  obtain ⟨w3, HW3⟩ : ∃ q, Hid (((w.alloc (Obj.cells l.toArray 26)).alloc (Obj.cells #[.int .i64 (a0 : Int), .string b0, .int .i64 0] 29)).alloc (Obj.cells #[.int .i64 0, .string ⟨#[]⟩, .int .i64 0] 29) = q) := ⟨_, (rfl : _ = _)⟩
  have hB3 : Below w.heap.size w w3 := by rw [← HW3.out]; exact (((Below.refl _ _).alloc (Nat.le_refl _) _).alloc (by simp) _).alloc (by simp <;> omega) _
  have hg0 : w3.rangeAt w.heap.size 0 l := by
    rw [← HW3.out]
    intro j u hu
    exact Go.Lib.cell?_alloc_some _ (Go.Lib.cell?_alloc_some _ (range_block w l 26 j u hu))
  have hg1 : w3.heap[w.heap.size + 1]? = some (.cells #[.int .i64 (a0 : Int), .string b0, .int .i64 0] 29 (0, 0)) := by
    have := heap_alloc_new (w.alloc (Obj.cells l.toArray 26)) (Obj.cells #[.int .i64 (a0 : Int), .string b0, .int .i64 0] 29)
    rw [World.size_alloc] at this
    rw [← HW3.out]; exact (Below.heap_alloc _ _ _ (by simp)).trans this
  have hg2 : w3.heap[w.heap.size + 2]? = some (.cells #[.int .i64 0, .string ⟨#[]⟩, .int .i64 0] 29 (0, 0)) := by
    have := heap_alloc_new ((w.alloc (Obj.cells l.toArray 26)).alloc (Obj.cells #[.int .i64 (a0 : Int), .string b0, .int .i64 0] 29)) (Obj.cells #[.int .i64 0, .string ⟨#[]⟩, .int .i64 0] 29)
    rw [World.size_alloc, World.size_alloc] at this
    rw [← HW3.out]; exact this
  have hs3 : w3.heap.size = w.heap.size + 3 := by rw [← HW3.out]; simp
  have HQ := checkH_any O nv tv n n L X T (a0 : Int) b0 0 w3 hO (hx.below hB3 (Nat.le_refl _)) (ht.below hB3 (Nat.le_refl _))
  rw [hok, show chkH 0 (a0 : Int) b0.size 0 = 0 by unfold chkH; rw [if_neg (by omega), if_neg (by omega), if_neg (by omega)], HLL.out] at HQ
  have HG3 : Hid (w3.rangeAt w.heap.size 0 l ∧ w3.heap[w.heap.size + 1]? = some (.cells #[.int .i64 (a0 : Int), .string b0, .int .i64 0] 29 (0, 0)) ∧ w3.heap[w.heap.size + 2]? = some (.cells #[.int .i64 0, .string ⟨#[]⟩, .int .i64 0] 29 (0, 0)) ∧ w3.heap.size = w.heap.size + 3 ∧ Below w.heap.size w w3) := ⟨hg0, hg1, hg2, hs3, hB3⟩
  have x0 := block_cell hg1 0
  have x1 := block_cell hg1 1
  have x2 := block_cell hg1 2
  simp only [List.getElem?_toArray, List.getElem?_cons_zero, List.getElem?_cons_succ] at x0 x1 x2
  obtain ⟨R, HR⟩ : ∃ q, Hid (RR n O X = q) := ⟨_, (rfl : _ = _)⟩
  rw [HR.out] at hF0
  have HF0 : Hid (Fz R T L X s.data.toList 0 a0 b0.data.toList [] 0 an) := hF0
  have hs2 : ¬ (2000 : Int) < (s.size : Int) := by omega
  clear hO hx ht hok hsl hg0 hg1 hg2 hs3 hB3 hF0 HA
  go_enter Try.func5, Try.ntmps5
  go_upto_region 1 with fail
  rw [HW3.out]
  clear HW3
  go_wp2_with (refine wpList_load_mid rfl 26 _ rfl w.heap.size 0 rfl l _ HG3.out.1 Try.underlying26 rfl HSI.out ?_)
  refine HQ.mono ?_
  rintro _ w4 ⟨rfl, hbb⟩
  clear x0 x1 x2 HQ
  have hg0 : w4.rangeAt w.heap.size 0 l := fun j u hu => (hbb.cell (p := ⟨w.heap.size, 0 + j, none⟩) (by have := HG3.out.2.2.2.1; simp; omega)).trans (HG3.out.1 j u hu)
  have hg1 := (hbb.block (w.heap.size + 1) (by have := HG3.out.2.2.2.1; omega)).trans HG3.out.2.1
  have hg2 := (hbb.block (w.heap.size + 2) (by have := HG3.out.2.2.2.1; omega)).trans HG3.out.2.2.1
  have hs4 : w.heap.size + 3 ≤ w4.heap.size := by have := hbb.size; have := HG3.out.2.2.2.1; omega
  have hB4 : Below w.heap.size w w4 := HG3.out.2.2.2.2.trans (hbb.mono HG3.out.2.2.2.2.size)
  have x0 := block_cell hg1 0
  have x1 := block_cell hg1 1
  have x2 := block_cell hg1 2
  simp only [List.getElem?_toArray, List.getElem?_cons_zero, List.getElem?_cons_succ] at x0 x1 x2
  have HG4 : Hid (w4.rangeAt w.heap.size 0 l) := hg0
  have HBX := Rd.box w4 O nv tv a0 b0 0
  rw [HLL.out] at HBX
  have hbA := (Below.refl w4.heap.size w4).alloc (Nat.le_refl _) (Obj.cells (rdl l (.int .i64 (a0 : Int)) (.string b0) (.int .i64 0) (.slice none 0 0)).toArray 42)
  have hbw : Below w.heap.size w (w4.alloc (Obj.cells (rdl l (.int .i64 (a0 : Int)) (.string b0) (.int .i64 0) (.slice none 0 0)).toArray 42)) := hB4.trans (hbA.mono hB4.size)
  have hgA := (hbA.block (w.heap.size + 2) (by omega)).trans hg2
  obtain ⟨zs, hz42, hzs, hze⟩ := zero42
  have hfo := fold42 l HLN.out (.int .i64 (a0 : Int)) (.string b0) (.int .i64 0)
  have hfs := fold42_size l
  rw [← hze] at hfo hfs
  have hln := HLN.out
  have HR1 : Hid ((rdl l (.int .i64 (a0 : Int)) (.string b0) (.int .i64 0) (.slice none 0 0)).toArray.all (·.oneCell') = true) := rdl_one l HON.out _ _ _
  have HRS : Hid ((rdl l (.int .i64 (a0 : Int)) (.string b0) (.int .i64 0) (.slice none 0 0)).toArray.size = 262) := by show _ = _; rw [List.size_toArray]; exact rdl_length _ _ _ _ _ HLN.out
  obtain ⟨ra, HRA⟩ : ∃ q, Hid ((rdl l (.int .i64 (a0 : Int)) (.string b0) (.int .i64 0) (.slice none 0 0)).toArray = q) := ⟨_, (rfl : _ = _)⟩
  rw [HRA.out] at HBX hbA hbw hgA hfo HR1 HRS
  have HZS : Hid (zs.size = 262) := hzs
  obtain ⟨g, HGE⟩ : ∃ q, Hid (w4.heap.size = q) := ⟨_, (rfl : _ = _)⟩
  obtain ⟨wA, HWA⟩ : ∃ q, Hid (w4.alloc (Obj.cells ra 42) = q) := ⟨_, (rfl : _ = _)⟩
  rw [HWA.out] at HBX hbA hbw hgA
  rw [HGE.out] at HBX hs4
  have HRD0 : Hid (Rd O nv tv (g + 1) g a0 b0 0 (.slice none 0 0) [] wA) := HBX
  have HBA : Hid (Below w.heap.size w wA) := hbw
  have HGB : Hid (w.heap.size ≤ g ∧ w.heap.size ≤ g + 1) := ⟨by omega, by omega⟩
  have HGG : Hid (w.heap.size + 2 < g) := by show _ < _; omega
  have HBW : Hid (w.heap.size ≤ g + 1) := by show _ ≤ _; omega
  have HGA : Hid (wA.heap[w.heap.size + 2]? = some (.cells #[.int .i64 0, .string ⟨#[]⟩, .int .i64 0] 29 (0, 0))) := hgA
  clear hbb hg0 hg1 hg2 hs4 hB4 HBX hbA hbw hgA HRA hze
  go_wp2_with (first | refine wpList_load_mid rfl 26 _ rfl w.heap.size 0 rfl l _ HG4.out Try.underlying26 rfl HSI.out ?_ | (refine wpList_store_new42 rfl _ _ rfl zs ra rfl rfl HZS.out HRS.out HR1.out ?_; rw [HWA.out, HGE.out]))
  go_loopw [11] (fun i wr => ∃ (k ia : Nat) (bf : ByteArray) (v : Value) (ts : List (Int × Nat × Nat)) (o : Int), i = .int .i64 (k : Int) ∧ k ≤ s.size ∧ Rd O nv tv (g + 1) g ia bf o v ts wr ∧ Mk (g + 1) g wA wr ∧ Fz R T L X s.data.toList k ia bf.data.toList ts o an ∧ ia + bf.size ≤ a0 + 64 + k ∧ ts.length + a0 ≤ ia ∧ bf.size ≤ 64) (fun i _ => s.size - (intOf i).toNat)
  case atStart => exact ⟨0, a0, b0, _, [], 0, rfl, by omega, HRD0.out, Mk.refl _ _ _, HF0.out, by omega, by simp, hb⟩
  case round =>
    clear HRD0 HF0 x0 x1 x2
    obtain ⟨k, ia, bf, v, ts, o, rfl, hk, hrd, hmk, hfz, hq1, hq2, hq3⟩ := hrel
    have HMK : Hid (Mk (g + 1) g wA wr) := hmk
    have HFZ : Hid (Fz R T L X s.data.toList k ia bf.data.toList ts o an) := hfz
    obtain ⟨va, vc, rfl⟩ := own_form hrd.own
    have HRD : Hid (Rd O nv tv (g + 1) g ia bf o (.slice va ts.length vc) ts wr) := hrd
    have HFR : Hid (Below w.heap.size w wr ∧ Rd O nv tv (g + 1) g ia bf o (.slice va ts.length vc) ts wr ∧ wr.heap[w.heap.size + 2]? = some (.cells #[.int .i64 0, .string ⟨#[]⟩, .int .i64 0] 29 (0, 0))) := ⟨hmk.below HBA.out HGB.out.1 HGB.out.2, hrd, (hmk.blk _ (by have := HGG.out; omega) (by have := HGG.out; omega)).trans HGA.out⟩
    have HBF : Hid (bf.size ≤ 281474976710656) := by show _ ≤ _; omega
    have y0 := hrd.c260
    clear hmk hfz hrd
    by_cases hlt : k < s.size
    · have hk1 : (k : Int) < (s.size : Int) := by omega
      by_cases ho : o = 0
      · subst ho
        have HWR : Hid (IntKind.i64.wrap ((k : Int) + 1) = (k : Int) + 1) := by show _ = _; rw [show (k : Int) + 1 = ((k + 1 : Nat) : Int) by omega]; exact wrap_small (by omega)
        have HCT : Hid (∀ w, (Op.stringOp .add bf (s.extract k (k + 1))).run Try.prog w = .ok (.string (bf ++ s.extract k (k + 1))) w) := fun w => run_string_add_sum w bf _ (by simp; omega)
        have HSL : Hid (∀ w, (Instr.slice 9 (.string s) (some (.int .i64 (k : Int))) (some (.int .i64 ((k : Int) + 1))) none).run Try.prog w = .ok (.string (s.extract k (k + 1))) w) := fun w => slice_one s k hlt w
        go_wp2_with fail
        refine wp_region_free mixed (fun a0 d a W => ∃ (x42 x43 x44 x45 x46 x47 x48 x49 x50 x51 x52 : Value), a = (((((((((((a0.put (some 42) x42).put (some 43) x43).put (some 44) x44).put (some 45) x45).put (some 46) x46).put (some 47) x47).put (some 48) x48).put (some 49) x49).put (some 50) x50).put (some 51) x51).put (some 52) x52) ∧ Hid (RG10 wr O nv tv (g + 1) g ia k bf s 0 (.slice va ts.length vc) ts d x42 x43 x44 x45 x46 x47 x48 x49 x50 x51 x52 W)) (by kernel_rfl) ⟨u42, u43, u44, u45, u46, u47, u48, u49, u50, u51, u52, by simp only [Act.put, List.setIfInBounds_toArray, List.set_cons_zero, List.set_cons_succ], ?_⟩ ?_ ?_
        · exact ⟨fun h => no_way h, fun h => no_way h, fun h => no_way h, fun h => no_way h, fun h => no_way h, fun h => no_way h, fun h => no_way h, fun h => no_way h, fun h => no_way h, fun h => no_way h, fun h => no_way h, fun _ => trivial, fun h => no_way h, fun h => no_way h, (Mk.refl _ _ _).drew, fun _ => HRD.out.drew, fun h => no_way h⟩
        · simp only [StepAll, and_true]
          refine ⟨?_, ?_, ?_, ?_, ?_, ?_, ?_, ?_, ?_, ?_, ?_, ?_⟩
          · intro d a W hI hd hdep
            obtain ⟨x42, x43, x44, x45, x46, x47, x48, x49, x50, x51, x52, rfl, hF⟩ := hI
            clear hdep hd
            intro K hK
            simp only [Act.put, List.setIfInBounds_toArray, List.set_cons_zero, List.set_cons_succ]
            go_simp
            refine hK.out _ _ ⟨(.pointer (some ⟨g, 258, none⟩)), x43, x44, x45, x46, x47, x48, x49, x50, x51, x52, by simp only [Act.put, List.setIfInBounds_toArray, List.set_cons_zero, List.set_cons_succ], ?_⟩
            exact ⟨fun _ => rfl, fun h => hF.out.f1 (by simpa using h), fun h => hF.out.f2 (by simpa using h), fun h => hF.out.f3 (by simpa using h), fun h => hF.out.f4 (by simpa using h), fun h => hF.out.f5 (by simpa using h), fun h => hF.out.f6 (by simpa using h), fun h => hF.out.f7 (by simpa using h), fun h => hF.out.f8 (by simpa using h), fun h => hF.out.f9 (by simpa using h), fun h => hF.out.f10 (by simpa using h), fun h => hF.out.f11 (by simpa using h), fun h => by have := hF.out.o8_2 (by simpa using h); simpa using this, fun h => by have := hF.out.q11_8 (by simpa using h); simpa using this, hF.out.kk, fun h => hF.out.rd (by simpa using h), fun h => hF.out.fin (by simpa using h)⟩
          · intro d a W hI hd hdep
            obtain ⟨x42, x43, x44, x45, x46, x47, x48, x49, x50, x51, x52, rfl, hF⟩ := hI
            have hd0 : d 0 = true := dep_of hdep 0 (by kernel_rfl)
            obtain rfl := hF.out.f0 hd0
            clear hdep hd hd0
            intro K hK
            simp only [Act.put, List.setIfInBounds_toArray, List.set_cons_zero, List.set_cons_succ]
            go_simp
            refine hK.out _ _ ⟨(.pointer (some ⟨g, 258, none⟩)), (.pointer (some ⟨g, 259, none⟩)), x44, x45, x46, x47, x48, x49, x50, x51, x52, by simp only [Act.put, List.setIfInBounds_toArray, List.set_cons_zero, List.set_cons_succ], ?_⟩
            exact ⟨fun h => hF.out.f0 (by simpa using h), fun _ => rfl, fun h => hF.out.f2 (by simpa using h), fun h => hF.out.f3 (by simpa using h), fun h => hF.out.f4 (by simpa using h), fun h => hF.out.f5 (by simpa using h), fun h => hF.out.f6 (by simpa using h), fun h => hF.out.f7 (by simpa using h), fun h => hF.out.f8 (by simpa using h), fun h => hF.out.f9 (by simpa using h), fun h => hF.out.f10 (by simpa using h), fun h => hF.out.f11 (by simpa using h), fun h => by have := hF.out.o8_2 (by simpa using h); simpa using this, fun h => by have := hF.out.q11_8 (by simpa using h); simpa using this, hF.out.kk, fun h => hF.out.rd (by simpa using h), fun h => hF.out.fin (by simpa using h)⟩
          · intro d a W hI hd hdep
            obtain ⟨x42, x43, x44, x45, x46, x47, x48, x49, x50, x51, x52, rfl, hF⟩ := hI
            have hd1 : d 1 = true := dep_of hdep 1 (by kernel_rfl)
            obtain rfl := hF.out.f1 hd1
            have HN8 : Hid (d 8 = false) := no_later hF.out.o8_2 hd
            have HN11 : Hid (d 11 = false) := no_later hF.out.q11_8 HN8.out
            have ya := (hF.out.rd HN11.out).c259
            clear hdep hd hd1
            intro K hK
            simp only [Act.put, List.setIfInBounds_toArray, List.set_cons_zero, List.set_cons_succ]
            go_simp
            refine hK.out _ _ ⟨x42, (.pointer (some ⟨g, 259, none⟩)), (.string bf), x45, x46, x47, x48, x49, x50, x51, x52, by simp only [Act.put, List.setIfInBounds_toArray, List.set_cons_zero, List.set_cons_succ], ?_⟩
            exact ⟨fun h => hF.out.f0 (by simpa using h), fun h => hF.out.f1 (by simpa using h), fun _ => rfl, fun h => hF.out.f3 (by simpa using h), fun h => hF.out.f4 (by simpa using h), fun h => hF.out.f5 (by simpa using h), fun h => hF.out.f6 (by simpa using h), fun h => hF.out.f7 (by simpa using h), fun h => hF.out.f8 (by simpa using h), fun h => hF.out.f9 (by simpa using h), fun h => hF.out.f10 (by simpa using h), fun h => hF.out.f11 (by simpa using h), fun _ => by simp, fun h => by have := hF.out.q11_8 (by simpa using h); simpa using this, hF.out.kk, fun h => hF.out.rd (by simpa using h), fun h => hF.out.fin (by simpa using h)⟩
          · intro d a W hI hd hdep
            obtain ⟨x42, x43, x44, x45, x46, x47, x48, x49, x50, x51, x52, rfl, hF⟩ := hI
            clear hdep hd
            intro K hK
            simp only [Act.put, List.setIfInBounds_toArray, List.set_cons_zero, List.set_cons_succ]
            go_simp
            refine hK.out _ _ ⟨x42, x43, x44, (.string s), x46, x47, x48, x49, x50, x51, x52, by simp only [Act.put, List.setIfInBounds_toArray, List.set_cons_zero, List.set_cons_succ], ?_⟩
            exact ⟨fun h => hF.out.f0 (by simpa using h), fun h => hF.out.f1 (by simpa using h), fun h => hF.out.f2 (by simpa using h), fun _ => rfl, fun h => hF.out.f4 (by simpa using h), fun h => hF.out.f5 (by simpa using h), fun h => hF.out.f6 (by simpa using h), fun h => hF.out.f7 (by simpa using h), fun h => hF.out.f8 (by simpa using h), fun h => hF.out.f9 (by simpa using h), fun h => hF.out.f10 (by simpa using h), fun h => hF.out.f11 (by simpa using h), fun h => by have := hF.out.o8_2 (by simpa using h); simpa using this, fun h => by have := hF.out.q11_8 (by simpa using h); simpa using this, hF.out.kk, fun h => hF.out.rd (by simpa using h), fun h => hF.out.fin (by simpa using h)⟩
          · intro d a W hI hd hdep
            obtain ⟨x42, x43, x44, x45, x46, x47, x48, x49, x50, x51, x52, rfl, hF⟩ := hI
            clear hdep hd
            intro K hK
            simp only [Act.put, List.setIfInBounds_toArray, List.set_cons_zero, List.set_cons_succ]
            go_simp
            refine hK.out _ _ ⟨x42, x43, x44, x45, (.int .i64 (k : Int)), x47, x48, x49, x50, x51, x52, by simp only [Act.put, List.setIfInBounds_toArray, List.set_cons_zero, List.set_cons_succ], ?_⟩
            exact ⟨fun h => hF.out.f0 (by simpa using h), fun h => hF.out.f1 (by simpa using h), fun h => hF.out.f2 (by simpa using h), fun h => hF.out.f3 (by simpa using h), fun _ => rfl, fun h => hF.out.f5 (by simpa using h), fun h => hF.out.f6 (by simpa using h), fun h => hF.out.f7 (by simpa using h), fun h => hF.out.f8 (by simpa using h), fun h => hF.out.f9 (by simpa using h), fun h => hF.out.f10 (by simpa using h), fun h => hF.out.f11 (by simpa using h), fun h => by have := hF.out.o8_2 (by simpa using h); simpa using this, fun h => by have := hF.out.q11_8 (by simpa using h); simpa using this, hF.out.kk, fun h => hF.out.rd (by simpa using h), fun h => hF.out.fin (by simpa using h)⟩
          · intro d a W hI hd hdep
            obtain ⟨x42, x43, x44, x45, x46, x47, x48, x49, x50, x51, x52, rfl, hF⟩ := hI
            clear hdep hd
            intro K hK
            simp only [Act.put, List.setIfInBounds_toArray, List.set_cons_zero, List.set_cons_succ]
            go_simp
            refine hK.out _ _ ⟨x42, x43, x44, x45, x46, (.int .i64 (k : Int)), x48, x49, x50, x51, x52, by simp only [Act.put, List.setIfInBounds_toArray, List.set_cons_zero, List.set_cons_succ], ?_⟩
            exact ⟨fun h => hF.out.f0 (by simpa using h), fun h => hF.out.f1 (by simpa using h), fun h => hF.out.f2 (by simpa using h), fun h => hF.out.f3 (by simpa using h), fun h => hF.out.f4 (by simpa using h), fun _ => rfl, fun h => hF.out.f6 (by simpa using h), fun h => hF.out.f7 (by simpa using h), fun h => hF.out.f8 (by simpa using h), fun h => hF.out.f9 (by simpa using h), fun h => hF.out.f10 (by simpa using h), fun h => hF.out.f11 (by simpa using h), fun h => by have := hF.out.o8_2 (by simpa using h); simpa using this, fun h => by have := hF.out.q11_8 (by simpa using h); simpa using this, hF.out.kk, fun h => hF.out.rd (by simpa using h), fun h => hF.out.fin (by simpa using h)⟩
          · intro d a W hI hd hdep
            obtain ⟨x42, x43, x44, x45, x46, x47, x48, x49, x50, x51, x52, rfl, hF⟩ := hI
            have hd5 : d 5 = true := dep_of hdep 5 (by kernel_rfl)
            obtain rfl := hF.out.f5 hd5
            have hw := HWR.out
            clear hdep hd hd5
            intro K hK
            simp only [Act.put, List.setIfInBounds_toArray, List.set_cons_zero, List.set_cons_succ]
            go_simp
            refine hK.out _ _ ⟨x42, x43, x44, x45, x46, (.int .i64 (k : Int)), (.int .i64 ((k : Int) + 1)), x49, x50, x51, x52, by simp only [Act.put, List.setIfInBounds_toArray, List.set_cons_zero, List.set_cons_succ], ?_⟩
            exact ⟨fun h => hF.out.f0 (by simpa using h), fun h => hF.out.f1 (by simpa using h), fun h => hF.out.f2 (by simpa using h), fun h => hF.out.f3 (by simpa using h), fun h => hF.out.f4 (by simpa using h), fun h => hF.out.f5 (by simpa using h), fun _ => rfl, fun h => hF.out.f7 (by simpa using h), fun h => hF.out.f8 (by simpa using h), fun h => hF.out.f9 (by simpa using h), fun h => hF.out.f10 (by simpa using h), fun h => hF.out.f11 (by simpa using h), fun h => by have := hF.out.o8_2 (by simpa using h); simpa using this, fun h => by have := hF.out.q11_8 (by simpa using h); simpa using this, hF.out.kk, fun h => hF.out.rd (by simpa using h), fun h => hF.out.fin (by simpa using h)⟩
          · intro d a W hI hd hdep
            obtain ⟨x42, x43, x44, x45, x46, x47, x48, x49, x50, x51, x52, rfl, hF⟩ := hI
            have hd3 : d 3 = true := dep_of hdep 3 (by kernel_rfl)
            have hd4 : d 4 = true := dep_of hdep 4 (by kernel_rfl)
            have hd6 : d 6 = true := dep_of hdep 6 (by kernel_rfl)
            obtain rfl := hF.out.f3 hd3
            obtain rfl := hF.out.f4 hd4
            obtain rfl := hF.out.f6 hd6
            have hx := HSL.out
            clear hdep hd hd3 hd4 hd6
            intro K hK
            simp only [Act.put, List.setIfInBounds_toArray, List.set_cons_zero, List.set_cons_succ]
            go_simp
            refine hK.out _ _ ⟨x42, x43, x44, (.string s), (.int .i64 (k : Int)), x47, (.int .i64 ((k : Int) + 1)), (.string (s.extract k (k + 1))), x50, x51, x52, by simp only [Act.put, List.setIfInBounds_toArray, List.set_cons_zero, List.set_cons_succ], ?_⟩
            exact ⟨fun h => hF.out.f0 (by simpa using h), fun h => hF.out.f1 (by simpa using h), fun h => hF.out.f2 (by simpa using h), fun h => hF.out.f3 (by simpa using h), fun h => hF.out.f4 (by simpa using h), fun h => hF.out.f5 (by simpa using h), fun h => hF.out.f6 (by simpa using h), fun _ => rfl, fun h => hF.out.f8 (by simpa using h), fun h => hF.out.f9 (by simpa using h), fun h => hF.out.f10 (by simpa using h), fun h => hF.out.f11 (by simpa using h), fun h => by have := hF.out.o8_2 (by simpa using h); simpa using this, fun h => by have := hF.out.q11_8 (by simpa using h); simpa using this, hF.out.kk, fun h => hF.out.rd (by simpa using h), fun h => hF.out.fin (by simpa using h)⟩
          · intro d a W hI hd hdep
            obtain ⟨x42, x43, x44, x45, x46, x47, x48, x49, x50, x51, x52, rfl, hF⟩ := hI
            have hd2 : d 2 = true := dep_of hdep 2 (by kernel_rfl)
            have hd7 : d 7 = true := dep_of hdep 7 (by kernel_rfl)
            obtain rfl := hF.out.f2 hd2
            obtain rfl := hF.out.f7 hd7
            have e8_2 := hd2
            have hct := HCT.out
            clear hdep hd hd2 hd7
            intro K hK
            simp only [Act.put, List.setIfInBounds_toArray, List.set_cons_zero, List.set_cons_succ]
            go_simp
            refine hK.out _ _ ⟨x42, x43, (.string bf), x45, x46, x47, x48, (.string (s.extract k (k + 1))), (.string (bf ++ s.extract k (k + 1))), x51, x52, by simp only [Act.put, List.setIfInBounds_toArray, List.set_cons_zero, List.set_cons_succ], ?_⟩
            exact ⟨fun h => hF.out.f0 (by simpa using h), fun h => hF.out.f1 (by simpa using h), fun h => hF.out.f2 (by simpa using h), fun h => hF.out.f3 (by simpa using h), fun h => hF.out.f4 (by simpa using h), fun h => hF.out.f5 (by simpa using h), fun h => hF.out.f6 (by simpa using h), fun h => hF.out.f7 (by simpa using h), fun _ => rfl, fun h => hF.out.f9 (by simpa using h), fun h => hF.out.f10 (by simpa using h), fun h => hF.out.f11 (by simpa using h), fun _ => by simpa using e8_2, fun _ => by simp, hF.out.kk, fun h => hF.out.rd (by simpa using h), fun h => hF.out.fin (by simpa using h)⟩
          · intro d a W hI hd hdep
            obtain ⟨x42, x43, x44, x45, x46, x47, x48, x49, x50, x51, x52, rfl, hF⟩ := hI
            clear hdep hd
            intro K hK
            simp only [Act.put, List.setIfInBounds_toArray, List.set_cons_zero, List.set_cons_succ]
            go_simp
            refine hK.out _ _ ⟨x42, x43, x44, x45, x46, x47, x48, x49, x50, (.pointer (some ⟨g, 258, none⟩)), x52, by simp only [Act.put, List.setIfInBounds_toArray, List.set_cons_zero, List.set_cons_succ], ?_⟩
            exact ⟨fun h => hF.out.f0 (by simpa using h), fun h => hF.out.f1 (by simpa using h), fun h => hF.out.f2 (by simpa using h), fun h => hF.out.f3 (by simpa using h), fun h => hF.out.f4 (by simpa using h), fun h => hF.out.f5 (by simpa using h), fun h => hF.out.f6 (by simpa using h), fun h => hF.out.f7 (by simpa using h), fun h => hF.out.f8 (by simpa using h), fun _ => rfl, fun h => hF.out.f10 (by simpa using h), fun h => hF.out.f11 (by simpa using h), fun h => by have := hF.out.o8_2 (by simpa using h); simpa using this, fun h => by have := hF.out.q11_8 (by simpa using h); simpa using this, hF.out.kk, fun h => hF.out.rd (by simpa using h), fun h => hF.out.fin (by simpa using h)⟩
          · intro d a W hI hd hdep
            obtain ⟨x42, x43, x44, x45, x46, x47, x48, x49, x50, x51, x52, rfl, hF⟩ := hI
            have hd9 : d 9 = true := dep_of hdep 9 (by kernel_rfl)
            obtain rfl := hF.out.f9 hd9
            clear hdep hd hd9
            intro K hK
            simp only [Act.put, List.setIfInBounds_toArray, List.set_cons_zero, List.set_cons_succ]
            go_simp
            refine hK.out _ _ ⟨x42, x43, x44, x45, x46, x47, x48, x49, x50, (.pointer (some ⟨g, 258, none⟩)), (.pointer (some ⟨g, 259, none⟩)), by simp only [Act.put, List.setIfInBounds_toArray, List.set_cons_zero, List.set_cons_succ], ?_⟩
            exact ⟨fun h => hF.out.f0 (by simpa using h), fun h => hF.out.f1 (by simpa using h), fun h => hF.out.f2 (by simpa using h), fun h => hF.out.f3 (by simpa using h), fun h => hF.out.f4 (by simpa using h), fun h => hF.out.f5 (by simpa using h), fun h => hF.out.f6 (by simpa using h), fun h => hF.out.f7 (by simpa using h), fun h => hF.out.f8 (by simpa using h), fun h => hF.out.f9 (by simpa using h), fun _ => rfl, fun h => hF.out.f11 (by simpa using h), fun h => by have := hF.out.o8_2 (by simpa using h); simpa using this, fun h => by have := hF.out.q11_8 (by simpa using h); simpa using this, hF.out.kk, fun h => hF.out.rd (by simpa using h), fun h => hF.out.fin (by simpa using h)⟩
          · intro d a W hI hd hdep
            obtain ⟨x42, x43, x44, x45, x46, x47, x48, x49, x50, x51, x52, rfl, hF⟩ := hI
            have hd10 : d 10 = true := dep_of hdep 10 (by kernel_rfl)
            have hd8 : d 8 = true := dep_of hdep 8 (by kernel_rfl)
            obtain rfl := hF.out.f10 hd10
            obtain rfl := hF.out.f8 hd8
            have e11_8 := hd8
            have hrd := hF.out.rd hd
            have ya := hrd.c259
            have yb := hrd.row.frozen 259
            clear hdep hd hd10 hd8
            intro K hK
            simp only [Act.put, List.setIfInBounds_toArray, List.set_cons_zero, List.set_cons_succ]
            go_simp
            refine hK.out _ _ ⟨x42, x43, x44, x45, x46, x47, x48, x49, (.string (bf ++ s.extract k (k + 1))), x51, (.pointer (some ⟨g, 259, none⟩)), by simp only [Act.put, List.setIfInBounds_toArray, List.set_cons_zero, List.set_cons_succ], ?_⟩
            exact ⟨fun h => hF.out.f0 (by simpa using h), fun h => hF.out.f1 (by simpa using h), fun h => hF.out.f2 (by simpa using h), fun h => hF.out.f3 (by simpa using h), fun h => hF.out.f4 (by simpa using h), fun h => hF.out.f5 (by simpa using h), fun h => hF.out.f6 (by simpa using h), fun h => hF.out.f7 (by simpa using h), fun h => hF.out.f8 (by simpa using h), fun h => hF.out.f9 (by simpa using h), fun h => hF.out.f10 (by simpa using h), fun _ => trivial, fun h => by have := hF.out.o8_2 (by simpa using h); simpa using this, fun _ => by simpa using e11_8, hF.out.kk.set _ _, fun h => by simp at h, fun _ => hrd.setBuf _⟩
        · intro d a W hI hall
          obtain ⟨x42, x43, x44, x45, x46, x47, x48, x49, x50, x51, x52, rfl, hF⟩ := hI
          simp only [List.length_cons, List.length_nil] at hall
          obtain rfl := hF.out.f0 (hall 0 (by omega))
          obtain rfl := hF.out.f1 (hall 1 (by omega))
          obtain rfl := hF.out.f2 (hall 2 (by omega))
          obtain rfl := hF.out.f3 (hall 3 (by omega))
          obtain rfl := hF.out.f4 (hall 4 (by omega))
          obtain rfl := hF.out.f5 (hall 5 (by omega))
          obtain rfl := hF.out.f6 (hall 6 (by omega))
          obtain rfl := hF.out.f7 (hall 7 (by omega))
          obtain rfl := hF.out.f8 (hall 8 (by omega))
          obtain rfl := hF.out.f9 (hall 9 (by omega))
          obtain rfl := hF.out.f10 (hall 10 (by omega))
          have HR2 : Hid (Rd O nv tv (g + 1) g ia (bf ++ s.extract k (k + 1)) 0 (.slice va ts.length vc) ts W ∧ Mk (g + 1) g wr W) := ⟨hF.out.fin (hall 11 (by omega)), hF.out.kk⟩
          clear hF hall
          simp only [Act.put, List.setIfInBounds_toArray, List.set_cons_zero, List.set_cons_succ]
          obtain ⟨w5, rfl⟩ : ∃ q, q = W := ⟨_, rfl⟩
          have hbs : (bf ++ s.extract k (k + 1)).size = bf.size + 1 := by rw [← data_size, cat_one bf s k hlt, List.length_append, data_size]; rfl
          have HMW : Hid (Mk (g + 1) g wA w5) := HMK.out.trans HR2.out.2
          have hse := settle_any O nv tv n L X T (g + 1) g ia (bf ++ s.extract k (k + 1)) (.slice va ts.length vc) ts w w5 HOO.out HNX.out HTT.out HCP.out (HMW.out.below HBA.out HGB.out.1 HGB.out.2) HGB.out.1 HGB.out.2 HR2.out.1 (by omega) (by omega) (by omega)
          have HB : Hid _ := st1_bound (R := R) (T := T) (L := L) (X := X) ia (bf.data.toList ++ [s[k]]) ts
          rw [cat_one bf s k hlt, HR.out] at hse
          have hnx := HFZ.out.next (drop_cons s k hlt)
          obtain ⟨st, HST⟩ : ∃ q, Hid (st1 R T L X ia (bf.data.toList ++ [s[k]]) ts = q) := ⟨_, (rfl : st1 R T L X ia (bf.data.toList ++ [s[k]]) ts = _)⟩
          rw [HST.out] at hse hnx HB
          have HNX2 : Hid (Fz R T L X s.data.toList (k + 1) st.1 st.2.1 st.2.2.1 st.2.2.2 an) := hnx
          clear hnx
          go_wp2_with fail
          refine hse.mono ?_
          rintro _ w6 ⟨rfl, ia6, s6, v6, ts6, o6, h1, h2, h3⟩
          subst h3
          have HR3 : Hid (Rd O nv tv (g + 1) g ia6 s6 o6 v6 ts6 w6 ∧ Mk (g + 1) g wA w6) := ⟨h1, HMW.out.trans h2⟩
          have hbd := HB.out
          simp only [List.length_append, List.length_cons, List.length_nil, data_size] at hbd
          clear h1 h2 hse
          go_wp2_with fail
          go_roundw
          case rel => exact ⟨k + 1, ia6, s6, v6, ts6, o6, by go_num, by omega, HR3.out.1, HR3.out.2, HNX2.out, by omega, by omega, by omega⟩
          case measure => simp [intOf]; omega
      · have ho1 : (o == 0) = false := by simp [ho]
        have HAN : Hid (an = (ia, bf.data.toList, ts, o)) := HFZ.out.ends (Or.inr ho)
        go_wp2_with fail
        refine wp_region_free mixed (fun a0 d a W => ∃ (x7 x8 x54 x55 x56 x57 x58 x59 x60 x61 : Value), a = ((((((((((a0.put (some 7) x7).put (some 8) x8).put (some 54) x54).put (some 55) x55).put (some 56) x56).put (some 57) x57).put (some 58) x58).put (some 59) x59).put (some 60) x60).put (some 61) x61) ∧ Hid (RG12 w O nv tv (g + 1) g (w.heap.size + 2) ia bf o va vc ts d x7 x8 x54 x55 x56 x57 x58 x59 x60 x61 W)) (by kernel_rfl) ⟨(.slice none 0 0), (.int .i64 0), undef, undef, undef, undef, undef, undef, undef, undef, by simp only [Act.put, List.setIfInBounds_toArray, List.set_cons_zero, List.set_cons_succ], ?_⟩ ?_ ?_
        · exact ⟨fun h => no_way h, fun h => no_way h, fun h => no_way h, fun h => no_way h, fun h => no_way h, fun h => no_way h, fun h => no_way h, fun h => no_way h, fun _ => trivial, fun h => no_way h, fun h => no_way h, fun h => no_way h, HFR.out.1.drew, HFR.out.2.1.drew, fun _ => HFR.out.2.2, fun h => no_way h⟩
        · simp only [StepAll, and_true]
          refine ⟨?_, ?_, ?_, ?_, ?_, ?_, ?_, ?_, ?_, ?_, ?_⟩
          · intro d a W hI hd hdep
            obtain ⟨x7, x8, x54, x55, x56, x57, x58, x59, x60, x61, rfl, hF⟩ := hI
            clear hdep hd
            intro K hK
            simp only [Act.put, List.setIfInBounds_toArray, List.set_cons_zero, List.set_cons_succ]
            go_simp
            refine hK.out _ _ ⟨x7, x8, (.pointer (some ⟨g, 258, none⟩)), x55, x56, x57, x58, x59, x60, x61, by simp only [Act.put, List.setIfInBounds_toArray, List.set_cons_zero, List.set_cons_succ], ?_⟩
            exact ⟨fun _ => rfl, fun h => hF.out.f1 (by simpa using h), fun h => hF.out.f2 (by simpa using h), fun h => hF.out.f3 (by simpa using h), fun h => hF.out.f4 (by simpa using h), fun h => hF.out.f5 (by simpa using h), fun h => hF.out.f6 (by simpa using h), fun h => hF.out.f7 (by simpa using h), fun h => hF.out.f8 (by simpa using h), fun h => hF.out.f9 (by simpa using h), fun h => hF.out.f10 (by simpa using h), fun h => by have := hF.out.q8_2 (by simpa using h); simpa using this, hF.out.bel, hF.out.rd, fun h => hF.out.bl (by simpa using h), fun h => hF.out.fin (by simpa using h)⟩
          · intro d a W hI hd hdep
            obtain ⟨x7, x8, x54, x55, x56, x57, x58, x59, x60, x61, rfl, hF⟩ := hI
            have hd0 : d 0 = true := dep_of hdep 0 (by kernel_rfl)
            obtain rfl := hF.out.f0 hd0
            have ya := hF.out.rd.c258
            have yb := hF.out.rd.c259
            have yc := hF.out.rd.c260
            clear hdep hd hd0
            intro K hK
            simp only [Act.put, List.setIfInBounds_toArray, List.set_cons_zero, List.set_cons_succ]
            go_simp
            refine hK.out _ _ ⟨x7, x8, (.pointer (some ⟨g, 258, none⟩)), (.agg #[.int .i64 (ia : Int), .string bf, .int .i64 o]), x56, x57, x58, x59, x60, x61, by simp only [Act.put, List.setIfInBounds_toArray, List.set_cons_zero, List.set_cons_succ], ?_⟩
            exact ⟨fun h => hF.out.f0 (by simpa using h), fun _ => rfl, fun h => hF.out.f2 (by simpa using h), fun h => hF.out.f3 (by simpa using h), fun h => hF.out.f4 (by simpa using h), fun h => hF.out.f5 (by simpa using h), fun h => hF.out.f6 (by simpa using h), fun h => hF.out.f7 (by simpa using h), fun h => hF.out.f8 (by simpa using h), fun h => hF.out.f9 (by simpa using h), fun h => hF.out.f10 (by simpa using h), fun h => by have := hF.out.q8_2 (by simpa using h); simpa using this, hF.out.bel, hF.out.rd, fun h => hF.out.bl (by simpa using h), fun h => hF.out.fin (by simpa using h)⟩
          · intro d a W hI hd hdep
            obtain ⟨x7, x8, x54, x55, x56, x57, x58, x59, x60, x61, rfl, hF⟩ := hI
            have hd1 : d 1 = true := dep_of hdep 1 (by kernel_rfl)
            obtain rfl := hF.out.f1 hd1
            have hcl := copied_any (ia : Int) bf o W HBF.out
            have HN8 : Hid (d 8 = false) := no_later hF.out.q8_2 hd
            clear hdep hd hd1
            intro K hK
            simp only [Act.put, List.setIfInBounds_toArray, List.set_cons_zero, List.set_cons_succ]
            go_simp
            refine hcl.mono ?_
            rintro _ W1 ⟨rfl, hb1⟩
            clear hcl
            go_simp
            refine hK.out _ _ ⟨x7, x8, x54, (.agg #[.int .i64 (ia : Int), .string bf, .int .i64 o]), (.agg #[.int .i64 (ia : Int), .string bf, .int .i64 o]), x57, x58, x59, x60, x61, by simp only [Act.put, List.setIfInBounds_toArray, List.set_cons_zero, List.set_cons_succ], ?_⟩
            exact ⟨fun h => hF.out.f0 (by simpa using h), fun h => hF.out.f1 (by simpa using h), fun _ => rfl, fun h => hF.out.f3 (by simpa using h), fun h => hF.out.f4 (by simpa using h), fun h => hF.out.f5 (by simpa using h), fun h => hF.out.f6 (by simpa using h), fun h => hF.out.f7 (by simpa using h), fun h => hF.out.f8 (by simpa using h), fun h => hF.out.f9 (by simpa using h), fun h => hF.out.f10 (by simpa using h), fun _ => by simp, hF.out.bel.trans (hb1.mono hF.out.bel.size), hF.out.rd.next hb1, fun _ => (hb1.block _ (Nat.lt_of_not_le fun x => by have := hF.out.bl HN8.out; rw [Array.getElem?_eq_none x] at this; cases this)).trans (hF.out.bl HN8.out), fun h => by have := HN8.out; simp [this] at h⟩
          · intro d a W hI hd hdep
            obtain ⟨x7, x8, x54, x55, x56, x57, x58, x59, x60, x61, rfl, hF⟩ := hI
            clear hdep hd
            intro K hK
            simp only [Act.put, List.setIfInBounds_toArray, List.set_cons_zero, List.set_cons_succ]
            go_simp
            refine hK.out _ _ ⟨x7, x8, x54, x55, x56, (.pointer (some ⟨g, 261, none⟩)), x58, x59, x60, x61, by simp only [Act.put, List.setIfInBounds_toArray, List.set_cons_zero, List.set_cons_succ], ?_⟩
            exact ⟨fun h => hF.out.f0 (by simpa using h), fun h => hF.out.f1 (by simpa using h), fun h => hF.out.f2 (by simpa using h), fun _ => rfl, fun h => hF.out.f4 (by simpa using h), fun h => hF.out.f5 (by simpa using h), fun h => hF.out.f6 (by simpa using h), fun h => hF.out.f7 (by simpa using h), fun h => hF.out.f8 (by simpa using h), fun h => hF.out.f9 (by simpa using h), fun h => hF.out.f10 (by simpa using h), fun h => by have := hF.out.q8_2 (by simpa using h); simpa using this, hF.out.bel, hF.out.rd, fun h => hF.out.bl (by simpa using h), fun h => hF.out.fin (by simpa using h)⟩
          · intro d a W hI hd hdep
            obtain ⟨x7, x8, x54, x55, x56, x57, x58, x59, x60, x61, rfl, hF⟩ := hI
            have hd3 : d 3 = true := dep_of hdep 3 (by kernel_rfl)
            obtain rfl := hF.out.f3 hd3
            have ya := hF.out.rd.c261
            clear hdep hd hd3
            intro K hK
            simp only [Act.put, List.setIfInBounds_toArray, List.set_cons_zero, List.set_cons_succ]
            go_simp
            refine hK.out _ _ ⟨x7, x8, x54, x55, x56, (.pointer (some ⟨g, 261, none⟩)), (.slice va ts.length vc), x59, x60, x61, by simp only [Act.put, List.setIfInBounds_toArray, List.set_cons_zero, List.set_cons_succ], ?_⟩
            exact ⟨fun h => hF.out.f0 (by simpa using h), fun h => hF.out.f1 (by simpa using h), fun h => hF.out.f2 (by simpa using h), fun h => hF.out.f3 (by simpa using h), fun _ => rfl, fun h => hF.out.f5 (by simpa using h), fun h => hF.out.f6 (by simpa using h), fun h => hF.out.f7 (by simpa using h), fun h => hF.out.f8 (by simpa using h), fun h => hF.out.f9 (by simpa using h), fun h => hF.out.f10 (by simpa using h), fun h => by have := hF.out.q8_2 (by simpa using h); simpa using this, hF.out.bel, hF.out.rd, fun h => hF.out.bl (by simpa using h), fun h => hF.out.fin (by simpa using h)⟩
          · intro d a W hI hd hdep
            obtain ⟨x7, x8, x54, x55, x56, x57, x58, x59, x60, x61, rfl, hF⟩ := hI
            clear hdep hd
            intro K hK
            simp only [Act.put, List.setIfInBounds_toArray, List.set_cons_zero, List.set_cons_succ]
            go_simp
            refine hK.out _ _ ⟨x7, x8, x54, x55, x56, x57, x58, (.pointer (some ⟨g, 258, none⟩)), x60, x61, by simp only [Act.put, List.setIfInBounds_toArray, List.set_cons_zero, List.set_cons_succ], ?_⟩
            exact ⟨fun h => hF.out.f0 (by simpa using h), fun h => hF.out.f1 (by simpa using h), fun h => hF.out.f2 (by simpa using h), fun h => hF.out.f3 (by simpa using h), fun h => hF.out.f4 (by simpa using h), fun _ => rfl, fun h => hF.out.f6 (by simpa using h), fun h => hF.out.f7 (by simpa using h), fun h => hF.out.f8 (by simpa using h), fun h => hF.out.f9 (by simpa using h), fun h => hF.out.f10 (by simpa using h), fun h => by have := hF.out.q8_2 (by simpa using h); simpa using this, hF.out.bel, hF.out.rd, fun h => hF.out.bl (by simpa using h), fun h => hF.out.fin (by simpa using h)⟩
          · intro d a W hI hd hdep
            obtain ⟨x7, x8, x54, x55, x56, x57, x58, x59, x60, x61, rfl, hF⟩ := hI
            have hd5 : d 5 = true := dep_of hdep 5 (by kernel_rfl)
            obtain rfl := hF.out.f5 hd5
            clear hdep hd hd5
            intro K hK
            simp only [Act.put, List.setIfInBounds_toArray, List.set_cons_zero, List.set_cons_succ]
            go_simp
            refine hK.out _ _ ⟨x7, x8, x54, x55, x56, x57, x58, (.pointer (some ⟨g, 258, none⟩)), (.pointer (some ⟨g, 260, none⟩)), x61, by simp only [Act.put, List.setIfInBounds_toArray, List.set_cons_zero, List.set_cons_succ], ?_⟩
            exact ⟨fun h => hF.out.f0 (by simpa using h), fun h => hF.out.f1 (by simpa using h), fun h => hF.out.f2 (by simpa using h), fun h => hF.out.f3 (by simpa using h), fun h => hF.out.f4 (by simpa using h), fun h => hF.out.f5 (by simpa using h), fun _ => rfl, fun h => hF.out.f7 (by simpa using h), fun h => hF.out.f8 (by simpa using h), fun h => hF.out.f9 (by simpa using h), fun h => hF.out.f10 (by simpa using h), fun h => by have := hF.out.q8_2 (by simpa using h); simpa using this, hF.out.bel, hF.out.rd, fun h => hF.out.bl (by simpa using h), fun h => hF.out.fin (by simpa using h)⟩
          · intro d a W hI hd hdep
            obtain ⟨x7, x8, x54, x55, x56, x57, x58, x59, x60, x61, rfl, hF⟩ := hI
            have hd6 : d 6 = true := dep_of hdep 6 (by kernel_rfl)
            obtain rfl := hF.out.f6 hd6
            have ya := hF.out.rd.c260
            clear hdep hd hd6
            intro K hK
            simp only [Act.put, List.setIfInBounds_toArray, List.set_cons_zero, List.set_cons_succ]
            go_simp
            refine hK.out _ _ ⟨x7, x8, x54, x55, x56, x57, x58, x59, (.pointer (some ⟨g, 260, none⟩)), (.int .i64 o), by simp only [Act.put, List.setIfInBounds_toArray, List.set_cons_zero, List.set_cons_succ], ?_⟩
            exact ⟨fun h => hF.out.f0 (by simpa using h), fun h => hF.out.f1 (by simpa using h), fun h => hF.out.f2 (by simpa using h), fun h => hF.out.f3 (by simpa using h), fun h => hF.out.f4 (by simpa using h), fun h => hF.out.f5 (by simpa using h), fun h => hF.out.f6 (by simpa using h), fun _ => rfl, fun h => hF.out.f8 (by simpa using h), fun h => hF.out.f9 (by simpa using h), fun h => hF.out.f10 (by simpa using h), fun h => by have := hF.out.q8_2 (by simpa using h); simpa using this, hF.out.bel, hF.out.rd, fun h => hF.out.bl (by simpa using h), fun h => hF.out.fin (by simpa using h)⟩
          · intro d a W hI hd hdep
            obtain ⟨x7, x8, x54, x55, x56, x57, x58, x59, x60, x61, rfl, hF⟩ := hI
            have hd2 : d 2 = true := dep_of hdep 2 (by kernel_rfl)
            obtain rfl := hF.out.f2 hd2
            have e8_2 := hd2
            have hbl := hF.out.bl hd
            have x0 := block_cell hbl 0
            have x1 := block_cell hbl 1
            have x2 := block_cell hbl 2
            have f0 := block_free hbl 0
            have f1 := block_free hbl 1
            have f2 := block_free hbl 2
            simp only [List.getElem?_toArray, List.getElem?_cons_zero, List.getElem?_cons_succ] at x0 x1 x2
            have HBL : Hid (W.heap[w.heap.size + 2]? = some (.cells #[.int .i64 0, .string ⟨#[]⟩, .int .i64 0] 29 (0, 0))) := hbl
            clear hbl
            clear hdep hd hd2
            intro K hK
            simp only [Act.put, List.setIfInBounds_toArray, List.set_cons_zero, List.set_cons_succ]
            go_simp
            refine hK.out _ _ ⟨x7, x8, x54, x55, (.agg #[.int .i64 (ia : Int), .string bf, .int .i64 o]), x57, x58, x59, x60, x61, by simp only [Act.put, List.setIfInBounds_toArray, List.set_cons_zero, List.set_cons_succ], ?_⟩
            have hsame := same_three W (w.heap.size + 2) (.int .i64 (ia : Int)) (.string bf) (.int .i64 o)
            exact ⟨fun h => hF.out.f0 (by simpa using h), fun h => hF.out.f1 (by simpa using h), fun h => hF.out.f2 (by simpa using h), fun h => hF.out.f3 (by simpa using h), fun h => hF.out.f4 (by simpa using h), fun h => hF.out.f5 (by simpa using h), fun h => hF.out.f6 (by simpa using h), fun h => hF.out.f7 (by simpa using h), fun _ => trivial, fun h => hF.out.f9 (by simpa using h), fun h => hF.out.f10 (by simpa using h), fun _ => by simpa using e8_2, ((hF.out.bel.setCell (by simp <;> omega) _).setCell (by simp <;> omega) _).setCell (by simp <;> omega) _, ⟨hF.out.rd.row.of_block (hsame.2.2.2.2 g (by have := HGG.out; omega)), own_same hF.out.rd.own fun k hk => hsame.2.2.2.2 k (by have := (hF.out.rd.own.lt k hk).1; have := HGG.out; omega), hF.out.rd.lt, by rw [hsame.1]; exact hF.out.rd.sz⟩, fun h => by simp at h, fun _ => three HBL.out _ _ _⟩
          · intro d a W hI hd hdep
            obtain ⟨x7, x8, x54, x55, x56, x57, x58, x59, x60, x61, rfl, hF⟩ := hI
            have hd4 : d 4 = true := dep_of hdep 4 (by kernel_rfl)
            obtain rfl := hF.out.f4 hd4
            clear hdep hd hd4
            intro K hK
            simp only [Act.put, List.setIfInBounds_toArray, List.set_cons_zero, List.set_cons_succ]
            go_simp
            refine hK.out _ _ ⟨(.slice va ts.length vc), x8, x54, x55, x56, x57, (.slice va ts.length vc), x59, x60, x61, by simp only [Act.put, List.setIfInBounds_toArray, List.set_cons_zero, List.set_cons_succ], ?_⟩
            exact ⟨fun h => hF.out.f0 (by simpa using h), fun h => hF.out.f1 (by simpa using h), fun h => hF.out.f2 (by simpa using h), fun h => hF.out.f3 (by simpa using h), fun h => hF.out.f4 (by simpa using h), fun h => hF.out.f5 (by simpa using h), fun h => hF.out.f6 (by simpa using h), fun h => hF.out.f7 (by simpa using h), fun h => hF.out.f8 (by simpa using h), fun _ => rfl, fun h => hF.out.f10 (by simpa using h), fun h => by have := hF.out.q8_2 (by simpa using h); simpa using this, hF.out.bel, hF.out.rd, fun h => hF.out.bl (by simpa using h), fun h => hF.out.fin (by simpa using h)⟩
          · intro d a W hI hd hdep
            obtain ⟨x7, x8, x54, x55, x56, x57, x58, x59, x60, x61, rfl, hF⟩ := hI
            have hd7 : d 7 = true := dep_of hdep 7 (by kernel_rfl)
            obtain rfl := hF.out.f7 hd7
            clear hdep hd hd7
            intro K hK
            simp only [Act.put, List.setIfInBounds_toArray, List.set_cons_zero, List.set_cons_succ]
            go_simp
            refine hK.out _ _ ⟨x7, (.int .i64 o), x54, x55, x56, x57, x58, x59, x60, (.int .i64 o), by simp only [Act.put, List.setIfInBounds_toArray, List.set_cons_zero, List.set_cons_succ], ?_⟩
            exact ⟨fun h => hF.out.f0 (by simpa using h), fun h => hF.out.f1 (by simpa using h), fun h => hF.out.f2 (by simpa using h), fun h => hF.out.f3 (by simpa using h), fun h => hF.out.f4 (by simpa using h), fun h => hF.out.f5 (by simpa using h), fun h => hF.out.f6 (by simpa using h), fun h => hF.out.f7 (by simpa using h), fun h => hF.out.f8 (by simpa using h), fun h => hF.out.f9 (by simpa using h), fun _ => rfl, fun h => by have := hF.out.q8_2 (by simpa using h); simpa using this, hF.out.bel, hF.out.rd, fun h => hF.out.bl (by simpa using h), fun h => hF.out.fin (by simpa using h)⟩
        · intro d a W hI hall
          obtain ⟨x7, x8, x54, x55, x56, x57, x58, x59, x60, x61, rfl, hF⟩ := hI
          simp only [List.length_cons, List.length_nil] at hall
          obtain rfl := hF.out.f0 (hall 0 (by omega))
          obtain rfl := hF.out.f1 (hall 1 (by omega))
          obtain rfl := hF.out.f2 (hall 2 (by omega))
          obtain rfl := hF.out.f3 (hall 3 (by omega))
          obtain rfl := hF.out.f4 (hall 4 (by omega))
          obtain rfl := hF.out.f5 (hall 5 (by omega))
          obtain rfl := hF.out.f6 (hall 6 (by omega))
          obtain rfl := hF.out.f7 (hall 7 (by omega))
          obtain rfl := hF.out.f9 (hall 9 (by omega))
          obtain rfl := hF.out.f10 (hall 10 (by omega))
          have hfn := hF.out.fin (hall 8 (by omega))
          have HEN : Hid (HAns an w (.returned (.tuple #[(.agg #[.int .i64 (ia : Int), .string bf, .int .i64 o]), (.slice va ts.length vc), .int .i64 o])) o W) := ⟨ia, bf, _, ts, o, rfl, HAN.out, own_less hF.out.rd.own HBW.out, hF.out.bel⟩
          have y0 := block_cell hfn 0
          have y1 := block_cell hfn 1
          have y2 := block_cell hfn 2
          simp only [List.getElem?_toArray, List.getElem?_cons_zero, List.getElem?_cons_succ] at y0 y1 y2
          clear hF hall hfn
          simp only [Act.put, List.setIfInBounds_toArray, List.set_cons_zero, List.set_cons_succ]
          go_wp2_with fail
          refine bodyPost_ret (v := .tuple #[(.agg #[.int .i64 (ia : Int), .string bf, .int .i64 o]), (.slice va ts.length vc), .int .i64 o]) (by simp [results, Try.results5, go_sem, y0, y1, y2]) rfl ?_
          have e9 : er = o := by rw [← HER.out, HAN.out]
          rw [e9]
          exact HEN.out
    · have hk1 : ¬ (k : Int) < (s.size : Int) := by omega
      have HAN : Hid (an = (ia, bf.data.toList, ts, o)) := HFZ.out.ends (Or.inl (drop_all s k (by omega)))
      go_wp2_with fail
      refine wp_region_free mixed (fun a0 d a W => ∃ (x7 x8 x54 x55 x56 x57 x58 x59 x60 x61 : Value), a = ((((((((((a0.put (some 7) x7).put (some 8) x8).put (some 54) x54).put (some 55) x55).put (some 56) x56).put (some 57) x57).put (some 58) x58).put (some 59) x59).put (some 60) x60).put (some 61) x61) ∧ Hid (RG12 w O nv tv (g + 1) g (w.heap.size + 2) ia bf o va vc ts d x7 x8 x54 x55 x56 x57 x58 x59 x60 x61 W)) (by kernel_rfl) ⟨(.slice none 0 0), (.int .i64 0), undef, undef, undef, undef, undef, undef, undef, undef, by simp only [Act.put, List.setIfInBounds_toArray, List.set_cons_zero, List.set_cons_succ], ?_⟩ ?_ ?_
      · exact ⟨fun h => no_way h, fun h => no_way h, fun h => no_way h, fun h => no_way h, fun h => no_way h, fun h => no_way h, fun h => no_way h, fun h => no_way h, fun _ => trivial, fun h => no_way h, fun h => no_way h, fun h => no_way h, HFR.out.1.drew, HFR.out.2.1.drew, fun _ => HFR.out.2.2, fun h => no_way h⟩
      · simp only [StepAll, and_true]
        refine ⟨?_, ?_, ?_, ?_, ?_, ?_, ?_, ?_, ?_, ?_, ?_⟩
        · intro d a W hI hd hdep
          obtain ⟨x7, x8, x54, x55, x56, x57, x58, x59, x60, x61, rfl, hF⟩ := hI
          clear hdep hd
          intro K hK
          simp only [Act.put, List.setIfInBounds_toArray, List.set_cons_zero, List.set_cons_succ]
          go_simp
          refine hK.out _ _ ⟨x7, x8, (.pointer (some ⟨g, 258, none⟩)), x55, x56, x57, x58, x59, x60, x61, by simp only [Act.put, List.setIfInBounds_toArray, List.set_cons_zero, List.set_cons_succ], ?_⟩
          exact ⟨fun _ => rfl, fun h => hF.out.f1 (by simpa using h), fun h => hF.out.f2 (by simpa using h), fun h => hF.out.f3 (by simpa using h), fun h => hF.out.f4 (by simpa using h), fun h => hF.out.f5 (by simpa using h), fun h => hF.out.f6 (by simpa using h), fun h => hF.out.f7 (by simpa using h), fun h => hF.out.f8 (by simpa using h), fun h => hF.out.f9 (by simpa using h), fun h => hF.out.f10 (by simpa using h), fun h => by have := hF.out.q8_2 (by simpa using h); simpa using this, hF.out.bel, hF.out.rd, fun h => hF.out.bl (by simpa using h), fun h => hF.out.fin (by simpa using h)⟩
        · intro d a W hI hd hdep
          obtain ⟨x7, x8, x54, x55, x56, x57, x58, x59, x60, x61, rfl, hF⟩ := hI
          have hd0 : d 0 = true := dep_of hdep 0 (by kernel_rfl)
          obtain rfl := hF.out.f0 hd0
          have ya := hF.out.rd.c258
          have yb := hF.out.rd.c259
          have yc := hF.out.rd.c260
          clear hdep hd hd0
          intro K hK
          simp only [Act.put, List.setIfInBounds_toArray, List.set_cons_zero, List.set_cons_succ]
          go_simp
          refine hK.out _ _ ⟨x7, x8, (.pointer (some ⟨g, 258, none⟩)), (.agg #[.int .i64 (ia : Int), .string bf, .int .i64 o]), x56, x57, x58, x59, x60, x61, by simp only [Act.put, List.setIfInBounds_toArray, List.set_cons_zero, List.set_cons_succ], ?_⟩
          exact ⟨fun h => hF.out.f0 (by simpa using h), fun _ => rfl, fun h => hF.out.f2 (by simpa using h), fun h => hF.out.f3 (by simpa using h), fun h => hF.out.f4 (by simpa using h), fun h => hF.out.f5 (by simpa using h), fun h => hF.out.f6 (by simpa using h), fun h => hF.out.f7 (by simpa using h), fun h => hF.out.f8 (by simpa using h), fun h => hF.out.f9 (by simpa using h), fun h => hF.out.f10 (by simpa using h), fun h => by have := hF.out.q8_2 (by simpa using h); simpa using this, hF.out.bel, hF.out.rd, fun h => hF.out.bl (by simpa using h), fun h => hF.out.fin (by simpa using h)⟩
        · intro d a W hI hd hdep
          obtain ⟨x7, x8, x54, x55, x56, x57, x58, x59, x60, x61, rfl, hF⟩ := hI
          have hd1 : d 1 = true := dep_of hdep 1 (by kernel_rfl)
          obtain rfl := hF.out.f1 hd1
          have hcl := copied_any (ia : Int) bf o W HBF.out
          have HN8 : Hid (d 8 = false) := no_later hF.out.q8_2 hd
          clear hdep hd hd1
          intro K hK
          simp only [Act.put, List.setIfInBounds_toArray, List.set_cons_zero, List.set_cons_succ]
          go_simp
          refine hcl.mono ?_
          rintro _ W1 ⟨rfl, hb1⟩
          clear hcl
          go_simp
          refine hK.out _ _ ⟨x7, x8, x54, (.agg #[.int .i64 (ia : Int), .string bf, .int .i64 o]), (.agg #[.int .i64 (ia : Int), .string bf, .int .i64 o]), x57, x58, x59, x60, x61, by simp only [Act.put, List.setIfInBounds_toArray, List.set_cons_zero, List.set_cons_succ], ?_⟩
          exact ⟨fun h => hF.out.f0 (by simpa using h), fun h => hF.out.f1 (by simpa using h), fun _ => rfl, fun h => hF.out.f3 (by simpa using h), fun h => hF.out.f4 (by simpa using h), fun h => hF.out.f5 (by simpa using h), fun h => hF.out.f6 (by simpa using h), fun h => hF.out.f7 (by simpa using h), fun h => hF.out.f8 (by simpa using h), fun h => hF.out.f9 (by simpa using h), fun h => hF.out.f10 (by simpa using h), fun _ => by simp, hF.out.bel.trans (hb1.mono hF.out.bel.size), hF.out.rd.next hb1, fun _ => (hb1.block _ (Nat.lt_of_not_le fun x => by have := hF.out.bl HN8.out; rw [Array.getElem?_eq_none x] at this; cases this)).trans (hF.out.bl HN8.out), fun h => by have := HN8.out; simp [this] at h⟩
        · intro d a W hI hd hdep
          obtain ⟨x7, x8, x54, x55, x56, x57, x58, x59, x60, x61, rfl, hF⟩ := hI
          clear hdep hd
          intro K hK
          simp only [Act.put, List.setIfInBounds_toArray, List.set_cons_zero, List.set_cons_succ]
          go_simp
          refine hK.out _ _ ⟨x7, x8, x54, x55, x56, (.pointer (some ⟨g, 261, none⟩)), x58, x59, x60, x61, by simp only [Act.put, List.setIfInBounds_toArray, List.set_cons_zero, List.set_cons_succ], ?_⟩
          exact ⟨fun h => hF.out.f0 (by simpa using h), fun h => hF.out.f1 (by simpa using h), fun h => hF.out.f2 (by simpa using h), fun _ => rfl, fun h => hF.out.f4 (by simpa using h), fun h => hF.out.f5 (by simpa using h), fun h => hF.out.f6 (by simpa using h), fun h => hF.out.f7 (by simpa using h), fun h => hF.out.f8 (by simpa using h), fun h => hF.out.f9 (by simpa using h), fun h => hF.out.f10 (by simpa using h), fun h => by have := hF.out.q8_2 (by simpa using h); simpa using this, hF.out.bel, hF.out.rd, fun h => hF.out.bl (by simpa using h), fun h => hF.out.fin (by simpa using h)⟩
        · intro d a W hI hd hdep
          obtain ⟨x7, x8, x54, x55, x56, x57, x58, x59, x60, x61, rfl, hF⟩ := hI
          have hd3 : d 3 = true := dep_of hdep 3 (by kernel_rfl)
          obtain rfl := hF.out.f3 hd3
          have ya := hF.out.rd.c261
          clear hdep hd hd3
          intro K hK
          simp only [Act.put, List.setIfInBounds_toArray, List.set_cons_zero, List.set_cons_succ]
          go_simp
          refine hK.out _ _ ⟨x7, x8, x54, x55, x56, (.pointer (some ⟨g, 261, none⟩)), (.slice va ts.length vc), x59, x60, x61, by simp only [Act.put, List.setIfInBounds_toArray, List.set_cons_zero, List.set_cons_succ], ?_⟩
          exact ⟨fun h => hF.out.f0 (by simpa using h), fun h => hF.out.f1 (by simpa using h), fun h => hF.out.f2 (by simpa using h), fun h => hF.out.f3 (by simpa using h), fun _ => rfl, fun h => hF.out.f5 (by simpa using h), fun h => hF.out.f6 (by simpa using h), fun h => hF.out.f7 (by simpa using h), fun h => hF.out.f8 (by simpa using h), fun h => hF.out.f9 (by simpa using h), fun h => hF.out.f10 (by simpa using h), fun h => by have := hF.out.q8_2 (by simpa using h); simpa using this, hF.out.bel, hF.out.rd, fun h => hF.out.bl (by simpa using h), fun h => hF.out.fin (by simpa using h)⟩
        · intro d a W hI hd hdep
          obtain ⟨x7, x8, x54, x55, x56, x57, x58, x59, x60, x61, rfl, hF⟩ := hI
          clear hdep hd
          intro K hK
          simp only [Act.put, List.setIfInBounds_toArray, List.set_cons_zero, List.set_cons_succ]
          go_simp
          refine hK.out _ _ ⟨x7, x8, x54, x55, x56, x57, x58, (.pointer (some ⟨g, 258, none⟩)), x60, x61, by simp only [Act.put, List.setIfInBounds_toArray, List.set_cons_zero, List.set_cons_succ], ?_⟩
          exact ⟨fun h => hF.out.f0 (by simpa using h), fun h => hF.out.f1 (by simpa using h), fun h => hF.out.f2 (by simpa using h), fun h => hF.out.f3 (by simpa using h), fun h => hF.out.f4 (by simpa using h), fun _ => rfl, fun h => hF.out.f6 (by simpa using h), fun h => hF.out.f7 (by simpa using h), fun h => hF.out.f8 (by simpa using h), fun h => hF.out.f9 (by simpa using h), fun h => hF.out.f10 (by simpa using h), fun h => by have := hF.out.q8_2 (by simpa using h); simpa using this, hF.out.bel, hF.out.rd, fun h => hF.out.bl (by simpa using h), fun h => hF.out.fin (by simpa using h)⟩
        · intro d a W hI hd hdep
          obtain ⟨x7, x8, x54, x55, x56, x57, x58, x59, x60, x61, rfl, hF⟩ := hI
          have hd5 : d 5 = true := dep_of hdep 5 (by kernel_rfl)
          obtain rfl := hF.out.f5 hd5
          clear hdep hd hd5
          intro K hK
          simp only [Act.put, List.setIfInBounds_toArray, List.set_cons_zero, List.set_cons_succ]
          go_simp
          refine hK.out _ _ ⟨x7, x8, x54, x55, x56, x57, x58, (.pointer (some ⟨g, 258, none⟩)), (.pointer (some ⟨g, 260, none⟩)), x61, by simp only [Act.put, List.setIfInBounds_toArray, List.set_cons_zero, List.set_cons_succ], ?_⟩
          exact ⟨fun h => hF.out.f0 (by simpa using h), fun h => hF.out.f1 (by simpa using h), fun h => hF.out.f2 (by simpa using h), fun h => hF.out.f3 (by simpa using h), fun h => hF.out.f4 (by simpa using h), fun h => hF.out.f5 (by simpa using h), fun _ => rfl, fun h => hF.out.f7 (by simpa using h), fun h => hF.out.f8 (by simpa using h), fun h => hF.out.f9 (by simpa using h), fun h => hF.out.f10 (by simpa using h), fun h => by have := hF.out.q8_2 (by simpa using h); simpa using this, hF.out.bel, hF.out.rd, fun h => hF.out.bl (by simpa using h), fun h => hF.out.fin (by simpa using h)⟩
        · intro d a W hI hd hdep
          obtain ⟨x7, x8, x54, x55, x56, x57, x58, x59, x60, x61, rfl, hF⟩ := hI
          have hd6 : d 6 = true := dep_of hdep 6 (by kernel_rfl)
          obtain rfl := hF.out.f6 hd6
          have ya := hF.out.rd.c260
          clear hdep hd hd6
          intro K hK
          simp only [Act.put, List.setIfInBounds_toArray, List.set_cons_zero, List.set_cons_succ]
          go_simp
          refine hK.out _ _ ⟨x7, x8, x54, x55, x56, x57, x58, x59, (.pointer (some ⟨g, 260, none⟩)), (.int .i64 o), by simp only [Act.put, List.setIfInBounds_toArray, List.set_cons_zero, List.set_cons_succ], ?_⟩
          exact ⟨fun h => hF.out.f0 (by simpa using h), fun h => hF.out.f1 (by simpa using h), fun h => hF.out.f2 (by simpa using h), fun h => hF.out.f3 (by simpa using h), fun h => hF.out.f4 (by simpa using h), fun h => hF.out.f5 (by simpa using h), fun h => hF.out.f6 (by simpa using h), fun _ => rfl, fun h => hF.out.f8 (by simpa using h), fun h => hF.out.f9 (by simpa using h), fun h => hF.out.f10 (by simpa using h), fun h => by have := hF.out.q8_2 (by simpa using h); simpa using this, hF.out.bel, hF.out.rd, fun h => hF.out.bl (by simpa using h), fun h => hF.out.fin (by simpa using h)⟩
        · intro d a W hI hd hdep
          obtain ⟨x7, x8, x54, x55, x56, x57, x58, x59, x60, x61, rfl, hF⟩ := hI
          have hd2 : d 2 = true := dep_of hdep 2 (by kernel_rfl)
          obtain rfl := hF.out.f2 hd2
          have e8_2 := hd2
          have hbl := hF.out.bl hd
          have x0 := block_cell hbl 0
          have x1 := block_cell hbl 1
          have x2 := block_cell hbl 2
          have f0 := block_free hbl 0
          have f1 := block_free hbl 1
          have f2 := block_free hbl 2
          simp only [List.getElem?_toArray, List.getElem?_cons_zero, List.getElem?_cons_succ] at x0 x1 x2
          have HBL : Hid (W.heap[w.heap.size + 2]? = some (.cells #[.int .i64 0, .string ⟨#[]⟩, .int .i64 0] 29 (0, 0))) := hbl
          clear hbl
          clear hdep hd hd2
          intro K hK
          simp only [Act.put, List.setIfInBounds_toArray, List.set_cons_zero, List.set_cons_succ]
          go_simp
          refine hK.out _ _ ⟨x7, x8, x54, x55, (.agg #[.int .i64 (ia : Int), .string bf, .int .i64 o]), x57, x58, x59, x60, x61, by simp only [Act.put, List.setIfInBounds_toArray, List.set_cons_zero, List.set_cons_succ], ?_⟩
          have hsame := same_three W (w.heap.size + 2) (.int .i64 (ia : Int)) (.string bf) (.int .i64 o)
          exact ⟨fun h => hF.out.f0 (by simpa using h), fun h => hF.out.f1 (by simpa using h), fun h => hF.out.f2 (by simpa using h), fun h => hF.out.f3 (by simpa using h), fun h => hF.out.f4 (by simpa using h), fun h => hF.out.f5 (by simpa using h), fun h => hF.out.f6 (by simpa using h), fun h => hF.out.f7 (by simpa using h), fun _ => trivial, fun h => hF.out.f9 (by simpa using h), fun h => hF.out.f10 (by simpa using h), fun _ => by simpa using e8_2, ((hF.out.bel.setCell (by simp <;> omega) _).setCell (by simp <;> omega) _).setCell (by simp <;> omega) _, ⟨hF.out.rd.row.of_block (hsame.2.2.2.2 g (by have := HGG.out; omega)), own_same hF.out.rd.own fun k hk => hsame.2.2.2.2 k (by have := (hF.out.rd.own.lt k hk).1; have := HGG.out; omega), hF.out.rd.lt, by rw [hsame.1]; exact hF.out.rd.sz⟩, fun h => by simp at h, fun _ => three HBL.out _ _ _⟩
        · intro d a W hI hd hdep
          obtain ⟨x7, x8, x54, x55, x56, x57, x58, x59, x60, x61, rfl, hF⟩ := hI
          have hd4 : d 4 = true := dep_of hdep 4 (by kernel_rfl)
          obtain rfl := hF.out.f4 hd4
          clear hdep hd hd4
          intro K hK
          simp only [Act.put, List.setIfInBounds_toArray, List.set_cons_zero, List.set_cons_succ]
          go_simp
          refine hK.out _ _ ⟨(.slice va ts.length vc), x8, x54, x55, x56, x57, (.slice va ts.length vc), x59, x60, x61, by simp only [Act.put, List.setIfInBounds_toArray, List.set_cons_zero, List.set_cons_succ], ?_⟩
          exact ⟨fun h => hF.out.f0 (by simpa using h), fun h => hF.out.f1 (by simpa using h), fun h => hF.out.f2 (by simpa using h), fun h => hF.out.f3 (by simpa using h), fun h => hF.out.f4 (by simpa using h), fun h => hF.out.f5 (by simpa using h), fun h => hF.out.f6 (by simpa using h), fun h => hF.out.f7 (by simpa using h), fun h => hF.out.f8 (by simpa using h), fun _ => rfl, fun h => hF.out.f10 (by simpa using h), fun h => by have := hF.out.q8_2 (by simpa using h); simpa using this, hF.out.bel, hF.out.rd, fun h => hF.out.bl (by simpa using h), fun h => hF.out.fin (by simpa using h)⟩
        · intro d a W hI hd hdep
          obtain ⟨x7, x8, x54, x55, x56, x57, x58, x59, x60, x61, rfl, hF⟩ := hI
          have hd7 : d 7 = true := dep_of hdep 7 (by kernel_rfl)
          obtain rfl := hF.out.f7 hd7
          clear hdep hd hd7
          intro K hK
          simp only [Act.put, List.setIfInBounds_toArray, List.set_cons_zero, List.set_cons_succ]
          go_simp
          refine hK.out _ _ ⟨x7, (.int .i64 o), x54, x55, x56, x57, x58, x59, x60, (.int .i64 o), by simp only [Act.put, List.setIfInBounds_toArray, List.set_cons_zero, List.set_cons_succ], ?_⟩
          exact ⟨fun h => hF.out.f0 (by simpa using h), fun h => hF.out.f1 (by simpa using h), fun h => hF.out.f2 (by simpa using h), fun h => hF.out.f3 (by simpa using h), fun h => hF.out.f4 (by simpa using h), fun h => hF.out.f5 (by simpa using h), fun h => hF.out.f6 (by simpa using h), fun h => hF.out.f7 (by simpa using h), fun h => hF.out.f8 (by simpa using h), fun h => hF.out.f9 (by simpa using h), fun _ => rfl, fun h => by have := hF.out.q8_2 (by simpa using h); simpa using this, hF.out.bel, hF.out.rd, fun h => hF.out.bl (by simpa using h), fun h => hF.out.fin (by simpa using h)⟩
      · intro d a W hI hall
        obtain ⟨x7, x8, x54, x55, x56, x57, x58, x59, x60, x61, rfl, hF⟩ := hI
        simp only [List.length_cons, List.length_nil] at hall
        obtain rfl := hF.out.f0 (hall 0 (by omega))
        obtain rfl := hF.out.f1 (hall 1 (by omega))
        obtain rfl := hF.out.f2 (hall 2 (by omega))
        obtain rfl := hF.out.f3 (hall 3 (by omega))
        obtain rfl := hF.out.f4 (hall 4 (by omega))
        obtain rfl := hF.out.f5 (hall 5 (by omega))
        obtain rfl := hF.out.f6 (hall 6 (by omega))
        obtain rfl := hF.out.f7 (hall 7 (by omega))
        obtain rfl := hF.out.f9 (hall 9 (by omega))
        obtain rfl := hF.out.f10 (hall 10 (by omega))
        have hfn := hF.out.fin (hall 8 (by omega))
        have HEN : Hid (HAns an w (.returned (.tuple #[(.agg #[.int .i64 (ia : Int), .string bf, .int .i64 o]), (.slice va ts.length vc), .int .i64 o])) o W) := ⟨ia, bf, _, ts, o, rfl, HAN.out, own_less hF.out.rd.own HBW.out, hF.out.bel⟩
        have y0 := block_cell hfn 0
        have y1 := block_cell hfn 1
        have y2 := block_cell hfn 2
        simp only [List.getElem?_toArray, List.getElem?_cons_zero, List.getElem?_cons_succ] at y0 y1 y2
        clear hF hall hfn
        simp only [Act.put, List.setIfInBounds_toArray, List.set_cons_zero, List.set_cons_succ]
        go_wp2_with fail
        refine bodyPost_ret (v := .tuple #[(.agg #[.int .i64 (ia : Int), .string bf, .int .i64 o]), (.slice va ts.length vc), .int .i64 o]) (by simp [results, Try.results5, go_sem, y0, y1, y2]) rfl ?_
        have e9 : er = o := by rw [← HER.out, HAN.out]
        rw [e9]
        exact HEN.out
end Go.Proofs.Ytcdnbkfjiigdmaa
