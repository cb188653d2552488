/-
  The contract of pushref.FeedText.
-/
import Derived.Test.YtcdnbkfjiigdmaaFdRefEnd
namespace Go.Proofs.Ytcdnbkfjiigdmaa
open Go.RowKit
open Dfa

/-- What is held in block b1; the tokens lie at B or above. -/
structure Hd (B b1 ia : Nat) (bf : ByteArray) (v : Value) (ts : List (Int × Nat × Nat)) (W : World) : Prop where
  hb : W.heap[b1]? = some (.cells #[.int .i64 (ia : Int), .string bf, .int .i64 0] 29 (0, 0))
  own : W.ownsRow B 37 3 v ts.length (tcs ts)
  lt : b1 < B
  sz : B ≤ W.heap.size
section
variable {B b1 ia : Nat} {bf : ByteArray} {v : Value} {ts : List (Int × Nat × Nat)} {W W' : World}
theorem Hd.c0 (h : Hd B b1 ia bf v ts W) : W.cell? ⟨b1, 0, none⟩ = some (.int .i64 (ia : Int)) := by rw [block_cell h.hb]; rfl
theorem Hd.c1 (h : Hd B b1 ia bf v ts W) : W.cell? ⟨b1, 1, none⟩ = some (.string bf) := by rw [block_cell h.hb]; rfl
theorem Hd.c2 (h : Hd B b1 ia bf v ts W) : W.cell? ⟨b1, 2, none⟩ = some (.int .i64 0) := by rw [block_cell h.hb]; rfl
theorem Hd.next (h : Hd B b1 ia bf v ts W) (hb : Below W.heap.size W W') : Hd B b1 ia bf v ts W' :=
  ⟨(hb.block _ (Nat.lt_of_lt_of_le h.lt h.sz)).trans h.hb, own_same h.own fun k hk => hb.block k (h.own.lt k hk).2, h.lt, Nat.le_trans h.sz hb.size⟩
theorem Hd.drew (h : Hd B b1 ia bf v ts W) : Hd B b1 ia bf v ts W.drew := h.next (Below.refl _ _).drew
theorem Hd.setBuf (h : Hd B b1 ia bf v ts W) (s : ByteArray) : Hd B b1 ia s v ts (W.setCell ⟨b1, 1, none⟩ (.string s)) :=
  ⟨block_store (i := 1) h.hb _, own_set h.own h.lt _ _, h.lt, by rw [size_set1]; exact h.sz⟩
theorem Hd.put (h : Hd B b1 ia bf v ts W) (z : Nat) (s : ByteArray) : Hd B b1 (ia + z) s v ts (((W.setCell ⟨b1, 0, none⟩ (.int .i64 ((ia : Int) + (z : Int)))).setCell ⟨b1, 1, none⟩ (.string s)).setCell ⟨b1, 2, none⟩ (.int .i64 0)) :=
  ⟨by rw [show ((ia + z : Nat) : Int) = (ia : Int) + (z : Int) by omega]; exact three h.hb _ _ _, own_set (own_set (own_set h.own h.lt _ _) h.lt _ _) h.lt _ _, h.lt, by rw [size_set1, size_set1, size_set1]; exact h.sz⟩
end
/-- The text that waits, as a number of bytes. -/
def hbuf (w : World) (g : Nat) : Nat := match w.cell? ⟨g, 1, none⟩ with
  | some (.string s) => s.size
  | _ => 0
theorem hbuf_at {w : World} {g : Nat} {s : ByteArray} (h : w.cell? ⟨g, 1, none⟩ = some (.string s)) : hbuf w g = s.size := by unfold hbuf; rw [h]
structure RX6 (w1 : World) (B b1 ia k : Nat) (bf s : ByteArray) (v : Value) (ts : List (Int × Nat × Nat)) (d : Nat → Bool) (x22 x23 x24 x25 x26 x27 x28 x29 x30 : Value) (W : World) : Prop where
  f0 : d 0 = true → x22 = (.pointer (some ⟨b1, 1, none⟩))
  f1 : d 1 = true → x23 = (.string bf)
  f2 : d 2 = true → x24 = (.string s)
  f3 : d 3 = true → x25 = (.int .i64 (k : Int))
  f4 : d 4 = true → x26 = (.int .i64 (k : Int))
  f5 : d 5 = true → x27 = (.int .i64 ((k : Int) + 1))
  f6 : d 6 = true → x28 = (.string (s.extract k (k + 1)))
  f7 : d 7 = true → x29 = (.string (bf ++ s.extract k (k + 1)))
  f8 : d 8 = true → x30 = (.pointer (some ⟨b1, 1, none⟩))
  f9 : d 9 = true → True
  o7_1 : d 7 = true → d 1 = true
  q9_7 : d 9 = true → d 7 = true
  kk : Mk B b1 w1 W
  rd : d 9 = false → Hd B b1 ia bf v ts W
  fin : d 9 = true → Hd B b1 ia (bf ++ s.extract k (k + 1)) v ts W

structure RX12 (w1 : World) (B b1 ia z : Nat) (bf : ByteArray) (v : Value) (ts : List (Int × Nat × Nat)) (d : Nat → Bool) (x64 x65 x66 x67 x68 x69 x70 x71 x72 : Value) (W : World) : Prop where
  f0 : d 0 = true → x64 = (.pointer (some ⟨b1, 0, none⟩))
  f1 : d 1 = true → x65 = (.int .i64 (ia : Int))
  f2 : d 2 = true → x66 = (.int .i64 (z : Int))
  f3 : d 3 = true → x67 = (.int .i64 ((ia : Int) + (z : Int)))
  f4 : d 4 = true → x68 = (.pointer (some ⟨b1, 1, none⟩))
  f5 : d 5 = true → x69 = (.string bf)
  f6 : d 6 = true → x70 = (.int .i64 (z : Int))
  f7 : d 7 = true → x71 = (.string (bf.extract z bf.size))
  f8 : d 8 = true → x72 = (.agg #[.int .i64 ((ia : Int) + (z : Int)), .string (bf.extract z bf.size), .int .i64 0])
  f9 : d 9 = true → True
  o3_1 : d 3 = true → d 1 = true
  o7_5 : d 7 = true → d 5 = true
  o8_3 : d 8 = true → d 3 = true
  o8_7 : d 8 = true → d 7 = true
  q9_8 : d 9 = true → d 8 = true
  kk : Mk B b1 w1 W
  rd : d 9 = false → Hd B b1 ia bf v ts W
  fin : d 9 = true → Hd B b1 (ia + z) (bf.extract z bf.size) v ts W

set_option maxHeartbeats 16000000 in
set_option maxRecDepth 20000 in
theorem refText_ok (O : Nat → Nat) (nv tv : Value) (n : Nat) (L : Nat → Nat) (X : Nat → Nat → Int) (T : Nat → Int) (at0 : Nat) (b0 s : ByteArray) (w : World) (hO : ∀ j, O j < 256) (hx : Nx w nv n L X) (ht : Ts w tv n T) (hok : chkP n n O L X T = 0) (ha : at0 ≤ 1099511627776) (hb : b0.size ≤ 64) (hs : s.size ≤ 2000) :
    Calls Try.prog 9 #[.agg (pl O nv tv).toArray, .agg #[.int .i64 (at0 : Int), .string b0, .int .i64 0], .string s] w fun e w' => HAns (fd (RR n O X) T L X s.data.toList at0 b0.data.toList []) w e (fd (RR n O X) T L X s.data.toList at0 b0.data.toList []).2.2.2 w' := by
  have hF0 := Fz.start (R := RR n O X) (T := T) (L := L) (X := X) s.data.toList at0 b0.data.toList []
  obtain ⟨an, HA⟩ : ∃ q, Hid (fd (RR n O X) T L X s.data.toList at0 b0.data.toList [] = q) := ⟨_, (rfl : _ = _)⟩
  rw [HA.out] at hF0 ⊢
  obtain ⟨er, HER⟩ : ∃ q, Hid (an.2.2.2 = q) := ⟨_, (rfl : _ = _)⟩
  rw [HER.out]
  obtain ⟨hn0, -⟩ := chkP_zero hok
  obtain ⟨i0, hi, hz0, hz1, hz2⟩ := info_parts info37
  have H37 : Hid (Try.prog.info? 37 = some i0 ∧ i0.zero = some (.agg #[.int .i64 0, .int .i64 0, .int .i64 0]) ∧ i0.size = 3 ∧ i0.bytes = 24) := ⟨hi, hz0, hz1, hz2⟩
  clear hi hz0 hz1 hz2
  obtain ⟨ta, tc, rfl, -⟩ := id ht
  have HLN : Hid ((pl O nv (.slice ta n tc)).length = 258) := pl_length _ _ _
  have HTSW : Hid (∀ W, Below w.heap.size w W → Ts W (.slice ta n tc) n T) := fun W hB => ht.below hB (Nat.le_refl _)
  have HSTK : Hid (∀ (b : ByteArray) (W : World), b.size ≤ 2000 → Below w.heap.size w W → Calls Try.prog 18 #[.agg (pl O nv (.slice ta n tc)).toArray, .string b] W fun e w' => e = .returned (.bool (stk (RR n O X) L X b.data.toList)) ∧ Below W.heap.size W w') := fun b W hs hB => stuck_any O nv (.slice ta n tc) n L X T b W hO (hx.below hB (Nat.le_refl _)) (ht.below hB (Nat.le_refl _)) hok hs
  have HROK : Hid (rowsOk n (RR n O X) = true) := rowsOk_RR hok
  have HN0 : Hid (0 < n) := hn0
  obtain ⟨w3, HW3⟩ : ∃ q, Hid (((w.alloc (Obj.cells (pl O nv (.slice ta n tc)).toArray 26)).alloc (Obj.cells #[.int .i64 (at0 : Int), .string b0, .int .i64 0] 29)).alloc (Obj.cells #[.int .i64 0, .string ⟨#[]⟩, .int .i64 0] 29) = q) := ⟨_, (rfl : _ = _)⟩
  have hB3 : Below w.heap.size w w3 := by rw [← HW3.out]; exact (((Below.refl _ _).alloc (Nat.le_refl _) _).alloc (by simp) _).alloc (by simp <;> omega) _
  have hwd := wide_ok O nv (.slice ta n tc) n L X T w3 (hx.below hB3 (Nat.le_refl _)) (ht.below hB3 (Nat.le_refl _)) hok
  have hwr : (fun i j => if i < n ∧ j < 256 then X i (O j) else 0) = RR n O X := rfl
  rw [hwr] at hwd
  obtain ⟨R, HR⟩ : ∃ q, Hid (RR n O X = q) := ⟨_, (rfl : _ = _)⟩
  rw [HR.out] at hF0 HSTK HROK hwd
  obtain ⟨l, HLL⟩ : ∃ l, Hid (pl O nv (.slice ta n tc) = l) := ⟨_, (rfl : _ = _)⟩
  rw [HLL.out] at HLN HSTK HW3 hwd ⊢
  have HSI : Hid ((Try.prog.info? 26).map (·.size) = some l.length) := by show _ = _; rw [HLN.out]; exact size26
  have hg0 : w3.rangeAt w.heap.size 0 l := by
    rw [← HW3.out]
    intro j u hu
    exact Go.Lib.cell?_alloc_some _ (Go.Lib.cell?_alloc_some _ (range_block w l 26 j u hu))
  have hg1 : w3.heap[w.heap.size + 1]? = some (.cells #[.int .i64 (at0 : Int), .string b0, .int .i64 0] 29 (0, 0)) := by
    have := heap_alloc_new (w.alloc (Obj.cells l.toArray 26)) (Obj.cells #[.int .i64 (at0 : Int), .string b0, .int .i64 0] 29)
    rw [World.size_alloc] at this
    rw [← HW3.out]; exact (Below.heap_alloc _ _ _ (by simp)).trans this
  have hg2 : w3.heap[w.heap.size + 2]? = some (.cells #[.int .i64 0, .string ⟨#[]⟩, .int .i64 0] 29 (0, 0)) := by
    have := heap_alloc_new ((w.alloc (Obj.cells l.toArray 26)).alloc (Obj.cells #[.int .i64 (at0 : Int), .string b0, .int .i64 0] 29)) (Obj.cells #[.int .i64 0, .string ⟨#[]⟩, .int .i64 0] 29)
    rw [World.size_alloc, World.size_alloc] at this
    rw [← HW3.out]; exact this
  have hs3 : w3.heap.size = w.heap.size + 3 := by rw [← HW3.out]; simp
  have HG3 : Hid (w3.rangeAt w.heap.size 0 l ∧ w3.heap[w.heap.size + 1]? = some (.cells #[.int .i64 (at0 : Int), .string b0, .int .i64 0] 29 (0, 0)) ∧ w3.heap[w.heap.size + 2]? = some (.cells #[.int .i64 0, .string ⟨#[]⟩, .int .i64 0] 29 (0, 0)) ∧ w3.heap.size = w.heap.size + 3 ∧ Below w.heap.size w w3) := ⟨hg0, hg1, hg2, hs3, hB3⟩
  have HF0 : Hid (Fz R T L X s.data.toList 0 at0 b0.data.toList [] 0 an) := hF0
  clear hO hx ht hok hg0 hg1 hg2 hs3 hB3 hF0 HA hwr hn0
  go_enter Try.func9, Try.ntmps9
  go_upto_region 1 with fail
  rw [HW3.out]
  clear HW3
  go_wp2_with (refine wpList_load_mid rfl 26 _ rfl w.heap.size 0 rfl l _ HG3.out.1 Try.underlying26 rfl HSI.out ?_)
  refine hwd.mono ?_
  rintro _ w4 ⟨rv, rfl, hrw, hown5, hbb⟩
  obtain ⟨ra5, rc5, hre, -⟩ := id hrw
  subst hre
  clear hwd
  have hbx := (Below.refl w4.heap.size w4).alloc (Nat.le_refl _) (Obj.cells #[.slice ra5 n rc5, .slice ta n tc] 51)
  have hbA : Below w3.heap.size w3 (w4.alloc (Obj.cells #[.slice ra5 n rc5, .slice ta n tc] 51)) := hbb.trans (hbx.mono hbb.size)
  have d0 : (w4.alloc (Obj.cells #[.slice ra5 n rc5, .slice ta n tc] 51)).cell? ⟨w4.heap.size, 0, none⟩ = some (.slice ra5 n rc5) := by simp
  have d1 : (w4.alloc (Obj.cells #[.slice ra5 n rc5, .slice ta n tc] 51)).cell? ⟨w4.heap.size, 1, none⟩ = some (.slice ta n tc) := by simp
  have hz4 : (w4.alloc (Obj.cells #[.slice ra5 n rc5, .slice ta n tc] 51)).heap.size = w4.heap.size + 1 := by simp
  have hs4 : w.heap.size + 3 ≤ w4.heap.size := by have := hbb.size; have := HG3.out.2.2.2.1; omega
  have HRWB0 : Hid (∀ W, (∀ b, (.slice ra5 n rc5 : Value).ownBlock = some b → b < w4.heap.size → W.heap[b]? = w4.heap[b]?) → w4.heap.size ≤ W.heap.size → Rw W (.slice ra5 n rc5) n R) := fun W h1 h2 => by
    obtain ⟨ao, cp, e, hm, hwf, h | ⟨b, oo, rfl, q2, q3⟩⟩ := hrw
    · exact absurd h (by have := HN0.out; omega)
    · simp only [Value.slice.injEq] at e
      obtain ⟨rfl, -, rfl⟩ := e
      exact ⟨_, _, rfl, hm, hwf, Or.inr ⟨b, oo, rfl, Nat.lt_of_lt_of_le q2 h2, fun i hi j hj => (cell_same (h1 b rfl q2) _).trans (q3 i hi j hj)⟩⟩
  have HBLK : Hid (∀ b, (.slice ra5 n rc5 : Value).ownBlock = some b → w3.heap.size ≤ b) := hown5
  obtain ⟨gd, HGE⟩ : ∃ q, Hid (w4.heap.size = q) := ⟨_, (rfl : _ = _)⟩
  obtain ⟨wB, HWB⟩ : ∃ q, Hid (w4.alloc (Obj.cells #[.slice ra5 n rc5, .slice ta n tc] 51) = q) := ⟨_, (rfl : _ = _)⟩
  rw [HWB.out] at hbx hbA d0 d1 hz4
  rw [HGE.out] at d0 d1 hz4 hs4
  obtain ⟨B, HBEQ⟩ : ∃ q, Hid (q = gd + 1) := ⟨_, (rfl : _ = _)⟩
  have HB1E : Hid (w.heap.size + 1 = w.heap.size + 1) := (rfl : _ = _)
  have HGD : Hid (w.heap.size + 2 < gd ∧ gd < B) := ⟨by omega, by have := HBEQ.out; omega⟩
  have HB2 : Hid (w.heap.size + 2 < B) := by show _ < _; have := HBEQ.out; omega
  have HBB : Hid (w.heap.size ≤ B) := by show _ ≤ _; have := HBEQ.out; omega
  have HD0 : Hid (wB.cell? ⟨gd, 0, none⟩ = some (.slice ra5 n rc5) ∧ wB.cell? ⟨gd, 1, none⟩ = some (.slice ta n tc)) := ⟨d0, d1⟩
  have HBW : Hid (Below w.heap.size w wB) := HG3.out.2.2.2.2.trans (hbA.mono HG3.out.2.2.2.2.size)
  have HZB : Hid (wB.heap[w.heap.size + 2]? = some (.cells #[.int .i64 0, .string ⟨#[]⟩, .int .i64 0] 29 (0, 0))) := (hbA.block _ (by have := HG3.out.2.2.2.1; omega)).trans HG3.out.2.2.1
  have HRGB : Hid (wB.rangeAt w.heap.size 0 l) := fun j u hu => (hbA.cell (p := ⟨w.heap.size, 0 + j, none⟩) (by have := HG3.out.2.2.2.1; simp; omega)).trans (HG3.out.1 j u hu)
  have HHD : Hid (Hd B (w.heap.size + 1) at0 b0 (.slice none 0 0) [] wB) := ⟨(hbA.block _ (by have := HG3.out.2.2.2.1; omega)).trans HG3.out.2.1, World.ownsRow_nil _ _ _ _, by have := HB1E.out; have := HB2.out; omega, by have := HBEQ.out; omega⟩
  have HRWB : Hid (∀ W, Mk B (w.heap.size + 1) wB W → Rw W (.slice ra5 n rc5) n R) := fun W hm => HRWB0.out W (fun b hb1 hb2 => (hm.blk b (by have := HGE.out; have := HBEQ.out; omega) (fun e => by have := HBLK.out b hb1; have := HB1E.out; have := HG3.out.2.2.2.1; omega)).trans (hbx.block b hb2)) (by have := hm.size; have := HGE.out; omega)
  clear hrw hbb hbx hbA d0 d1 hz4 hs4 HRWB0 HBLK HG3
  go_wp2_with fail
  rw [HWB.out, HGE.out]
  clear HWB HGE
  go_loopw [10, 11] (fun v i wr => ∃ (k ia : Nat) (bf : ByteArray) (ts : List (Int × Nat × Nat)), i = .int .i64 (k : Int) ∧ k ≤ s.size ∧ Hd B (w.heap.size + 1) ia bf v ts wr ∧ Mk B (w.heap.size + 1) wB wr ∧ Fz R T L X s.data.toList k ia bf.data.toList ts 0 an ∧ ia + bf.size ≤ at0 + 64 + k ∧ ts.length + at0 ≤ ia ∧ bf.size ≤ 64) (fun _ i _ => s.size - (intOf i).toNat)
  case atStart => exact ⟨0, at0, b0, [], rfl, by omega, HHD.out, Mk.refl _ _ _, HF0.out, by omega, by simp, hb⟩
  case round =>
    clear HHD HF0
    obtain ⟨k, ia, bf, ts, rfl, hk, hhd, hmk, hfz, hq1, hq2, hq3⟩ := hrel
    obtain ⟨va, vc, rfl⟩ := own_form hhd.own
    have HMK : Hid (Mk B (w.heap.size + 1) wB wr) := hmk
    have HFZ : Hid (Fz R T L X s.data.toList k ia bf.data.toList ts 0 an) := hfz
    have HRD : Hid (Hd B (w.heap.size + 1) ia bf (.slice va ts.length vc) ts wr) := hhd
    clear hmk hfz hhd
    by_cases hlt : k < s.size
    · have hk1 : (k : Int) < (s.size : Int) := by omega
      have HWR : Hid (IntKind.i64.wrap ((k : Int) + 1) = (k : Int) + 1) := by show _ = _; rw [show (k : Int) + 1 = ((k + 1 : Nat) : Int) by omega]; exact wrap_small (by omega)
      have HCT : Hid (∀ w, (Op.stringOp .add bf (s.extract k (k + 1))).run Try.prog w = .ok (.string (bf ++ s.extract k (k + 1))) w) := fun w => run_string_add_sum w bf _ (by simp; omega)
      have HSL : Hid (∀ w, (Instr.slice 9 (.string s) (some (.int .i64 (k : Int))) (some (.int .i64 ((k : Int) + 1))) none).run Try.prog w = .ok (.string (s.extract k (k + 1))) w) := fun w => slice_one s k hlt w
      go_wp2_with fail
      refine wp_region_free mixed (fun a0 d a W => ∃ (x22 x23 x24 x25 x26 x27 x28 x29 x30 : Value), a = (((((((((a0.put (some 22) x22).put (some 23) x23).put (some 24) x24).put (some 25) x25).put (some 26) x26).put (some 27) x27).put (some 28) x28).put (some 29) x29).put (some 30) x30) ∧ Hid (RX6 wr B (w.heap.size + 1) ia k bf s (.slice va ts.length vc) ts d x22 x23 x24 x25 x26 x27 x28 x29 x30 W)) (by kernel_rfl) ⟨u22, u23, u24, u25, u26, u27, u28, u29, u30, by simp only [Act.put, List.setIfInBounds_toArray, List.set_cons_zero, List.set_cons_succ], ?_⟩ ?_ ?_
      · exact ⟨fun h => no_way h, fun h => no_way h, fun h => no_way h, fun h => no_way h, fun h => no_way h, fun h => no_way h, fun h => no_way h, fun h => no_way h, fun h => no_way h, fun _ => trivial, fun h => no_way h, fun h => no_way h, (Mk.refl _ _ _).drew, fun _ => HRD.out.drew, fun h => no_way h⟩
      · simp only [StepAll, and_true]
        refine ⟨?_, ?_, ?_, ?_, ?_, ?_, ?_, ?_, ?_, ?_⟩
        · intro d a W hI hd hdep
          obtain ⟨x22, x23, x24, x25, x26, x27, x28, x29, x30, rfl, hF⟩ := hI
          clear hdep hd
          intro K hK
          simp only [Act.put, List.setIfInBounds_toArray, List.set_cons_zero, List.set_cons_succ]
          go_simp
          refine hK.out _ _ ⟨(.pointer (some ⟨(w.heap.size + 1), 1, none⟩)), x23, x24, x25, x26, x27, x28, x29, x30, by simp only [Act.put, List.setIfInBounds_toArray, List.set_cons_zero, List.set_cons_succ], ?_⟩
          exact ⟨fun _ => rfl, fun h => hF.out.f1 (by simpa using h), fun h => hF.out.f2 (by simpa using h), fun h => hF.out.f3 (by simpa using h), fun h => hF.out.f4 (by simpa using h), fun h => hF.out.f5 (by simpa using h), fun h => hF.out.f6 (by simpa using h), fun h => hF.out.f7 (by simpa using h), fun h => hF.out.f8 (by simpa using h), fun h => hF.out.f9 (by simpa using h), fun h => by have := hF.out.o7_1 (by simpa using h); simpa using this, fun h => by have := hF.out.q9_7 (by simpa using h); simpa using this, hF.out.kk, fun h => hF.out.rd (by simpa using h), fun h => hF.out.fin (by simpa using h)⟩
        · intro d a W hI hd hdep
          obtain ⟨x22, x23, x24, x25, x26, x27, x28, x29, x30, rfl, hF⟩ := hI
          have hd0 : d 0 = true := dep_of hdep 0 (by kernel_rfl)
          obtain rfl := hF.out.f0 hd0
          have HN7 : Hid (d 7 = false) := no_later hF.out.o7_1 hd
          have HN9 : Hid (d 9 = false) := no_later hF.out.q9_7 HN7.out
          have ya := (hF.out.rd HN9.out).c1
          clear hdep hd hd0
          intro K hK
          simp only [Act.put, List.setIfInBounds_toArray, List.set_cons_zero, List.set_cons_succ]
          go_simp
          refine hK.out _ _ ⟨(.pointer (some ⟨(w.heap.size + 1), 1, none⟩)), (.string bf), x24, x25, x26, x27, x28, x29, x30, by simp only [Act.put, List.setIfInBounds_toArray, List.set_cons_zero, List.set_cons_succ], ?_⟩
          exact ⟨fun h => hF.out.f0 (by simpa using h), fun _ => rfl, fun h => hF.out.f2 (by simpa using h), fun h => hF.out.f3 (by simpa using h), fun h => hF.out.f4 (by simpa using h), fun h => hF.out.f5 (by simpa using h), fun h => hF.out.f6 (by simpa using h), fun h => hF.out.f7 (by simpa using h), fun h => hF.out.f8 (by simpa using h), fun h => hF.out.f9 (by simpa using h), fun _ => by simp, fun h => by have := hF.out.q9_7 (by simpa using h); simpa using this, hF.out.kk, fun h => hF.out.rd (by simpa using h), fun h => hF.out.fin (by simpa using h)⟩
        · intro d a W hI hd hdep
          obtain ⟨x22, x23, x24, x25, x26, x27, x28, x29, x30, rfl, hF⟩ := hI
          clear hdep hd
          intro K hK
          simp only [Act.put, List.setIfInBounds_toArray, List.set_cons_zero, List.set_cons_succ]
          go_simp
          refine hK.out _ _ ⟨x22, x23, (.string s), x25, x26, x27, x28, x29, x30, by simp only [Act.put, List.setIfInBounds_toArray, List.set_cons_zero, List.set_cons_succ], ?_⟩
          exact ⟨fun h => hF.out.f0 (by simpa using h), fun h => hF.out.f1 (by simpa using h), fun _ => rfl, fun h => hF.out.f3 (by simpa using h), fun h => hF.out.f4 (by simpa using h), fun h => hF.out.f5 (by simpa using h), fun h => hF.out.f6 (by simpa using h), fun h => hF.out.f7 (by simpa using h), fun h => hF.out.f8 (by simpa using h), fun h => hF.out.f9 (by simpa using h), fun h => by have := hF.out.o7_1 (by simpa using h); simpa using this, fun h => by have := hF.out.q9_7 (by simpa using h); simpa using this, hF.out.kk, fun h => hF.out.rd (by simpa using h), fun h => hF.out.fin (by simpa using h)⟩
        · intro d a W hI hd hdep
          obtain ⟨x22, x23, x24, x25, x26, x27, x28, x29, x30, rfl, hF⟩ := hI
          clear hdep hd
          intro K hK
          simp only [Act.put, List.setIfInBounds_toArray, List.set_cons_zero, List.set_cons_succ]
          go_simp
          refine hK.out _ _ ⟨x22, x23, x24, (.int .i64 (k : Int)), x26, x27, x28, x29, x30, by simp only [Act.put, List.setIfInBounds_toArray, List.set_cons_zero, List.set_cons_succ], ?_⟩
          exact ⟨fun h => hF.out.f0 (by simpa using h), fun h => hF.out.f1 (by simpa using h), fun h => hF.out.f2 (by simpa using h), fun _ => rfl, fun h => hF.out.f4 (by simpa using h), fun h => hF.out.f5 (by simpa using h), fun h => hF.out.f6 (by simpa using h), fun h => hF.out.f7 (by simpa using h), fun h => hF.out.f8 (by simpa using h), fun h => hF.out.f9 (by simpa using h), fun h => by have := hF.out.o7_1 (by simpa using h); simpa using this, fun h => by have := hF.out.q9_7 (by simpa using h); simpa using this, hF.out.kk, fun h => hF.out.rd (by simpa using h), fun h => hF.out.fin (by simpa using h)⟩
        · intro d a W hI hd hdep
          obtain ⟨x22, x23, x24, x25, x26, x27, x28, x29, x30, rfl, hF⟩ := hI
          clear hdep hd
          intro K hK
          simp only [Act.put, List.setIfInBounds_toArray, List.set_cons_zero, List.set_cons_succ]
          go_simp
          refine hK.out _ _ ⟨x22, x23, x24, x25, (.int .i64 (k : Int)), x27, x28, x29, x30, by simp only [Act.put, List.setIfInBounds_toArray, List.set_cons_zero, List.set_cons_succ], ?_⟩
          exact ⟨fun h => hF.out.f0 (by simpa using h), fun h => hF.out.f1 (by simpa using h), fun h => hF.out.f2 (by simpa using h), fun h => hF.out.f3 (by simpa using h), fun _ => rfl, fun h => hF.out.f5 (by simpa using h), fun h => hF.out.f6 (by simpa using h), fun h => hF.out.f7 (by simpa using h), fun h => hF.out.f8 (by simpa using h), fun h => hF.out.f9 (by simpa using h), fun h => by have := hF.out.o7_1 (by simpa using h); simpa using this, fun h => by have := hF.out.q9_7 (by simpa using h); simpa using this, hF.out.kk, fun h => hF.out.rd (by simpa using h), fun h => hF.out.fin (by simpa using h)⟩
        · intro d a W hI hd hdep
          obtain ⟨x22, x23, x24, x25, x26, x27, x28, x29, x30, rfl, hF⟩ := hI
          have hd4 : d 4 = true := dep_of hdep 4 (by kernel_rfl)
          obtain rfl := hF.out.f4 hd4
          have hw := HWR.out
          clear hdep hd hd4
          intro K hK
          simp only [Act.put, List.setIfInBounds_toArray, List.set_cons_zero, List.set_cons_succ]
          go_simp
          refine hK.out _ _ ⟨x22, x23, x24, x25, (.int .i64 (k : Int)), (.int .i64 ((k : Int) + 1)), x28, x29, x30, by simp only [Act.put, List.setIfInBounds_toArray, List.set_cons_zero, List.set_cons_succ], ?_⟩
          exact ⟨fun h => hF.out.f0 (by simpa using h), fun h => hF.out.f1 (by simpa using h), fun h => hF.out.f2 (by simpa using h), fun h => hF.out.f3 (by simpa using h), fun h => hF.out.f4 (by simpa using h), fun _ => rfl, fun h => hF.out.f6 (by simpa using h), fun h => hF.out.f7 (by simpa using h), fun h => hF.out.f8 (by simpa using h), fun h => hF.out.f9 (by simpa using h), fun h => by have := hF.out.o7_1 (by simpa using h); simpa using this, fun h => by have := hF.out.q9_7 (by simpa using h); simpa using this, hF.out.kk, fun h => hF.out.rd (by simpa using h), fun h => hF.out.fin (by simpa using h)⟩
        · intro d a W hI hd hdep
          obtain ⟨x22, x23, x24, x25, x26, x27, x28, x29, x30, rfl, hF⟩ := hI
          have hd2 : d 2 = true := dep_of hdep 2 (by kernel_rfl)
          have hd3 : d 3 = true := dep_of hdep 3 (by kernel_rfl)
          have hd5 : d 5 = true := dep_of hdep 5 (by kernel_rfl)
          obtain rfl := hF.out.f2 hd2
          obtain rfl := hF.out.f3 hd3
          obtain rfl := hF.out.f5 hd5
          have hx := HSL.out
          clear hdep hd hd2 hd3 hd5
          intro K hK
          simp only [Act.put, List.setIfInBounds_toArray, List.set_cons_zero, List.set_cons_succ]
          go_simp
          refine hK.out _ _ ⟨x22, x23, (.string s), (.int .i64 (k : Int)), x26, (.int .i64 ((k : Int) + 1)), (.string (s.extract k (k + 1))), x29, x30, by simp only [Act.put, List.setIfInBounds_toArray, List.set_cons_zero, List.set_cons_succ], ?_⟩
          exact ⟨fun h => hF.out.f0 (by simpa using h), fun h => hF.out.f1 (by simpa using h), fun h => hF.out.f2 (by simpa using h), fun h => hF.out.f3 (by simpa using h), fun h => hF.out.f4 (by simpa using h), fun h => hF.out.f5 (by simpa using h), fun _ => rfl, fun h => hF.out.f7 (by simpa using h), fun h => hF.out.f8 (by simpa using h), fun h => hF.out.f9 (by simpa using h), fun h => by have := hF.out.o7_1 (by simpa using h); simpa using this, fun h => by have := hF.out.q9_7 (by simpa using h); simpa using this, hF.out.kk, fun h => hF.out.rd (by simpa using h), fun h => hF.out.fin (by simpa using h)⟩
        · intro d a W hI hd hdep
          obtain ⟨x22, x23, x24, x25, x26, x27, x28, x29, x30, rfl, hF⟩ := hI
          have hd1 : d 1 = true := dep_of hdep 1 (by kernel_rfl)
          have hd6 : d 6 = true := dep_of hdep 6 (by kernel_rfl)
          obtain rfl := hF.out.f1 hd1
          obtain rfl := hF.out.f6 hd6
          have e7_1 := hd1
          have hct := HCT.out
          clear hdep hd hd1 hd6
          intro K hK
          simp only [Act.put, List.setIfInBounds_toArray, List.set_cons_zero, List.set_cons_succ]
          go_simp
          refine hK.out _ _ ⟨x22, (.string bf), x24, x25, x26, x27, (.string (s.extract k (k + 1))), (.string (bf ++ s.extract k (k + 1))), x30, by simp only [Act.put, List.setIfInBounds_toArray, List.set_cons_zero, List.set_cons_succ], ?_⟩
          exact ⟨fun h => hF.out.f0 (by simpa using h), fun h => hF.out.f1 (by simpa using h), fun h => hF.out.f2 (by simpa using h), fun h => hF.out.f3 (by simpa using h), fun h => hF.out.f4 (by simpa using h), fun h => hF.out.f5 (by simpa using h), fun h => hF.out.f6 (by simpa using h), fun _ => rfl, fun h => hF.out.f8 (by simpa using h), fun h => hF.out.f9 (by simpa using h), fun _ => by simpa using e7_1, fun _ => by simp, hF.out.kk, fun h => hF.out.rd (by simpa using h), fun h => hF.out.fin (by simpa using h)⟩
        · intro d a W hI hd hdep
          obtain ⟨x22, x23, x24, x25, x26, x27, x28, x29, x30, rfl, hF⟩ := hI
          clear hdep hd
          intro K hK
          simp only [Act.put, List.setIfInBounds_toArray, List.set_cons_zero, List.set_cons_succ]
          go_simp
          refine hK.out _ _ ⟨x22, x23, x24, x25, x26, x27, x28, x29, (.pointer (some ⟨(w.heap.size + 1), 1, none⟩)), by simp only [Act.put, List.setIfInBounds_toArray, List.set_cons_zero, List.set_cons_succ], ?_⟩
          exact ⟨fun h => hF.out.f0 (by simpa using h), fun h => hF.out.f1 (by simpa using h), fun h => hF.out.f2 (by simpa using h), fun h => hF.out.f3 (by simpa using h), fun h => hF.out.f4 (by simpa using h), fun h => hF.out.f5 (by simpa using h), fun h => hF.out.f6 (by simpa using h), fun h => hF.out.f7 (by simpa using h), fun _ => rfl, fun h => hF.out.f9 (by simpa using h), fun h => by have := hF.out.o7_1 (by simpa using h); simpa using this, fun h => by have := hF.out.q9_7 (by simpa using h); simpa using this, hF.out.kk, fun h => hF.out.rd (by simpa using h), fun h => hF.out.fin (by simpa using h)⟩
        · intro d a W hI hd hdep
          obtain ⟨x22, x23, x24, x25, x26, x27, x28, x29, x30, rfl, hF⟩ := hI
          have hd8 : d 8 = true := dep_of hdep 8 (by kernel_rfl)
          have hd7 : d 7 = true := dep_of hdep 7 (by kernel_rfl)
          obtain rfl := hF.out.f8 hd8
          obtain rfl := hF.out.f7 hd7
          have e9_7 := hd7
          have hrd := hF.out.rd hd
          have ya := hrd.c1
          have yb := block_free hrd.hb 1
          clear hdep hd hd8 hd7
          intro K hK
          simp only [Act.put, List.setIfInBounds_toArray, List.set_cons_zero, List.set_cons_succ]
          go_simp
          refine hK.out _ _ ⟨x22, x23, x24, x25, x26, x27, x28, (.string (bf ++ s.extract k (k + 1))), (.pointer (some ⟨(w.heap.size + 1), 1, none⟩)), by simp only [Act.put, List.setIfInBounds_toArray, List.set_cons_zero, List.set_cons_succ], ?_⟩
          exact ⟨fun h => hF.out.f0 (by simpa using h), fun h => hF.out.f1 (by simpa using h), fun h => hF.out.f2 (by simpa using h), fun h => hF.out.f3 (by simpa using h), fun h => hF.out.f4 (by simpa using h), fun h => hF.out.f5 (by simpa using h), fun h => hF.out.f6 (by simpa using h), fun h => hF.out.f7 (by simpa using h), fun h => hF.out.f8 (by simpa using h), fun _ => trivial, fun h => by have := hF.out.o7_1 (by simpa using h); simpa using this, fun _ => by simpa using e9_7, hF.out.kk.set _ _, fun h => by simp at h, fun _ => hrd.setBuf _⟩
      · intro d a W hI hall
        obtain ⟨x22, x23, x24, x25, x26, x27, x28, x29, x30, rfl, hF⟩ := hI
        simp only [List.length_cons, List.length_nil] at hall
        obtain rfl := hF.out.f0 (hall 0 (by omega))
        obtain rfl := hF.out.f1 (hall 1 (by omega))
        obtain rfl := hF.out.f2 (hall 2 (by omega))
        obtain rfl := hF.out.f3 (hall 3 (by omega))
        obtain rfl := hF.out.f4 (hall 4 (by omega))
        obtain rfl := hF.out.f5 (hall 5 (by omega))
        obtain rfl := hF.out.f6 (hall 6 (by omega))
        obtain rfl := hF.out.f7 (hall 7 (by omega))
        obtain rfl := hF.out.f8 (hall 8 (by omega))
        have HR5 : Hid (Hd B (w.heap.size + 1) ia (bf ++ s.extract k (k + 1)) (.slice va ts.length vc) ts W ∧ Mk B (w.heap.size + 1) wB W) := ⟨hF.out.fin (hall 9 (by omega)), HMK.out.trans hF.out.kk⟩
        clear hF hall
        simp only [Act.put, List.setIfInBounds_toArray, List.set_cons_zero, List.set_cons_succ]
        obtain ⟨w5, rfl⟩ : ∃ q, q = W := ⟨_, rfl⟩
        have hbs : (bf ++ s.extract k (k + 1)).size = bf.size + 1 := by rw [← data_size, cat_one bf s k hlt, List.length_append, data_size]; rfl
        have hst := Sl.start (R := R) (T := T) (L := L) (X := X) ia (bf.data.toList ++ [s[k]]) ts
        have hnx := HFZ.out.next (drop_cons s k hlt)
        obtain ⟨st, HST⟩ : ∃ q, Hid (st1 R T L X ia (bf.data.toList ++ [s[k]]) ts = q) := ⟨_, (rfl : st1 R T L X ia (bf.data.toList ++ [s[k]]) ts = _)⟩
        rw [HST.out] at hst hnx
        have HST0 : Hid (Sl R T L X ia (bf ++ s.extract k (k + 1)).data.toList ts st) := by rw [cat_one bf s k hlt]; exact hst
        have HNX2 : Hid (Fz R T L X s.data.toList (k + 1) st.1 st.2.1 st.2.2.1 st.2.2.2 an) := hnx
        clear hst hnx HST
        go_wp2_with fail
        go_loopw [10] (fun v wq => ∃ (ia : Nat) (bf : ByteArray) (ts : List (Int × Nat × Nat)), Hd B (w.heap.size + 1) ia bf v ts wq ∧ Mk B (w.heap.size + 1) wB wq ∧ Sl R T L X ia bf.data.toList ts st ∧ ia + bf.size ≤ at0 + 65 + k ∧ ts.length + at0 ≤ ia ∧ bf.size ≤ 65) (fun _ wq => hbuf wq (w.heap.size + 1))
        case atStart => exact ⟨ia, (bf ++ s.extract k (k + 1)), ts, HR5.out.1, HR5.out.2, HST0.out, by omega, by omega, by omega⟩
        case round =>
          clear HR5 HST0 hbs HRD HMK HFZ hq1 hq2 hq3
          obtain ⟨ia, bf, ts, hhd, hmk, hsl, hq1, hq2, hq3⟩ := hrel
          obtain ⟨va, vc, rfl⟩ := own_form hhd.own
          have HD : Hid (Hd B (w.heap.size + 1) ia bf (.slice va ts.length vc) ts wr) := hhd
          have HM : Hid (Mk B (w.heap.size + 1) wB wr) := hmk
          have HSL2 : Hid (Sl R T L X ia bf.data.toList ts st) := hsl
          have HC9 : Hid (wr.cell? ⟨(w.heap.size + 1), 1, none⟩ = some (.string bf)) := hhd.c1
          have HBQ : Hid (Below w.heap.size w wr) := hmk.below HBW.out (by have := HB1E.out; omega) (by have := HB2.out; omega)
          have y0 := hhd.c0
          have y1 := hhd.c1
          have y2 := hhd.c2
          clear hhd hmk hsl
          by_cases hse : bf.size = 0
          · have hem : bf.toList.isEmpty = true := by rw [Go.Lib.toList_data, nil_of hse]; rfl
            have HE : Hid (st = (ia, bf.data.toList, ts, 0)) := by
              show _ = _
              have := HSL2.out
              rw [nil_of hse] at this ⊢
              exact this.empty
            have h64 : ¬ (64 : Int) < (bf.size : Int) := by omega
            go_wp2_with fail
            go_roundw
            case rel => exact ⟨k + 1, ia, bf, ts, by go_num, by omega, HD.out, HM.out, by have := HNX2.out; rw [HE.out] at this; exact this, by omega, by omega, by omega⟩
            case measure => simp [intOf]; omega
          · have hem : bf.toList.isEmpty = false := isEmpty_no hse
            have HNE : Hid (bf.data.toList ≠ []) := by show _ ≠ _; intro e; have := congrArg List.length e; rw [data_size] at this; exact hse (by simpa using this)
            have hsk := HSTK.out bf wr (by omega) HBQ.out
            have HRG2 : Hid (wr.rangeAt w.heap.size 0 l) := fun j u hu => (cell_same (HM.out.blk w.heap.size (by have := HB2.out; omega) (by have := HB1E.out; omega)) _).trans (HRGB.out j u hu)
            obtain ⟨ce, HCE⟩ : ∃ q, Hid (stk R L X bf.data.toList = q) := ⟨_, (rfl : _ = _)⟩
            rw [HCE.out] at hsk
            go_wp2_with fail
            refine wp_load_mid 26 _ rfl w.heap.size 0 rfl l _ HRG2.out Try.underlying26 rfl HSI.out ?_
            simp only [Act.put, List.setIfInBounds_toArray, List.set_cons_zero, List.set_cons_succ]
            go_wp2_with fail
            refine hsk.mono ?_
            rintro _ w6 ⟨rfl, hbb⟩
            have HD6 : Hid (Hd B (w.heap.size + 1) ia bf (.slice va ts.length vc) ts w6) := HD.out.next hbb
            have HM6 : Hid (Mk B (w.heap.size + 1) wB w6) := HM.out.next hbb HD.out.sz
            clear hsk hbb y0 y1 y2 HD HM
            have y0 := HD6.out.c0
            have y1 := HD6.out.c1
            have y2 := HD6.out.c2
            cases ce
            case false =>
              by_cases h64 : 64 < bf.size
              · have h64' : (64 : Int) < (bf.size : Int) := by omega
                have HE : Hid (st = (ia, [], ts, 10)) := HSL2.out.hold HNE.out HCE.out (by rw [data_size]; exact h64)
                have HAN : Hid (an = (ia, [], ts, 10)) := by have := HNX2.out; rw [HE.out] at this; exact this.ends (Or.inr (show (10 : Int) ≠ 0 by omega))
                have HZ2 : Hid (w6.heap[w.heap.size + 2]? = some (.cells #[.int .i64 0, .string ⟨#[]⟩, .int .i64 0] 29 (0, 0))) := (HM6.out.blk _ (by have := HB2.out; omega) (by have := HB1E.out; omega)).trans HZB.out
                have HBE : Hid (Below w.heap.size w w6) := HM6.out.below HBW.out (by have := HB1E.out; omega) (by have := HB2.out; omega)
                have HOE : Hid (w6.ownsRow B 37 3 (.slice va ts.length vc) ts.length (tcs ts)) := HD6.out.own
                have v0 := block_cell HZ2.out 0
                have v1 := block_cell HZ2.out 1
                have v2 := block_cell HZ2.out 2
                have g0 := block_free HZ2.out 0
                have g1 := block_free HZ2.out 1
                have g2 := block_free HZ2.out 2
                simp only [List.getElem?_toArray, List.getElem?_cons_zero, List.getElem?_cons_succ] at v0 v1 v2
                go_wp2_with fail
                have hth := three (w := w6) HZ2.out (.int .i64 (ia : Int)) (.string ⟨#[]⟩) (.int .i64 10)
                have y0 := block_cell hth 0
                have y1 := block_cell hth 1
                have y2 := block_cell hth 2
                simp only [List.getElem?_toArray, List.getElem?_cons_zero, List.getElem?_cons_succ] at y0 y1 y2
                refine bodyPost_ret (v := .tuple #[.agg #[.int .i64 (ia : Int), .string ⟨#[]⟩, .int .i64 10], (.slice va ts.length vc), .int .i64 10]) (by simp [results, Try.results9, go_sem, y0, y1, y2]) rfl ?_
                have e9 : er = 10 := by rw [← HER.out, HAN.out]
                rw [e9]
                exact ⟨ia, ⟨#[]⟩, _, ts, 10, rfl, HAN.out, own_less (own_same HOE.out fun k hk => (same_three w6 (w.heap.size + 2) _ _ _).2.2.2.2 k (by have := (HOE.out.lt k hk).1; have := HB2.out; omega)) HBB.out, ((HBE.out.setCell (by simp <;> omega) _).setCell (by simp <;> omega) _).setCell (by simp <;> omega) _⟩
              · have h64' : ¬ (64 : Int) < (bf.size : Int) := by omega
                have HE : Hid (st = (ia, bf.data.toList, ts, 0)) := HSL2.out.wait HNE.out HCE.out (by rw [data_size]; exact h64)
                go_wp2_with fail
                go_roundw
                case rel => exact ⟨k + 1, ia, bf, ts, by go_num, by omega, HD6.out, HM6.out, by have := HNX2.out; rw [HE.out] at this; exact this, by omega, by omega, by omega⟩
                case measure => simp [intOf]; omega
            case true =>
              have HRB : Hid (Rw w6 (.slice ra5 n rc5) n R ∧ Ts w6 (.slice ta n tc) n T) := ⟨HRWB.out w6 HM6.out, HTSW.out w6 (HM6.out.below HBW.out (by have := HB1E.out; omega) (by have := HB2.out; omega))⟩
              have hlg := refLong_any (.slice ra5 n rc5) (.slice ta n tc) n R T bf w6 HRB.out.1 HRB.out.2 HN0.out HROK.out (by omega)
              have d0 := (cell_same (HM6.out.blk gd (by have := HB2.out; have := HGD.out; omega) (by have := HGD.out; have := HB1E.out; omega)) 0).trans HD0.out.1
              have d1 := (cell_same (HM6.out.blk gd (by have := HB2.out; have := HGD.out; omega) (by have := HGD.out; have := HB1E.out; omega)) 1).trans HD0.out.2
              have HBAD : Hid ((lng R T bf.data.toList).2 = 0 → st = (ia, [], ts, 9)) := fun h => HSL2.out.bad HNE.out HCE.out h
              have HNXT : Hid (¬ (lng R T bf.data.toList).2 = 0 → Sl R T L X (ia + (lng R T bf.data.toList).2) (bf.data.toList.drop (lng R T bf.data.toList).2) (ts ++ [((lng R T bf.data.toList).1, ia, ia + (lng R T bf.data.toList).2)]) st) := fun h => HSL2.out.next HNE.out HCE.out h
              have HZL : Hid ((lng R T bf.data.toList).2 ≤ bf.size) := by have := lng_le R T bf.data.toList; rw [data_size] at this; exact this
              obtain ⟨z, HZ⟩ : ∃ q, Hid ((lng R T bf.data.toList).2 = q) := ⟨_, (rfl : _ = _)⟩
              obtain ⟨r, HR0⟩ : ∃ q, Hid ((lng R T bf.data.toList).1 = q) := ⟨_, (rfl : _ = _)⟩
              rw [HZ.out] at hlg HBAD HNXT HZL
              rw [HR0.out] at hlg HNXT
              go_wp2_with fail
              refine hlg.mono ?_
              rintro _ w7 ⟨rfl, hbb⟩
              have HD7 : Hid (Hd B (w.heap.size + 1) ia bf (.slice va ts.length vc) ts w7) := HD6.out.next hbb
              have HM7 : Hid (Mk B (w.heap.size + 1) wB w7) := HM6.out.next hbb HD6.out.sz
              clear hlg hbb y0 y1 y2 d0 d1 HD6 HM6
              have y0 := HD7.out.c0
              have y1 := HD7.out.c1
              have y2 := HD7.out.c2
              by_cases hz0 : z = 0
              · subst hz0
                have HE : Hid (st = (ia, [], ts, 9)) := HBAD.out rfl
                have HAN : Hid (an = (ia, [], ts, 9)) := by have := HNX2.out; rw [HE.out] at this; exact this.ends (Or.inr (show (9 : Int) ≠ 0 by omega))
                have HZ2 : Hid (w7.heap[w.heap.size + 2]? = some (.cells #[.int .i64 0, .string ⟨#[]⟩, .int .i64 0] 29 (0, 0))) := (HM7.out.blk _ (by have := HB2.out; omega) (by have := HB1E.out; omega)).trans HZB.out
                have HBE : Hid (Below w.heap.size w w7) := HM7.out.below HBW.out (by have := HB1E.out; omega) (by have := HB2.out; omega)
                have HOE : Hid (w7.ownsRow B 37 3 (.slice va ts.length vc) ts.length (tcs ts)) := HD7.out.own
                have v0 := block_cell HZ2.out 0
                have v1 := block_cell HZ2.out 1
                have v2 := block_cell HZ2.out 2
                have g0 := block_free HZ2.out 0
                have g1 := block_free HZ2.out 1
                have g2 := block_free HZ2.out 2
                simp only [List.getElem?_toArray, List.getElem?_cons_zero, List.getElem?_cons_succ] at v0 v1 v2
                go_wp2_with fail
                have hth := three (w := w7) HZ2.out (.int .i64 (ia : Int)) (.string ⟨#[]⟩) (.int .i64 9)
                have y0 := block_cell hth 0
                have y1 := block_cell hth 1
                have y2 := block_cell hth 2
                simp only [List.getElem?_toArray, List.getElem?_cons_zero, List.getElem?_cons_succ] at y0 y1 y2
                refine bodyPost_ret (v := .tuple #[.agg #[.int .i64 (ia : Int), .string ⟨#[]⟩, .int .i64 9], (.slice va ts.length vc), .int .i64 9]) (by simp [results, Try.results9, go_sem, y0, y1, y2]) rfl ?_
                have e9 : er = 9 := by rw [← HER.out, HAN.out]
                rw [e9]
                exact ⟨ia, ⟨#[]⟩, _, ts, 9, rfl, HAN.out, own_less (own_same HOE.out fun k hk => (same_three w7 (w.heap.size + 2) _ _ _).2.2.2.2 k (by have := (HOE.out.lt k hk).1; have := HB2.out; omega)) HBB.out, ((HBE.out.setCell (by simp <;> omega) _).setCell (by simp <;> omega) _).setCell (by simp <;> omega) _⟩
              · have hzb : ((z : Int) == 0) = false := by simp; omega
                have HN : Hid (Sl R T L X (ia + z) (bf.data.toList.drop z) (ts ++ [(r, ia, ia + z)]) st) := HNXT.out hz0
                have hwz : IntKind.i64.wrap ((ia : Int) + (z : Int)) = (ia : Int) + (z : Int) := by have := HZL.out; simp only [IntKind.wrap, IntKind.bits, IntKind.signed]; simp; omega
                have HWZ : Hid (IntKind.i64.wrap ((ia : Int) + (z : Int)) = (ia : Int) + (z : Int)) := hwz
                have HO3 : Hid ((w7.alloc (Obj.cells #[Value.int .i64 r, Value.int .i64 (ia : Int), Value.int .i64 ((ia : Int) + (z : Int))] 37)).ownsRow B 37 3 (.slice va ts.length vc) ts.length (tcs ts)) := HD7.out.own.alloc _
                have hdA := HD7.out.next ((Below.refl w7.heap.size w7).alloc (Nat.le_refl _) (Obj.cells #[Value.int .i64 r, Value.int .i64 (ia : Int), Value.int .i64 ((ia : Int) + (z : Int))] 37))
                have hmA := HM7.out.next ((Below.refl w7.heap.size w7).alloc (Nat.le_refl _) (Obj.cells #[Value.int .i64 r, Value.int .i64 (ia : Int), Value.int .i64 ((ia : Int) + (z : Int))] 37)) HD7.out.sz
                have HAA : Hid (Hd B (w.heap.size + 1) ia bf (.slice va ts.length vc) ts (w7.alloc (Obj.cells #[Value.int .i64 r, Value.int .i64 (ia : Int), Value.int .i64 ((ia : Int) + (z : Int))] 37)) ∧ Mk B (w.heap.size + 1) wB (w7.alloc (Obj.cells #[Value.int .i64 r, Value.int .i64 (ia : Int), Value.int .i64 ((ia : Int) + (z : Int))] 37))) := ⟨hdA, hmA⟩
                clear hdA hmA
                go_wp2_with (at_builtin; refine wpList_append_own _ rfl _ _ 31 rfl B 37 i0 (.agg #[.int .i64 0, .int .i64 0, .int .i64 0]) 3 24 Try.underlying31 H37.out.1 H37.out.2.1 H37.out.2.2.1 H37.out.2.2.2 rfl (by decide) _ _ _ rfl HO3.out ⟨w7.heap.size, 0, none⟩ 1 1 [.int .i64 r, .int .i64 (ia : Int), .int .i64 ((ia : Int) + (z : Int))] rfl rfl (World.news_of_block (t := 37) (fr := (0, 0)) (heap_alloc_new w7 _)) (by simp [Value.oneCell']) (by unfold maxLen; omega) (by omega) HAA.out.1.sz ?_)
                intro v' w8 hown' hgrow _
                have HR8 : Hid (Hd B (w.heap.size + 1) ia bf v' (ts ++ [(r, ia, ia + z)]) w8) := by
                  have hne : some (w.heap.size + 1) ≠ ((.slice va ts.length vc) : Value).ownBlock := fun e => by have := (HO3.out.lt (w.heap.size + 1) e.symm).1; have := HAA.out.1.lt; omega
                  refine ⟨(hgrow.block (w.heap.size + 1) (by have := HAA.out.1.lt; have := HAA.out.1.sz; omega) hne).trans HAA.out.1.hb, ?_, HAA.out.1.lt, Nat.le_trans HAA.out.1.sz hgrow.size⟩
                  rw [tcs_snoc, List.length_append]
                  have e : ((ia + z : Nat) : Int) = (ia : Int) + (z : Int) := by omega
                  simp only [e]
                  exact hown'
                have HM8 : Hid (Mk B (w.heap.size + 1) wB w8) := HAA.out.2.grown hgrow (fun q hq => (HO3.out.lt q hq).1) HAA.out.1.sz
                obtain ⟨va2, vc2, rfl⟩ := own_form hown'
                clear hown' hgrow HO3 HAA hwz y0 y1 y2
                go_wp2_with fail
                refine wp_region_free mixed (fun a0 d a W => ∃ (x64 x65 x66 x67 x68 x69 x70 x71 x72 : Value), a = (((((((((a0.put (some 64) x64).put (some 65) x65).put (some 66) x66).put (some 67) x67).put (some 68) x68).put (some 69) x69).put (some 70) x70).put (some 71) x71).put (some 72) x72) ∧ Hid (RX12 w8 B (w.heap.size + 1) ia z bf (.slice va2 (ts.length + 1) vc2) (ts ++ [(r, ia, ia + z)]) d x64 x65 x66 x67 x68 x69 x70 x71 x72 W)) (by kernel_rfl) ⟨u64, u65, u66, u67, u68, u69, u70, u71, u72, by simp only [Act.put, List.setIfInBounds_toArray, List.set_cons_zero, List.set_cons_succ], ?_⟩ ?_ ?_
                · exact ⟨fun h => no_way h, fun h => no_way h, fun h => no_way h, fun h => no_way h, fun h => no_way h, fun h => no_way h, fun h => no_way h, fun h => no_way h, fun h => no_way h, fun _ => trivial, fun h => no_way h, fun h => no_way h, fun h => no_way h, fun h => no_way h, fun h => no_way h, (Mk.refl _ _ _).drew, fun _ => HR8.out.drew, fun h => no_way h⟩
                · simp only [StepAll, and_true]
                  refine ⟨?_, ?_, ?_, ?_, ?_, ?_, ?_, ?_, ?_, ?_⟩
                  · intro d a W hI hd hdep
                    obtain ⟨x64, x65, x66, x67, x68, x69, x70, x71, x72, rfl, hF⟩ := hI
                    clear hdep hd
                    intro K hK
                    simp only [Act.put, List.setIfInBounds_toArray, List.set_cons_zero, List.set_cons_succ]
                    go_simp
                    refine hK.out _ _ ⟨(.pointer (some ⟨(w.heap.size + 1), 0, none⟩)), x65, x66, x67, x68, x69, x70, x71, x72, by simp only [Act.put, List.setIfInBounds_toArray, List.set_cons_zero, List.set_cons_succ], ?_⟩
                    exact ⟨fun _ => rfl, fun h => hF.out.f1 (by simpa using h), fun h => hF.out.f2 (by simpa using h), fun h => hF.out.f3 (by simpa using h), fun h => hF.out.f4 (by simpa using h), fun h => hF.out.f5 (by simpa using h), fun h => hF.out.f6 (by simpa using h), fun h => hF.out.f7 (by simpa using h), fun h => hF.out.f8 (by simpa using h), fun h => hF.out.f9 (by simpa using h), fun h => by have := hF.out.o3_1 (by simpa using h); simpa using this, fun h => by have := hF.out.o7_5 (by simpa using h); simpa using this, fun h => by have := hF.out.o8_3 (by simpa using h); simpa using this, fun h => by have := hF.out.o8_7 (by simpa using h); simpa using this, fun h => by have := hF.out.q9_8 (by simpa using h); simpa using this, hF.out.kk, fun h => hF.out.rd (by simpa using h), fun h => hF.out.fin (by simpa using h)⟩
                  · intro d a W hI hd hdep
                    obtain ⟨x64, x65, x66, x67, x68, x69, x70, x71, x72, rfl, hF⟩ := hI
                    have hd0 : d 0 = true := dep_of hdep 0 (by kernel_rfl)
                    obtain rfl := hF.out.f0 hd0
                    have HN3 : Hid (d 3 = false) := no_later hF.out.o3_1 hd
                    have HN8 : Hid (d 8 = false) := no_later hF.out.o8_3 HN3.out
                    have HN9 : Hid (d 9 = false) := no_later hF.out.q9_8 HN8.out
                    have ya := (hF.out.rd HN9.out).c0
                    clear hdep hd hd0
                    intro K hK
                    simp only [Act.put, List.setIfInBounds_toArray, List.set_cons_zero, List.set_cons_succ]
                    go_simp
                    refine hK.out _ _ ⟨(.pointer (some ⟨(w.heap.size + 1), 0, none⟩)), (.int .i64 (ia : Int)), x66, x67, x68, x69, x70, x71, x72, by simp only [Act.put, List.setIfInBounds_toArray, List.set_cons_zero, List.set_cons_succ], ?_⟩
                    exact ⟨fun h => hF.out.f0 (by simpa using h), fun _ => rfl, fun h => hF.out.f2 (by simpa using h), fun h => hF.out.f3 (by simpa using h), fun h => hF.out.f4 (by simpa using h), fun h => hF.out.f5 (by simpa using h), fun h => hF.out.f6 (by simpa using h), fun h => hF.out.f7 (by simpa using h), fun h => hF.out.f8 (by simpa using h), fun h => hF.out.f9 (by simpa using h), fun _ => by simp, fun h => by have := hF.out.o7_5 (by simpa using h); simpa using this, fun h => by have := hF.out.o8_3 (by simpa using h); simpa using this, fun h => by have := hF.out.o8_7 (by simpa using h); simpa using this, fun h => by have := hF.out.q9_8 (by simpa using h); simpa using this, hF.out.kk, fun h => hF.out.rd (by simpa using h), fun h => hF.out.fin (by simpa using h)⟩
                  · intro d a W hI hd hdep
                    obtain ⟨x64, x65, x66, x67, x68, x69, x70, x71, x72, rfl, hF⟩ := hI
                    clear hdep hd
                    intro K hK
                    simp only [Act.put, List.setIfInBounds_toArray, List.set_cons_zero, List.set_cons_succ]
                    go_simp
                    refine hK.out _ _ ⟨x64, x65, (.int .i64 (z : Int)), x67, x68, x69, x70, x71, x72, by simp only [Act.put, List.setIfInBounds_toArray, List.set_cons_zero, List.set_cons_succ], ?_⟩
                    exact ⟨fun h => hF.out.f0 (by simpa using h), fun h => hF.out.f1 (by simpa using h), fun _ => rfl, fun h => hF.out.f3 (by simpa using h), fun h => hF.out.f4 (by simpa using h), fun h => hF.out.f5 (by simpa using h), fun h => hF.out.f6 (by simpa using h), fun h => hF.out.f7 (by simpa using h), fun h => hF.out.f8 (by simpa using h), fun h => hF.out.f9 (by simpa using h), fun h => by have := hF.out.o3_1 (by simpa using h); simpa using this, fun h => by have := hF.out.o7_5 (by simpa using h); simpa using this, fun h => by have := hF.out.o8_3 (by simpa using h); simpa using this, fun h => by have := hF.out.o8_7 (by simpa using h); simpa using this, fun h => by have := hF.out.q9_8 (by simpa using h); simpa using this, hF.out.kk, fun h => hF.out.rd (by simpa using h), fun h => hF.out.fin (by simpa using h)⟩
                  · intro d a W hI hd hdep
                    obtain ⟨x64, x65, x66, x67, x68, x69, x70, x71, x72, rfl, hF⟩ := hI
                    have hd1 : d 1 = true := dep_of hdep 1 (by kernel_rfl)
                    have hd2 : d 2 = true := dep_of hdep 2 (by kernel_rfl)
                    obtain rfl := hF.out.f1 hd1
                    obtain rfl := hF.out.f2 hd2
                    have e3_1 := hd1
                    have hw := HWZ.out
                    clear hdep hd hd1 hd2
                    intro K hK
                    simp only [Act.put, List.setIfInBounds_toArray, List.set_cons_zero, List.set_cons_succ]
                    go_simp
                    refine hK.out _ _ ⟨x64, (.int .i64 (ia : Int)), (.int .i64 (z : Int)), (.int .i64 ((ia : Int) + (z : Int))), x68, x69, x70, x71, x72, by simp only [Act.put, List.setIfInBounds_toArray, List.set_cons_zero, List.set_cons_succ], ?_⟩
                    exact ⟨fun h => hF.out.f0 (by simpa using h), fun h => hF.out.f1 (by simpa using h), fun h => hF.out.f2 (by simpa using h), fun _ => rfl, fun h => hF.out.f4 (by simpa using h), fun h => hF.out.f5 (by simpa using h), fun h => hF.out.f6 (by simpa using h), fun h => hF.out.f7 (by simpa using h), fun h => hF.out.f8 (by simpa using h), fun h => hF.out.f9 (by simpa using h), fun _ => by simpa using e3_1, fun h => by have := hF.out.o7_5 (by simpa using h); simpa using this, fun _ => by simp, fun h => by have := hF.out.o8_7 (by simpa using h); simpa using this, fun h => by have := hF.out.q9_8 (by simpa using h); simpa using this, hF.out.kk, fun h => hF.out.rd (by simpa using h), fun h => hF.out.fin (by simpa using h)⟩
                  · intro d a W hI hd hdep
                    obtain ⟨x64, x65, x66, x67, x68, x69, x70, x71, x72, rfl, hF⟩ := hI
                    clear hdep hd
                    intro K hK
                    simp only [Act.put, List.setIfInBounds_toArray, List.set_cons_zero, List.set_cons_succ]
                    go_simp
                    refine hK.out _ _ ⟨x64, x65, x66, x67, (.pointer (some ⟨(w.heap.size + 1), 1, none⟩)), x69, x70, x71, x72, by simp only [Act.put, List.setIfInBounds_toArray, List.set_cons_zero, List.set_cons_succ], ?_⟩
                    exact ⟨fun h => hF.out.f0 (by simpa using h), fun h => hF.out.f1 (by simpa using h), fun h => hF.out.f2 (by simpa using h), fun h => hF.out.f3 (by simpa using h), fun _ => rfl, fun h => hF.out.f5 (by simpa using h), fun h => hF.out.f6 (by simpa using h), fun h => hF.out.f7 (by simpa using h), fun h => hF.out.f8 (by simpa using h), fun h => hF.out.f9 (by simpa using h), fun h => by have := hF.out.o3_1 (by simpa using h); simpa using this, fun h => by have := hF.out.o7_5 (by simpa using h); simpa using this, fun h => by have := hF.out.o8_3 (by simpa using h); simpa using this, fun h => by have := hF.out.o8_7 (by simpa using h); simpa using this, fun h => by have := hF.out.q9_8 (by simpa using h); simpa using this, hF.out.kk, fun h => hF.out.rd (by simpa using h), fun h => hF.out.fin (by simpa using h)⟩
                  · intro d a W hI hd hdep
                    obtain ⟨x64, x65, x66, x67, x68, x69, x70, x71, x72, rfl, hF⟩ := hI
                    have hd4 : d 4 = true := dep_of hdep 4 (by kernel_rfl)
                    obtain rfl := hF.out.f4 hd4
                    have HN7 : Hid (d 7 = false) := no_later hF.out.o7_5 hd
                    have HN8 : Hid (d 8 = false) := no_later hF.out.o8_7 HN7.out
                    have HN9 : Hid (d 9 = false) := no_later hF.out.q9_8 HN8.out
                    have ya := (hF.out.rd HN9.out).c1
                    clear hdep hd hd4
                    intro K hK
                    simp only [Act.put, List.setIfInBounds_toArray, List.set_cons_zero, List.set_cons_succ]
                    go_simp
                    refine hK.out _ _ ⟨x64, x65, x66, x67, (.pointer (some ⟨(w.heap.size + 1), 1, none⟩)), (.string bf), x70, x71, x72, by simp only [Act.put, List.setIfInBounds_toArray, List.set_cons_zero, List.set_cons_succ], ?_⟩
                    exact ⟨fun h => hF.out.f0 (by simpa using h), fun h => hF.out.f1 (by simpa using h), fun h => hF.out.f2 (by simpa using h), fun h => hF.out.f3 (by simpa using h), fun h => hF.out.f4 (by simpa using h), fun _ => rfl, fun h => hF.out.f6 (by simpa using h), fun h => hF.out.f7 (by simpa using h), fun h => hF.out.f8 (by simpa using h), fun h => hF.out.f9 (by simpa using h), fun h => by have := hF.out.o3_1 (by simpa using h); simpa using this, fun _ => by simp, fun h => by have := hF.out.o8_3 (by simpa using h); simpa using this, fun h => by have := hF.out.o8_7 (by simpa using h); simpa using this, fun h => by have := hF.out.q9_8 (by simpa using h); simpa using this, hF.out.kk, fun h => hF.out.rd (by simpa using h), fun h => hF.out.fin (by simpa using h)⟩
                  · intro d a W hI hd hdep
                    obtain ⟨x64, x65, x66, x67, x68, x69, x70, x71, x72, rfl, hF⟩ := hI
                    clear hdep hd
                    intro K hK
                    simp only [Act.put, List.setIfInBounds_toArray, List.set_cons_zero, List.set_cons_succ]
                    go_simp
                    refine hK.out _ _ ⟨x64, x65, x66, x67, x68, x69, (.int .i64 (z : Int)), x71, x72, by simp only [Act.put, List.setIfInBounds_toArray, List.set_cons_zero, List.set_cons_succ], ?_⟩
                    exact ⟨fun h => hF.out.f0 (by simpa using h), fun h => hF.out.f1 (by simpa using h), fun h => hF.out.f2 (by simpa using h), fun h => hF.out.f3 (by simpa using h), fun h => hF.out.f4 (by simpa using h), fun h => hF.out.f5 (by simpa using h), fun _ => rfl, fun h => hF.out.f7 (by simpa using h), fun h => hF.out.f8 (by simpa using h), fun h => hF.out.f9 (by simpa using h), fun h => by have := hF.out.o3_1 (by simpa using h); simpa using this, fun h => by have := hF.out.o7_5 (by simpa using h); simpa using this, fun h => by have := hF.out.o8_3 (by simpa using h); simpa using this, fun h => by have := hF.out.o8_7 (by simpa using h); simpa using this, fun h => by have := hF.out.q9_8 (by simpa using h); simpa using this, hF.out.kk, fun h => hF.out.rd (by simpa using h), fun h => hF.out.fin (by simpa using h)⟩
                  · intro d a W hI hd hdep
                    obtain ⟨x64, x65, x66, x67, x68, x69, x70, x71, x72, rfl, hF⟩ := hI
                    have hd5 : d 5 = true := dep_of hdep 5 (by kernel_rfl)
                    have hd6 : d 6 = true := dep_of hdep 6 (by kernel_rfl)
                    obtain rfl := hF.out.f5 hd5
                    obtain rfl := hF.out.f6 hd6
                    have e7_5 := hd5
                    have hz1 : (0 : Int) ≤ (z : Int) := by omega
                    have hz2 : (z : Int) ≤ (bf.size : Int) := by have := HZL.out; omega
                    clear hdep hd hd5 hd6
                    intro K hK
                    simp only [Act.put, List.setIfInBounds_toArray, List.set_cons_zero, List.set_cons_succ]
                    go_simp
                    refine hK.out _ _ ⟨x64, x65, x66, x67, x68, (.string bf), (.int .i64 (z : Int)), (.string (bf.extract z bf.size)), x72, by simp only [Act.put, List.setIfInBounds_toArray, List.set_cons_zero, List.set_cons_succ], ?_⟩
                    exact ⟨fun h => hF.out.f0 (by simpa using h), fun h => hF.out.f1 (by simpa using h), fun h => hF.out.f2 (by simpa using h), fun h => hF.out.f3 (by simpa using h), fun h => hF.out.f4 (by simpa using h), fun h => hF.out.f5 (by simpa using h), fun h => hF.out.f6 (by simpa using h), fun _ => rfl, fun h => hF.out.f8 (by simpa using h), fun h => hF.out.f9 (by simpa using h), fun h => by have := hF.out.o3_1 (by simpa using h); simpa using this, fun _ => by simpa using e7_5, fun h => by have := hF.out.o8_3 (by simpa using h); simpa using this, fun _ => by simp, fun h => by have := hF.out.q9_8 (by simpa using h); simpa using this, hF.out.kk, fun h => hF.out.rd (by simpa using h), fun h => hF.out.fin (by simpa using h)⟩
                  · intro d a W hI hd hdep
                    obtain ⟨x64, x65, x66, x67, x68, x69, x70, x71, x72, rfl, hF⟩ := hI
                    have hd3 : d 3 = true := dep_of hdep 3 (by kernel_rfl)
                    have hd7 : d 7 = true := dep_of hdep 7 (by kernel_rfl)
                    obtain rfl := hF.out.f3 hd3
                    obtain rfl := hF.out.f7 hd7
                    have e8_3 := hd3
                    have e8_7 := hd7
                    clear hdep hd hd3 hd7
                    intro K hK
                    simp only [Act.put, List.setIfInBounds_toArray, List.set_cons_zero, List.set_cons_succ]
                    go_simp
                    refine hK.out _ _ ⟨x64, x65, x66, (.int .i64 ((ia : Int) + (z : Int))), x68, x69, x70, (.string (bf.extract z bf.size)), (.agg #[.int .i64 ((ia : Int) + (z : Int)), .string (bf.extract z bf.size), .int .i64 0]), by simp only [Act.put, List.setIfInBounds_toArray, List.set_cons_zero, List.set_cons_succ], ?_⟩
                    exact ⟨fun h => hF.out.f0 (by simpa using h), fun h => hF.out.f1 (by simpa using h), fun h => hF.out.f2 (by simpa using h), fun h => hF.out.f3 (by simpa using h), fun h => hF.out.f4 (by simpa using h), fun h => hF.out.f5 (by simpa using h), fun h => hF.out.f6 (by simpa using h), fun h => hF.out.f7 (by simpa using h), fun _ => rfl, fun h => hF.out.f9 (by simpa using h), fun h => by have := hF.out.o3_1 (by simpa using h); simpa using this, fun h => by have := hF.out.o7_5 (by simpa using h); simpa using this, fun _ => by simpa using e8_3, fun _ => by simpa using e8_7, fun _ => by simp, hF.out.kk, fun h => hF.out.rd (by simpa using h), fun h => hF.out.fin (by simpa using h)⟩
                  · intro d a W hI hd hdep
                    obtain ⟨x64, x65, x66, x67, x68, x69, x70, x71, x72, rfl, hF⟩ := hI
                    have hd8 : d 8 = true := dep_of hdep 8 (by kernel_rfl)
                    obtain rfl := hF.out.f8 hd8
                    have e9_8 := hd8
                    have hrd := hF.out.rd hd
                    have ya := hrd.c0
                    have yb := hrd.c1
                    have yc := hrd.c2
                    have f0 := block_free hrd.hb 0
                    have f1 := block_free hrd.hb 1
                    have f2 := block_free hrd.hb 2
                    clear hdep hd hd8
                    intro K hK
                    simp only [Act.put, List.setIfInBounds_toArray, List.set_cons_zero, List.set_cons_succ]
                    go_simp
                    refine hK.out _ _ ⟨x64, x65, x66, x67, x68, x69, x70, x71, (.agg #[.int .i64 ((ia : Int) + (z : Int)), .string (bf.extract z bf.size), .int .i64 0]), by simp only [Act.put, List.setIfInBounds_toArray, List.set_cons_zero, List.set_cons_succ], ?_⟩
                    exact ⟨fun h => hF.out.f0 (by simpa using h), fun h => hF.out.f1 (by simpa using h), fun h => hF.out.f2 (by simpa using h), fun h => hF.out.f3 (by simpa using h), fun h => hF.out.f4 (by simpa using h), fun h => hF.out.f5 (by simpa using h), fun h => hF.out.f6 (by simpa using h), fun h => hF.out.f7 (by simpa using h), fun h => hF.out.f8 (by simpa using h), fun _ => trivial, fun h => by have := hF.out.o3_1 (by simpa using h); simpa using this, fun h => by have := hF.out.o7_5 (by simpa using h); simpa using this, fun h => by have := hF.out.o8_3 (by simpa using h); simpa using this, fun h => by have := hF.out.o8_7 (by simpa using h); simpa using this, fun _ => by simpa using e9_8, ((hF.out.kk.set _ _).set _ _).set _ _, fun h => by simp at h, fun _ => hrd.put z _⟩
                · intro d a W hI hall
                  obtain ⟨x64, x65, x66, x67, x68, x69, x70, x71, x72, rfl, hF⟩ := hI
                  simp only [List.length_cons, List.length_nil] at hall
                  obtain rfl := hF.out.f0 (hall 0 (by omega))
                  obtain rfl := hF.out.f1 (hall 1 (by omega))
                  obtain rfl := hF.out.f2 (hall 2 (by omega))
                  obtain rfl := hF.out.f3 (hall 3 (by omega))
                  obtain rfl := hF.out.f4 (hall 4 (by omega))
                  obtain rfl := hF.out.f5 (hall 5 (by omega))
                  obtain rfl := hF.out.f6 (hall 6 (by omega))
                  obtain rfl := hF.out.f7 (hall 7 (by omega))
                  obtain rfl := hF.out.f8 (hall 8 (by omega))
                  have HR9 : Hid (Hd B (w.heap.size + 1) (ia + z) (bf.extract z bf.size) (.slice va2 (ts.length + 1) vc2) (ts ++ [(r, ia, ia + z)]) W ∧ Mk B (w.heap.size + 1) wB W) := ⟨hF.out.fin (hall 9 (by omega)), HM8.out.trans hF.out.kk⟩
                  clear hF hall
                  simp only [Act.put, List.setIfInBounds_toArray, List.set_cons_zero, List.set_cons_succ]
                  go_wp2_with fail
                  have y9 := HR9.out.1.c1
                  have hl3 : (bf.extract z bf.size).size = bf.size - z := by simp
                  go_roundw
                  case rel => exact ⟨ia + z, bf.extract z bf.size, ts ++ [(r, ia, ia + z)], HR9.out.1, HR9.out.2, by rw [tail_list]; exact HN.out, by rw [hl3]; have := HZL.out; omega, by rw [List.length_append]; simp; omega, by rw [hl3]; omega⟩
                  case measure => rw [hbuf_at y9, hbuf_at HC9.out, hl3]; omega
    · have hk1 : ¬ (k : Int) < (s.size : Int) := by omega
      have HAN : Hid (an = (ia, bf.data.toList, ts, 0)) := HFZ.out.ends (Or.inl (drop_all s k (by omega)))
      have x0 := HRD.out.c0
      have x1 := HRD.out.c1
      have x2 := HRD.out.c2
      have HZ2 : Hid (wr.heap[w.heap.size + 2]? = some (.cells #[.int .i64 0, .string ⟨#[]⟩, .int .i64 0] 29 (0, 0))) := (HMK.out.blk _ (by have := HB2.out; omega) (by have := HB1E.out; omega)).trans HZB.out
      have HBE : Hid (Below w.heap.size w wr) := HMK.out.below HBW.out (by have := HB1E.out; omega) (by have := HB2.out; omega)
      have HOE : Hid (wr.ownsRow B 37 3 (.slice va ts.length vc) ts.length (tcs ts)) := HRD.out.own
      have v0 := block_cell HZ2.out 0
      have v1 := block_cell HZ2.out 1
      have v2 := block_cell HZ2.out 2
      have g0 := block_free HZ2.out 0
      have g1 := block_free HZ2.out 1
      have g2 := block_free HZ2.out 2
      simp only [List.getElem?_toArray, List.getElem?_cons_zero, List.getElem?_cons_succ] at v0 v1 v2
      go_wp2_with fail
      have hth := three (w := wr) HZ2.out (.int .i64 (ia : Int)) (.string bf) (.int .i64 0)
      have y0 := block_cell hth 0
      have y1 := block_cell hth 1
      have y2 := block_cell hth 2
      simp only [List.getElem?_toArray, List.getElem?_cons_zero, List.getElem?_cons_succ] at y0 y1 y2
      refine bodyPost_ret (v := .tuple #[.agg #[.int .i64 (ia : Int), .string bf, .int .i64 0], (.slice va ts.length vc), .int .i64 0]) (by simp [results, Try.results9, go_sem, y0, y1, y2]) rfl ?_
      have e9 : er = 0 := by rw [← HER.out, HAN.out]
      rw [e9]
      exact ⟨ia, bf, _, ts, 0, rfl, HAN.out, own_less (own_same HOE.out fun k hk => (same_three wr (w.heap.size + 2) _ _ _).2.2.2.2 k (by have := (HOE.out.lt k hk).1; have := HB2.out; omega)) HBB.out, ((HBE.out.setCell (by simp <;> omega) _).setCell (by simp <;> omega) _).setCell (by simp <;> omega) _⟩
end Go.Proofs.Ytcdnbkfjiigdmaa
