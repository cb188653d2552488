/-
  The contract of the walk's text.
-/
import Derived.Test.YtlgcggfenljdnaaShelf
import Derived.Test.YtlgcggfenljdnaaApNew
import Derived.Deep.DrawnRows
import Derived.Laws.BytesArg
namespace Go.Proofs.Ytlgcggfenljdnaa
open Go.RowKit
open Dfa
open Go.Sort (putRow mapBlock Holds)

theorem put_other {α : Type} [Inhabited α] (enc : α → Value) (w : World) (n g off : Nat) (d : Array α) (b : Nat) (h : b ≠ g) : (putRow enc (Sort.ahead w n) g off d).heap[b]? = w.heap[b]? := by
  simp only [putRow, mapBlock, Sort.ahead]
  rw [Array.getElem?_modify, if_neg (Ne.symm h)]
theorem put_size {α : Type} [Inhabited α] (enc : α → Value) (w : World) (n g off : Nat) (d : Array α) : (putRow enc (Sort.ahead w n) g off d).heap.size = w.heap.size := by
  simp [putRow, mapBlock, Sort.ahead]
theorem put_below {α : Type} [Inhabited α] (enc : α → Value) (w : World) (n g off B : Nat) (d : Array α) (h : B ≤ g) : Below B w (putRow enc (Sort.ahead w n) g off d) := by
  exact ⟨rfl, rfl, rfl, by rw [put_size]; exact Nat.le_refl _, fun k hk => put_other enc w n g off d k (by omega)⟩
def lies (l : List UInt8) : List Value := l.map fun b => Value.int .u8 (b.toNat : Int)
theorem run_convert_nil (w : World) : (convert 97 9 (.slice none 0 0)).run Try.prog w = .ok (.string ⟨#[]⟩) w := by
  exact run_convert_bytes_nil w 97 5 Try.underlying97 Try.underlying5 0 0 9 Try.underlying9
theorem info5 : (Try.prog.info? 5).map (fun i => (i.zero, i.size, i.bytes)) = some (some (.int .u8 0), 1, 1) := by kernel_rfl
theorem holds_own {w : World} {base n : Nat} {v : Value} {l : List UInt8} (h : w.ownsRow base 5 1 v n (lies l)) (h0 : l ≠ []) : ∃ gv cap, v = .slice (some ⟨gv, 0, none⟩) l.length cap ∧ base ≤ gv ∧ Holds (fun b : UInt8 => Value.int .u8 (b.toNat : Int)) w gv 0 l.toArray := by
  have hln : l.length = n := by have := h.1; simpa [lies] using this
  have hpos : 0 < l.length := List.length_pos_iff.2 h0
  obtain ⟨hl, ⟨h1, h2⟩ | ⟨gv, cap, cur, hv, hg, hh, hnn, hc, hs, ht⟩⟩ := h
  · omega
  · refine ⟨gv, cap, by rw [hln]; exact hv, hg, fun j hj => ?_⟩
    have hj' : j < l.length := by simpa using hj
    have e : w.cell? ⟨gv, 0 + j, none⟩ = cur[j]? := by simp [World.cell?, hh]
    refine ⟨?_, by simp [World.frozen?, hh]⟩
    rw [e, getElem!_pos _ j hj]
    have h2 : (cur.toList.take (n * 1))[j]? = (lies l)[j]? := by rw [ht]
    rw [List.getElem?_take_of_lt (by omega)] at h2
    have h3 : (lies l)[j]? = some (.int .u8 (l[j].toNat : Int)) := by simp [lies, List.getElem?_eq_getElem hj']
    rw [h3] at h2
    simpa using h2

set_option maxHeartbeats 8000000 in
set_option maxRecDepth 20000 in
theorem text_any {RA RB : Nat → Nat → Int} {G n m : Nat} {F : Nat → Nat → Bool} {Q : List S} {sv : Value} {a b : Nat} (at0 : Nat) (w : World) (h : Wk RA RB G n m F Q sv w) (hi : Inv (pr RA RB) Q a b) (ha : at0 < Q.length) (hQ : Q.length ≤ 50000) :
    Calls Try.prog 39 #[.pointer (some ⟨G + 1, 0, none⟩), .int .i64 (at0 : Int)] w fun e w' => e = .returned (.string ⟨(Dfa.g Q at0).wd.toArray⟩) ∧ Below w.heap.size w w' := by
  have HWK : Hid (Wk RA RB G n m F Q sv w) := h
  have HI : Hid (Inv (pr RA RB) Q a b) := hi
  have HQ : Hid (Q.length ≤ 50000) := hQ
  obtain ⟨gs, cap, rfl, hgs, hgl, hcell⟩ := h.stop (by omega)
  have HCL : Hid (∀ i, i < Q.length → ∀ j, j < 4 → w.cell? ⟨gs, i * 4 + j, none⟩ = (sc RA RB (Dfa.g Q i))[j]?) := hcell
  have HBX : Hid (w.cell? ⟨G + 1, 0, none⟩ = some (.slice (some ⟨gs, 0, none⟩) Q.length cap) ∧ G + 1 < w.heap.size) := ⟨by have := h.box.cell (i := 0) (by omega); simpa using this, h.box.lt⟩
  obtain ⟨i5, hi5, hz5, hs5, hb5⟩ := info_parts info5
  have H5 : Hid (Try.prog.info? 5 = some i5 ∧ i5.zero = some (.int .u8 0) ∧ i5.size = 1 ∧ i5.bytes = 1) := ⟨hi5, hz5, hs5, hb5⟩
  clear hi5 hz5 hs5 hb5 h hi hcell hQ
  go_enter Try.func39, Try.ntmps39
  go_wp2_with fail
  go_loopw [1, 5] (fun i v wr => ∃ k : Nat, k < Q.length ∧ i = .int .i64 (k : Int) ∧ Below w.heap.size w wr ∧ Hid (∃ l : List UInt8, (Dfa.g Q at0).wd = (Dfa.g Q k).wd ++ l.reverse ∧ l.length + k ≤ at0 ∧ (l = [] → v = .slice none 0 0) ∧ wr.ownsRow w.heap.size 5 1 v l.length (lies l))) (fun i _ _ => (intOf i).toNat)
  case atStart => exact ⟨at0, ha, rfl, Below.refl _ _, [], by simp, by simp, fun _ => rfl, ⟨by simp [lies], Or.inl ⟨rfl, rfl⟩⟩⟩
  case round =>
    obtain ⟨k, hk, rfl, hbel, HL⟩ := hrel
    obtain ⟨l, hw1, hw2, hnil, hown⟩ := HL.out
    have HW1 : Hid ((Dfa.g Q at0).wd = (Dfa.g Q k).wd ++ l.reverse ∧ l.length + k ≤ at0) := ⟨hw1, hw2⟩
    have HBL : Hid (Below w.heap.size w wr) := hbel
    by_cases hk0 : k = 0
    · subst hk0
      have HWD : Hid ((Dfa.g Q at0).wd = l.reverse) := by show _ = _; rw [hw1, HI.out.h0]; rfl
      clear hw1 hw2 HL
      by_cases hl : l = []
      · obtain rfl := hnil hl
        have HR : Hid (Calls Try.prog 51 #[.slice none 0 0] wr fun e w' => e = .returned (.tuple #[]) ∧ w' = wr) := AnyE.slices_Reverse_empty Try.revByte none 0 wr
        have hcv : (convert 97 9 (.slice none 0 0)).run Try.prog wr = .ok (.string ⟨#[]⟩) wr := run_convert_nil wr
        have HLE : Hid (l = []) := hl
        clear hl hnil hown hbel
        go_wp2_with fail
        refine HR.out.mono ?_
        rintro _ w2 ⟨rfl, rfl⟩
        go_wp2_with fail
        go_ret
        exact ⟨by rw [HWD.out, HLE.out]; rfl, HBL.out⟩
      · obtain ⟨gv, cp, rfl, hgv, hH⟩ := holds_own hown hl
        have hln : l.length ≤ 50000 := by have := HW1.out.2; have := HQ.out; omega
        have HR : Hid (Calls Try.prog 51 #[.slice (some ⟨gv, 0, none⟩) l.length cp] wr fun e w' => e = .returned (.tuple #[]) ∧ ∃ n, w' = putRow (fun b : UInt8 => Value.int .u8 (b.toNat : Int)) (Sort.ahead wr n) gv 0 l.reverse.toArray) := AnyE.slices_Reverse Try.revByte (fun b : UInt8 => Value.int .u8 (b.toNat : Int)) (fun _ => rfl) gv 0 cp l wr hH (by omega)
        have HH : Hid (Holds (fun b : UInt8 => Value.int .u8 (b.toNat : Int)) wr gv 0 l.toArray) := hH
        clear hnil hown hbel hH hl
        go_wp2_with fail
        refine HR.out.mono ?_
        rintro _ W3 ⟨rfl, n, hW3⟩
        have HW3 : Hid (W3 = putRow (fun b : UInt8 => Value.int .u8 (b.toNat : Int)) (Sort.ahead wr n) gv 0 l.reverse.toArray) := hW3
        have hH3 : Holds (fun b : UInt8 => Value.int .u8 (b.toNat : Int)) W3 gv 0 l.reverse.toArray := by
          rw [hW3]; exact Sort.holds_putRow _ _ _ _ _ _ (Sort.holds_ahead _ _ _ _ _ _ HH.out) (by simp)
        have hcv : (convert 97 9 (.slice (some ⟨gv, 0, none⟩) l.length cp)).run Try.prog W3 = .ok (.string ⟨l.reverse.toArray⟩) W3 := by
          have hl2 : l.length = l.reverse.length := by rw [List.length_reverse]
          rw [hl2]
          refine run_convert_bytes_back _ 97 9 5 ⟨gv, 0, none⟩ cp l.reverse Try.underlying97 Try.underlying5 Try.underlying9 fun j hj => ?_
          have hadd : (⟨gv, 0, none⟩ : Addr).add j = ⟨gv, 0 + j, none⟩ := by rw [Go.WideShapes.add_plain]
          rw [hadd, (hH3 j (by simpa using hj)).1, getElem!_pos _ j (by simpa using hj)]
          simp
        clear hW3 hH3
        go_wp2_with fail
        go_ret
        exact ⟨by rw [HWD.out]; rfl, HBL.out.trans (by rw [HW3.out]; exact put_below _ _ _ _ _ _ _ hgv)⟩
    · obtain ⟨h1, h2, h3⟩ := HI.out.hw k (by omega) hk
      have cb := (hbel.cell (p := ⟨gs, k * 4 + 3, none⟩) hgl).trans (HCL.out k hk 3 (by omega))
      have cf := (hbel.cell (p := ⟨gs, k * 4 + 2, none⟩) hgl).trans (HCL.out k hk 2 (by omega))
      simp only [sc, List.getElem?_cons_succ, List.getElem?_cons_zero] at cb cf
      have cx := (hbel.cell (p := ⟨G + 1, 0, none⟩) HBX.out.2).trans HBX.out.1
      have HH3 : Hid ((Dfa.g Q k).wd = (Dfa.g Q (Dfa.g Q k).fr).wd ++ [UInt8.ofNat (Dfa.g Q k).by_]) := h3
      obtain ⟨f, HF⟩ : ∃ f, Hid ((Dfa.g Q k).fr = f) := ⟨_, (rfl : _ = _)⟩
      obtain ⟨y, HY⟩ : ∃ f, Hid ((Dfa.g Q k).by_ = f) := ⟨_, (rfl : _ = _)⟩
      rw [HF.out] at cf h1 HH3
      rw [HY.out] at cb h2 HH3
      have hki : (0 : Int) < (k : Int) := by omega
      have hkl : (k : Int) < (Q.length : Int) := by omega
      have hk00 : (0 : Int) ≤ (k : Int) := by omega
      have HOWN : Hid ((wr.alloc (Obj.cells #[.int .u8 (y : Int)] 5)).ownsRow w.heap.size 5 1 u5 l.length (lies l)) := own_same hown fun q hq => ((Below.refl wr.heap.size wr).alloc (Nat.le_refl _) _).block q (hown.lt q hq).2
      have HOW0 : Hid (∀ q, u5.ownBlock = some q → w.heap.size ≤ q) := fun q hq => (hown.lt q hq).1
      have HSZ : Hid (w.heap.size ≤ wr.heap.size) := hbel.size
      clear hown hnil hw1 hw2 HL h3 hbel
      go_wp2_with (at_builtin; refine wpList_append_own _ rfl _ _ 97 rfl w.heap.size 5 i5 (.int .u8 0) 1 1 Try.underlying97 H5.out.1 H5.out.2.1 H5.out.2.2.1 H5.out.2.2.2 rfl (by omega) _ _ _ rfl HOWN.out ⟨wr.heap.size, 0, none⟩ 1 1 [.int .u8 (y : Int)] rfl rfl ?qc2 ?qc3 ?qc4 ?qc5 ?qc6 ?_)
      case qc2 =>
        intro j u hj
        rw [Addr.add_lit, Nat.zero_add, show (Obj.cells #[Value.int .u8 (y : Int)] 5) = Obj.cells ([Value.int .u8 (y : Int)] : List Value).toArray 5 from rfl, cell_of_block]
        exact hj
      case qc3 => intro u hu; simp at hu; subst hu; rfl
      case qc4 => unfold maxLen; have := HW1.out.2; have := HQ.out; omega
      case qc5 => have := HW1.out.2; have := HQ.out; omega
      case qc6 => have := HSZ.out; simp; omega
      intro v' w1 hown hgrow hnil
      have HB1 : Hid (Below w.heap.size w w1) := (HBL.out.alloc HSZ.out _).grown hgrow (by have := HSZ.out; simp; omega) (fun q hq => HOW0.out q hq)
      have HO1 : Hid (w1.ownsRow w.heap.size 5 1 v' (l ++ [UInt8.ofNat y]).length (lies (l ++ [UInt8.ofNat y]))) := by
        have e : lies (l ++ [UInt8.ofNat y]) = lies l ++ [.int .u8 (y : Int)] := by simp [lies]; omega
        rw [e, List.length_append]
        exact hown
      have cf1 := (HB1.out.cell (p := ⟨gs, k * 4 + 2, none⟩) hgl).trans (HCL.out k hk 2 (by omega))
      simp only [sc, List.getElem?_cons_succ, List.getElem?_cons_zero] at cf1
      rw [HF.out] at cf1
      have cx1 := (HB1.out.cell (p := ⟨G + 1, 0, none⟩) HBX.out.2).trans HBX.out.1
      clear hown hgrow hnil cb cf cx
      go_wp2_with fail
      go_roundw
      case rel =>
        refine ⟨f, by omega, rfl, HB1.out, l ++ [UInt8.ofNat y], ?_, by have := HW1.out.2; simp; omega, fun e => by simp at e, HO1.out⟩
        rw [HW1.out.1, HH3.out, List.reverse_append]
        simp
      case measure => simp [intOf]; omega
end Go.Proofs.Ytlgcggfenljdnaa
