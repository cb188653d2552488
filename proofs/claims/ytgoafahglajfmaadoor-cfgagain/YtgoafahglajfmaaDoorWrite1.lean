/-
  The contracts of strings.Builder's WriteString, of cfg.symText and cfg.prodText.
-/
import Derived.Test.YtgoafahglajfmaaDoorRdProd
import Derived.Lib.Builder
import Derived.Lib.AppendStr
import Derived.Laws.Externs
namespace Go.Proofs.YtgoafahglajfmaaDoor
open Go.RowKit
open Cg

theorem info5 : (Tryd.prog.info? 5).map (fun i => (i.zero, i.size, i.bytes)) = some (some (.int .u8 0), 1, 1) := by kernel_rfl
theorem grown_of_below {w w' : World} (h : Below w.heap.size w w') : w.grownBy w' none := ⟨h.os, h.tape, h.output, h.size, fun k hk _ => h.block k hk⟩
theorem owns_below {w w' : World} {base e size n : Nat} {v : Value} {xs : List Value} (h : w.ownsRow base e size v n xs) (hb : Below w.heap.size w w') : w'.ownsRow base e size v n xs := by
  refine h.kept (grown_of_below hb) ?_
  cases hv : v.ownBlock with
  | none => exact Or.inl rfl
  | some k => exact Or.inr (by simp)
theorem builder_below {w w' : World} {B b : Nat} {bs : List Value} (h : Lib.IsBuilder 47 5 B b bs w) (hb : Below w.heap.size w w') : Lib.IsBuilder 47 5 B b bs w' := by
  rcases h with h | h
  · have hlt := h.lt
    obtain ⟨h1, v, h2, h3, h4⟩ := h
    exact Or.inl ⟨h1, v, (hb.block b hlt).trans h2, owns_below h3 hb, h4⟩
  · have hlt := h.lt
    obtain ⟨h1, v, h2, h3, h4⟩ := h
    exact Or.inr ⟨h1, v, (hb.block b hlt).trans h2, owns_below h3 hb, h4⟩

theorem size51 : (Tryd.prog.info? 47).map (·.size) = some 2 := by kernel_rfl
theorem lies51 : liesAt Tryd.prog Tryd.prog.depth 47 (2 / Tryd.prog.cellsOf 47) 0 47 1 = true := by kernel_rfl

set_option maxRecDepth 100000 in
theorem copyCheck_used (b : Nat) (w : World) (h0 : w.cell? ⟨b, 0, none⟩ = some (.pointer (some ⟨b, 0, none⟩))) :
    Calls Tryd.prog 29 #[.pointer (some ⟨b, 0, none⟩)] w fun e w' => e = .returned (.tuple #[]) ∧ w' = w := by
  obtain ⟨j, hj, _⟩ := Option.map_eq_some_iff.1 size51
  have hne := Lib.run_neq_ptr_same w ⟨b, 0, none⟩ Tryd.underlying44 hj
  go_enter Tryd.func29, Tryd.ntmps29
  go_wp2
  go_end0
  exact ⟨rfl, rfl⟩
set_option maxRecDepth 100000 in
theorem copyCheck_fresh (b : Nat) (w : World) (h0 : w.cell? ⟨b, 0, none⟩ = some (.pointer none)) (hsh : w.shape? b = some (47, 2)) (hfz : w.frozen? ⟨b, 0, none⟩ = false) :
    Calls Tryd.prog 29 #[.pointer (some ⟨b, 0, none⟩)] w fun e w' => e = .returned (.tuple #[]) ∧ w' = w.setCell ⟨b, 0, none⟩ (.pointer (some ⟨b, 0, none⟩)) := by
  obtain ⟨j, hj, hjs⟩ := Option.map_eq_some_iff.1 size51
  have hu := Lib.run_to_unsafe w ⟨b, 0, none⟩ Tryd.underlying44 Tryd.underlying73 hj (by rw [hjs]; decide) hsh (Nat.zero_lt_succ 1)
  have hf := Lib.run_from_unsafe w ⟨b, 0, none⟩ Tryd.underlying73 Tryd.underlying44 hj hsh lies51
  go_enter Tryd.func29, Tryd.ntmps29
  go_wp2
  rw [run_callFunc_extern Tryd.func37 (by kernel_rfl) (by kernel_rfl) (by kernel_rfl) (e := Extern.AbiNoEscape.same) (by kernel_rfl), Lib.run_noEscape]
  simp only [Result.andThen]
  rw [Oper.upon_value]
  go_wp2
  go_end0
  exact ⟨rfl, rfl⟩
theorem copyCheck_any (B b : Nat) (bs : List Value) (w : World) (h : Lib.IsBuilder 47 5 B b bs w) :
    Calls Tryd.prog 29 #[.pointer (some ⟨b, 0, none⟩)] w fun e w' => e = .returned (.tuple #[]) ∧ Lib.BuilderAt 47 5 B b (.pointer (some ⟨b, 0, none⟩)) bs w' ∧ Below B w w' := by
  rcases h with h | h
  · refine (copyCheck_fresh b w h.cell0 h.shape h.frozen0).mono ?_
    rintro e w' ⟨rfl, rfl⟩
    exact ⟨rfl, h.used _, (Below.refl B w).setCell (p := ⟨b, 0, none⟩) h.1 _⟩
  · refine (copyCheck_used b w h.cell0).mono ?_
    rintro e w' ⟨rfl, rfl⟩
    exact ⟨rfl, h, Below.refl B _⟩
set_option maxHeartbeats 800000 in
set_option maxRecDepth 100000 in
/-- A text is laid behind what the builder holds. -/
theorem write_any (B b : Nat) (l : List UInt8) (s : ByteArray) (w : World) (h : Lib.IsBuilder 47 5 B b (Lib.byteCells l) w) (hlen : l.length + s.size ≤ 1000000) (hBw : B ≤ w.heap.size) :
    Calls Tryd.prog 16 #[.pointer (some ⟨b, 0, none⟩), .string s] w fun e w' => e = .returned (.tuple #[.int .i64 s.size, .nilIface]) ∧ Lib.IsBuilder 47 5 B b (Lib.byteCells (l ++ s.data.toList)) w' ∧ Below B w w' := by
  obtain ⟨i0, hi, hz0, hz1, hz2⟩ := info_parts info5
  have hbl := Lib.byteCells_length l
  go_enter Tryd.func16, Tryd.ntmps16
  go_wp2_with (go_at_call 29; refine (copyCheck_any B b _ _ h).mono ?_)
  rintro e w1 ⟨rfl, h1, hb1⟩
  have hlt := h1.lt
  obtain ⟨hB, v, hbk, hown, hne⟩ := h1
  have hb1s := hb1.size
  have c0 : w1.cell? ⟨b, 0, none⟩ = some (.pointer (some ⟨b, 0, none⟩)) := by rw [Lib.cell_of_heap hbk]; rfl
  have c1 : w1.cell? ⟨b, 1, none⟩ = some v := by rw [Lib.cell_of_heap hbk]; rfl
  go_wp2_with (at_builtin; refine Lib.wpList_append_own_string _ rfl _ _ 45 9 rfl B 5 i0 Tryd.underlying45 Tryd.underlying9 hi hz0 hz1 hz2 _ _ _ rfl hown s rfl (by unfold maxLen; omega) (by omega) (by omega) ?_)
  intro v' w2 hown' hgrow _
  have hb2 : w2.heap[b]? = some (.cells #[.pointer (some ⟨b, 0, none⟩), v] 47 (0, 0)) := by
    rw [hgrow.block b hlt (fun e => hne e.symm)]
    exact hbk
  have d0 : w2.cell? ⟨b, 0, none⟩ = some (.pointer (some ⟨b, 0, none⟩)) := by rw [Lib.cell_of_heap hb2]; rfl
  have d1 : w2.cell? ⟨b, 1, none⟩ = some v := by rw [Lib.cell_of_heap hb2]; rfl
  have f1 : w2.frozen? ⟨b, 1, none⟩ = false := Lib.frozen_of_heap hb2 1
  obtain ⟨ao, n', cap, rfl⟩ : ∃ ao n' cap, v' = .slice ao n' cap := by
    rcases hown'.2 with ⟨hv, _⟩ | ⟨g, cap, cur, hv, _⟩
    · exact ⟨_, _, _, hv⟩
    · exact ⟨_, _, _, hv⟩
  have R : Lib.IsBuilder 47 5 B b (Lib.byteCells (l ++ s.data.toList)) (w2.setCell ⟨b, 1, none⟩ (.slice ao n' cap)) ∧ Below B w (w2.setCell ⟨b, 1, none⟩ (.slice ao n' cap)) := by
    constructor
    · refine Or.inr (Lib.BuilderAt.put (T := 47) (e := 5) hB hb2 (bs' := Lib.byteCells (l ++ s.data.toList)) ?_ (by decide))
      have e : Lib.byteCells (l ++ s.data.toList) = Lib.byteCells l ++ Lib.strCells s := by rw [Lib.byteCells_append]; rfl
      rw [e, List.length_append, Lib.strCells_length, hbl]
      exact hown'
    · exact (hb1.grown hgrow (by omega) (fun k hk => (hown.lt k hk).1)).setCell (p := ⟨b, 1, none⟩) hB _
  clear hown hown' hgrow
  go_wp2
  go_ret2
  exact ⟨rfl, R.1, R.2⟩

namespace Cg
open Go.Lib (decDigits)
def symT (s : Sy) : List UInt8 := (if s.1 = 2 then 110 else 116) :: decDigits s.2.toNat
def bodyT (l : List Sy) : List UInt8 := l.flatMap fun s => 32 :: symT s
def prodT (p : Pd) : List UInt8 := decDigits p.1.toNat ++ 58 :: bodyT p.2
def text (t n : Int) (ps : List Pd) : List UInt8 := (decDigits t.toNat ++ 32 :: (decDigits n.toNat ++ [10])) ++ ps.flatMap fun p => prodT p ++ [10]
theorem dec_len {i : Nat} (h : i < 100) : (decDigits i).length ≤ 2 := by
  by_cases h1 : i < 10
  · rw [Go.Lib.decDigits_one h1]; simp
  · rw [Go.Lib.decDigits_two h1 h]; simp
theorem symT_len (s : Sy) (h : s.2.toNat < 100) : (symT s).length ≤ 3 := by unfold symT; have := dec_len h; simp; omega
theorem bodyT_len (l : List Sy) (h : ∀ s ∈ l, s.2.toNat < 100) : (bodyT l).length ≤ l.length * 4 := by
  induction l with
  | nil => simp [bodyT]
  | cons s l ih =>
    have h1 := ih fun x hx => h x (by simp [hx])
    have h2 := symT_len s (h s (by simp))
    unfold bodyT at h1 ⊢
    rw [List.flatMap_cons, List.length_append, List.length_cons, List.length_cons]
    omega
theorem prodT_len (p : Pd) (h : p.1.toNat < 100) (hl : ∀ s ∈ p.2, s.2.toNat < 100) (h8 : p.2.length ≤ 8) : (prodT p).length ≤ 35 := by
  unfold prodT
  have h1 := dec_len h
  have h2 := bodyT_len p.2 hl
  rw [List.length_append, List.length_cons]; omega
end Cg
theorem itoa_any (x : Int) (h0 : 0 ≤ x) (h1 : x < 100) (w : World) : Calls Tryd.prog 15 #[.int .i64 x] w fun e w' => e = .returned (.string ⟨(Go.Lib.decDigits x.toNat).toArray⟩) ∧ w' = w := by
  obtain ⟨i, rfl⟩ : ∃ i : Nat, x = (i : Int) := ⟨x.toNat, by omega⟩
  exact Tryd.strconv_Itoa_small i (by omega) w
theorem bs_append (a b : List UInt8) : (⟨a.toArray⟩ : ByteArray) ++ ⟨b.toArray⟩ = ⟨(a ++ b).toArray⟩ := by
  apply ByteArray.ext
  simp [ByteArray.data_append]
theorem bs3 (a b c : List UInt8) : (⟨a.toArray⟩ : ByteArray) ++ ((⟨b.toArray⟩ : ByteArray) ++ (⟨c.toArray⟩ : ByteArray)) = ⟨(a ++ (b ++ c)).toArray⟩ := by rw [bs_append, bs_append]
set_option maxHeartbeats 1600000 in
set_option maxRecDepth 20000 in
theorem symText_any (s0 s1 : Int) (h0 : 0 ≤ s1) (h1 : s1 < 100) (w : World) :
    Calls Tryd.prog 30 #[.agg #[.int .i64 s0, .int .i64 s1]] w fun e w' => e = .returned (.string ⟨(symT (s0, s1)).toArray⟩) ∧ Below w.heap.size w w' := by
  obtain ⟨dd, HD⟩ : ∃ dd, Hid (Go.Lib.decDigits s1.toNat = dd) := ⟨_, (rfl : Go.Lib.decDigits s1.toNat = Go.Lib.decDigits s1.toNat)⟩
  have HDL : Hid (dd.length ≤ 2) := by show _ ≤ _; rw [← HD.out]; exact dec_len (by omega)
  have hc := itoa_any s1 h0 h1 (w.alloc (Obj.cells #[.int .i64 s0, .int .i64 s1] 42))
  rw [HD.out] at hc
  obtain ⟨r, HR⟩ : ∃ r, Hid (symT (s0, s1) = r) := ⟨_, (rfl : symT (s0, s1) = symT (s0, s1))⟩
  rw [HR.out]
  by_cases h2 : s0 = 2
  · subst h2
    obtain rfl : r = 110 :: dd := by rw [← HR.out]; unfold symT; simp [HD.out]
    go_enter Tryd.func30, Tryd.ntmps30
    go_wp2_with fail
    refine hc.mono ?_
    rintro _ w1 ⟨rfl, rfl⟩
    have hdl : dd.length ≤ 2 := HDL.out
    go_wp2_with fail
    go_ret
    exact ⟨by rw [show (⟨(110 :: dd).toArray⟩ : ByteArray) = ⟨#[110]⟩ ++ ⟨dd.toArray⟩ from (bs_append [110] dd).symm]; rfl, below_alloc _ _⟩
  · have h2b : (s0 == 2) = false := by simp; exact h2
    obtain rfl : r = 116 :: dd := by rw [← HR.out]; unfold symT; simp [HD.out, h2]
    clear h2
    go_enter Tryd.func30, Tryd.ntmps30
    go_wp2_with fail
    refine hc.mono ?_
    rintro _ w1 ⟨rfl, rfl⟩
    have hdl : dd.length ≤ 2 := HDL.out
    go_wp2_with fail
    go_ret
    exact ⟨by rw [show (⟨(116 :: dd).toArray⟩ : ByteArray) = ⟨#[116]⟩ ++ ⟨dd.toArray⟩ from (bs_append [116] dd).symm]; rfl, below_alloc _ _⟩
set_option maxHeartbeats 3200000 in
set_option maxRecDepth 20000 in
theorem prodText_any (x : Int) (u : Value) (l : List Sy) (w : World) (h : Syms w u l) (h0 : 0 ≤ x) (h1 : x < 100) (h8 : l.length ≤ 8) (hl : ∀ s ∈ l, 0 ≤ s.2 ∧ s.2 < 100) :
    Calls Tryd.prog 17 #[.agg #[.int .i64 x, u]] w fun e w' => e = .returned (.string ⟨(prodT (x, l)).toArray⟩) ∧ Below w.heap.size w w' := by
  have HSY : Hid (Syms w u l) := h
  obtain ⟨bo, bc, rfl, hm, hcs⟩ := h
  have HLS : Hid (∀ s ∈ l, 0 ≤ s.2 ∧ s.2 < 100) := hl
  obtain ⟨dd, HD⟩ : ∃ dd, Hid (Go.Lib.decDigits x.toNat = dd) := ⟨_, (rfl : Go.Lib.decDigits x.toNat = Go.Lib.decDigits x.toNat)⟩
  have HDL : Hid (dd.length ≤ 2) := by show _ ≤ _; rw [← HD.out]; exact dec_len (by omega)
  have hc := itoa_any x h0 h1 (w.alloc (Obj.cells #[.int .i64 x, .slice bo l.length bc] 39))
  rw [HD.out] at hc
  have HB0 : Hid (Below w.heap.size w (w.alloc (Obj.cells #[.int .i64 x, .slice bo l.length bc] 39))) := below_alloc _ _
  clear hl
  go_enter Tryd.func17, Tryd.ntmps17
  go_wp2_with fail
  refine hc.mono ?_
  rintro _ w1 ⟨rfl, rfl⟩
  have hdl : dd.length ≤ 2 := HDL.out
  clear hc
  go_wp2_with fail
  generalize w.alloc (Obj.cells #[.int .i64 x, .slice bo l.length bc] 39) = wb at HB0 ⊢
  obtain ⟨t0, HT0⟩ : ∃ t0, Hid (((⟨dd.toArray⟩ : ByteArray) ++ ⟨#[58]⟩) = t0) := ⟨_, (rfl : ((⟨dd.toArray⟩ : ByteArray) ++ (⟨#[58]⟩ : ByteArray)) = ((⟨dd.toArray⟩ : ByteArray) ++ (⟨#[58]⟩ : ByteArray)))⟩
  rw [HT0.out]
  go_loopw [13, 3] (fun i v wr => ∃ q : Nat, q ≤ l.length ∧ i = .int .i64 (q : Int) ∧ v = .string ⟨(dd ++ [58] ++ bodyT (l.take q)).toArray⟩ ∧ Below w.heap.size w wr) (fun i _ _ => l.length - (intOf i).toNat)
  case atStart =>
    refine ⟨0, by omega, rfl, ?_, HB0.out⟩
    rw [← HT0.out, show bodyT (l.take 0) = [] from rfl, List.append_nil, ← bs_append dd [58]]
  case round =>
    obtain ⟨q, hq, rfl, rfl, hbel⟩ := hrel
    clear HB0
    by_cases hlt : q < l.length
    · obtain ⟨b, o, rfl, hb, hcc⟩ := hcs.resolve_left (by intro e; subst e; simp at hlt)
      obtain ⟨d0, d1⟩ := hcc q hlt
      have HBT : Hid (bodyT (l.take (q + 1)) = bodyT (l.take q) ++ 32 :: symT (l[q].1, l[q].2)) := by
        show _ = _
        unfold bodyT
        rw [List.take_succ_eq_append_getElem hlt, List.flatMap_append]; simp
      have HLQ : Hid (0 ≤ l[q].2 ∧ l[q].2 < 100) := HLS.out l[q] (List.getElem_mem hlt)
      have HTL : Hid ((bodyT (l.take q)).length ≤ 32) := by
        show _ ≤ _
        have h1 := bodyT_len (l.take q) (fun s hs => by have := HLS.out s (List.mem_of_mem_take hs); omega)
        have h2 : (l.take q).length ≤ 8 := by rw [List.length_take]; omega
        omega
      generalize l[q].1 = s0 at d0 HBT
      generalize l[q].2 = s1 at d1 HBT HLQ
      replace d0 : wr.cell? ⟨b, o + q * 2, none⟩ = _ := (hbel.cell (p := ⟨b, o + q * 2, none⟩) hb).trans d0
      replace d1 : wr.cell? ⟨b, o + q * 2 + 1, none⟩ = _ := (hbel.cell (p := ⟨b, o + q * 2 + 1, none⟩) hb).trans d1
      have hk1 : (q : Int) < (l.length : Int) := by omega
      have HBA : Hid (Below w.heap.size w (wr.alloc (Obj.cells #[.int .i64 s0, .int .i64 s1] 42))) := hbel.alloc hbel.size _
      obtain ⟨tt, HTT⟩ : ∃ tt, Hid (dd ++ [58] ++ bodyT (l.take q) = tt) := ⟨_, (rfl : dd ++ [58] ++ bodyT (l.take q) = dd ++ [58] ++ bodyT (l.take q))⟩
      have htl : tt.length ≤ 35 := by rw [← HTT.out]; have := HTL.out; simp; omega
      obtain ⟨st, HSTT⟩ : ∃ st, Hid (symT (s0, s1) = st) := ⟨_, (rfl : symT (s0, s1) = symT (s0, s1))⟩
      have hstl : st.length ≤ 3 := by rw [← HSTT.out]; exact symT_len (s0, s1) (by have := HLQ.out; show s1.toNat < 100; omega)
      have hcs2 := symText_any s0 s1 HLQ.out.1 HLQ.out.2 (wr.alloc (Obj.cells #[.int .i64 s0, .int .i64 s1] 42))
      rw [HSTT.out] at hcs2 HBT
      have HNX : Hid (dd ++ [58] ++ bodyT (l.take (q + 1)) = tt ++ (32 :: st)) := by show _ = _; rw [HBT.out, ← List.append_assoc, HTT.out]
      rw [HTT.out]
      clear hcs hcc hbel
      go_wp2_with fail
      refine hcs2.mono ?_
      rintro _ w2 ⟨rfl, hb2⟩
      have HB2 : Hid (Below w.heap.size w w2) := HBA.out.trans (hb2.mono HBA.out.size)
      clear hcs2 hb2 d0 d1 HBA
      go_wp2_with fail
      go_roundw
      case rel =>
        refine ⟨q + 1, by omega, by go_num, ?_, HB2.out⟩
        rw [HNX.out, show (tt ++ 32 :: st) = tt ++ ([32] ++ st) from rfl, ← bs3 tt [32] st]
      case measure => simp [intOf]; omega
    · have HPT : Hid (dd ++ [58] ++ bodyT (l.take q) = prodT (x, l)) := by
        show _ = _
        rw [List.take_of_length_le (by omega), ← HD.out]; unfold prodT; simp
      rw [HPT.out]
      go_wp2_with fail
      go_ret
      exact ⟨rfl, hbel⟩
end Go.Proofs.YtgoafahglajfmaaDoor
