/-
  The contract of lexer.Lex.
-/
import Derived.Test.YtichmhlnjjejmaaLxLong
import Derived.Deep.AppendLies
namespace Go.Proofs.Ytichmhlnjjejmaa
open Go.RowKit
open Dfa

theorem info33 : (Try.prog.info? 33).map (fun i => (i.zero, i.size, i.bytes)) = some (some (.agg #[.int .i64 0, .int .i64 0, .int .i64 0]), 3, 24) := by kernel_rfl
/-- The cells of tokens. -/
def tc (t : Int × Nat × Nat) : List Value := [.int .i64 t.1, .int .i64 (t.2.1 : Int), .int .i64 (t.2.2 : Int)]
def tcs (ts : List (Int × Nat × Nat)) : List Value := ts.flatMap tc
theorem tcs_length (ts : List (Int × Nat × Nat)) : (tcs ts).length = ts.length * 3 := by
  induction ts with
  | nil => rfl
  | cons f fs ih => simp only [tcs, List.flatMap_cons, List.length_append, List.length_cons] at ih ⊢; rw [ih]; simp [tc]; omega
theorem tcs_append (fs gs : List (Int × Nat × Nat)) : tcs (fs ++ gs) = tcs fs ++ tcs gs := by simp [tcs]
theorem tcs_at (fs : List (Int × Nat × Nat)) (i : Nat) (hi : i < fs.length) : (tcs fs)[i * 3]? = some (.int .i64 fs[i].1) ∧ (tcs fs)[i * 3 + 1]? = some (.int .i64 (fs[i].2.1 : Int)) ∧ (tcs fs)[i * 3 + 2]? = some (.int .i64 (fs[i].2.2 : Int)) := by
  have e : fs = fs.take i ++ fs[i] :: fs.drop (i + 1) := by rw [List.getElem_cons_drop, List.take_append_drop]
  have hl : (tcs (fs.take i)).length = i * 3 := by rw [tcs_length, List.length_take]; rw [Nat.min_eq_left (by omega)]
  have hc : ∀ j, j < 3 → (tcs fs)[i * 3 + j]? = (tc fs[i])[j]? := fun j hj => by
    conv => lhs; rw [e]
    rw [tcs_append, List.getElem?_append_right (by omega), hl, Nat.add_sub_cancel_left]
    show (tc fs[i] ++ tcs (fs.drop (i + 1)))[j]? = _
    rw [List.getElem?_append_left (by simp [tc]; omega)]
  exact ⟨hc 0 (by omega), hc 1 (by omega), hc 2 (by omega)⟩
theorem tcs_snoc (fs : List (Int × Nat × Nat)) (t : Int × Nat × Nat) : tcs (fs ++ [t]) = tcs fs ++ [.int .i64 t.1, .int .i64 (t.2.1 : Int), .int .i64 (t.2.2 : Int)] := by rw [tcs_append]; rfl
theorem own_ge {w : World} {base e size n : Nat} {v : Value} {xs : List Value} (h : w.ownsRow base e size v n xs) : ∀ k, v.ownBlock = some k → base ≤ k := fun k hk => (h.lt k hk).1
theorem own_less {w : World} {base base' e size n : Nat} {v : Value} {xs : List Value} (h : w.ownsRow base e size v n xs) (hb : base' ≤ base) : w.ownsRow base' e size v n xs := by
  obtain ⟨h1, h2 | ⟨g, cap, cur, hv, hg, h3⟩⟩ := h
  · exact ⟨h1, Or.inl h2⟩
  · exact ⟨h1, Or.inr ⟨g, cap, cur, hv, by omega, h3⟩⟩
theorem own_below {w w' : World} {base e size n : Nat} {v : Value} {xs : List Value} (h : w.ownsRow base e size v n xs) {B : Nat} (hb : Below B w w') (hB : w.heap.size ≤ B) : w'.ownsRow base e size v n xs :=
  own_same h fun k hk => hb.block k (Nat.lt_of_lt_of_le (h.lt k hk).2 hB)
theorem own_form {w : World} {base e size n : Nat} {v : Value} {xs : List Value} (h : w.ownsRow base e size v n xs) : ∃ ao c, v = .slice ao n c := by
  rcases h.2 with ⟨hv, h0⟩ | ⟨g, cap, cur, hv, _⟩
  · exact ⟨none, 0, by rw [hv, h0]⟩
  · exact ⟨_, _, hv⟩

/-- Which error, and which place. -/
def errOf : Option Nat → Int
  | none => 0
  | some _ => 9

set_option maxHeartbeats 1600000 in
set_option maxRecDepth 20000 in
theorem lex_bad (O : Nat → Nat) (nv tv : Value) (n m : Nat) (L : Nat → Nat) (X : Nat → Nat → Int) (T : Nat → Int) (s : ByteArray) (w : World) (hO : ∀ j, O j < 256) (hx : Nx w nv n L X) (ht : Ts w tv m T) (hs : s.size ≤ 9223372036854775807) (hc : ¬ chkS n m O L X T s.size = 0) :
    Calls Try.prog 5 #[.agg (pl O nv tv).toArray, .string s] w fun e w' => e = .returned (.tuple #[.slice none 0 0, .int .i64 0, .int .i64 (chkS n m O L X T s.size)]) ∧ Below w.heap.size w w' := by
  obtain ⟨l, HLL⟩ : ∃ l, Hid (pl O nv tv = l) := ⟨_, (rfl : pl O nv tv = pl O nv tv)⟩
  have HP : Hid (Px w w.heap.size O nv tv n m L X T l (w.alloc (Obj.cells l.toArray 26))) := Px.box HLL.out hx ht
  have HI : Hid ((w.alloc (Obj.cells l.toArray 26)).rangeAt w.heap.size 0 l) := by show World.rangeAt _ _ _ _; rw [← HLL.out]; exact HLL.out ▸ HP.out.all
  have HQ : Hid (Calls Try.prog 11 #[.agg l.toArray, .string s] (w.alloc (Obj.cells l.toArray 26)) fun e w' => e = .returned (.int .i64 (chkS n m O L X T s.size)) ∧ Below (w.alloc (Obj.cells l.toArray 26)).heap.size (w.alloc (Obj.cells l.toArray 26)) w') := by
    have := checkS_any O nv tv n m L X T s (w.alloc (Obj.cells l.toArray 26)) hO HP.out.next HP.out.tags hs
    rw [HLL.out] at this
    exact this
  have HS : Hid ((Try.prog.info? 26).map (·.size) = some l.length) := by show _ = _; rw [← HLL.out, pl_length]; exact size26
  have HB : Hid (Below w.heap.size w (w.alloc (Obj.cells l.toArray 26))) := HP.out.below
  rw [HLL.out]
  clear hO hx ht
  obtain ⟨c, HC⟩ : ∃ c, Hid (chkS n m O L X T s.size = c) := ⟨_, (rfl : chkS n m O L X T s.size = chkS n m O L X T s.size)⟩
  rw [HC.out] at HQ hc ⊢
  have h3 : (c == 0) = false := by simp [hc]
  go_enter Try.func5, Try.ntmps5
  go_wp2_with (refine wpList_load_mid rfl 26 _ rfl w.heap.size 0 rfl l _ HI.out Try.underlying26 rfl HS.out ?_)
  refine HQ.out.mono ?_
  rintro _ w1 ⟨rfl, hb1⟩
  have B1 : Below w.heap.size w w1 := HB.out.trans (hb1.mono HB.out.size)
  clear hb1 HQ HI
  go_wp2_with fail
  go_ret3
  exact ⟨by rfl, B1⟩

set_option maxHeartbeats 1600000 in
set_option maxRecDepth 20000 in
theorem lex_ok (O : Nat → Nat) (nv tv : Value) (n : Nat) (L : Nat → Nat) (X : Nat → Nat → Int) (T : Nat → Int) (s : ByteArray) (w : World) (hO : ∀ j, O j < 256) (hx : Nx w nv n L X) (ht : Ts w tv n T) (hok : chkP n n O L X T = 0) (hs : s.size ≤ 2000) :
    Calls Try.prog 5 #[.agg (pl O nv tv).toArray, .string s] w fun e w' => ∃ v, e = .returned (.tuple #[v, .int .i64 (((Dfa.all (RR n O X) T s.data.toList).2.getD 0 : Nat) : Int), .int .i64 (errOf (Dfa.all (RR n O X) T s.data.toList).2)]) ∧
      w'.ownsRow w.heap.size 33 3 v (Dfa.all (RR n O X) T s.data.toList).1.length (tcs (Dfa.all (RR n O X) T s.data.toList).1) ∧ Below w.heap.size w w' := by
  obtain ⟨i0, hi, hz0, hz1, hz2⟩ := info_parts info33
  have hc0 : chkS n n O L X T s.size = 0 := by unfold chkS; rw [if_pos hok, if_neg (by omega)]
  obtain ⟨l, HLL⟩ : ∃ l, Hid (pl O nv tv = l) := ⟨_, (rfl : pl O nv tv = pl O nv tv)⟩
  have HP : Hid (Px w w.heap.size O nv tv n n L X T l (w.alloc (Obj.cells l.toArray 26))) := Px.box HLL.out hx ht
  have HI : Hid ((w.alloc (Obj.cells l.toArray 26)).rangeAt w.heap.size 0 l) := by show World.rangeAt _ _ _ _; rw [← HLL.out]; exact HLL.out ▸ HP.out.all
  have HQ : Hid (Calls Try.prog 11 #[.agg l.toArray, .string s] (w.alloc (Obj.cells l.toArray 26)) fun e w' => e = .returned (.int .i64 0) ∧ Below (w.alloc (Obj.cells l.toArray 26)).heap.size (w.alloc (Obj.cells l.toArray 26)) w') := by
    have := checkS_any O nv tv n n L X T s (w.alloc (Obj.cells l.toArray 26)) hO HP.out.next HP.out.tags (by omega)
    rw [HLL.out, hc0] at this
    exact this
  have HS : Hid ((Try.prog.info? 26).map (·.size) = some l.length) := by show _ = _; rw [← HLL.out, pl_length]; exact size26
  have HR : Hid (∀ wr, Px w w.heap.size O nv tv n n L X T l wr → wr.rangeAt w.heap.size 0 l) := fun wr h => by rw [← HLL.out]; exact h.all
  have HLG : Hid (∀ (wr : World) (k : Nat), Px w w.heap.size O nv tv n n L X T l wr → k ≤ s.size → Calls Try.prog 12 #[.agg l.toArray, .string s, .int .i64 (k : Int)] wr fun e w' => Tok k (lng (RR n O X) T (s.data.toList.drop k)) e ∧ Below wr.heap.size wr w') := fun wr k h hk => by
    have := long_any O nv tv n L X T s k wr hO h.next h.tags hok hs hk
    rw [HLL.out] at this
    exact this
  have hT := Tk.start (RR n O X) T s.data.toList
  rw [HLL.out]
  obtain ⟨an, HA⟩ : ∃ a, Hid (Dfa.all (RR n O X) T s.data.toList = a) := ⟨_, (rfl : Dfa.all (RR n O X) T s.data.toList = Dfa.all (RR n O X) T s.data.toList)⟩
  rw [HA.out]
  obtain ⟨er, HER⟩ : ∃ x, Hid (errOf an.2 = x) := ⟨_, (rfl : errOf an.2 = errOf an.2)⟩
  obtain ⟨pa, HPA⟩ : ∃ x : Nat, Hid (an.2.getD 0 = x) := ⟨_, (rfl : an.2.getD 0 = an.2.getD 0)⟩
  rw [HER.out, HPA.out]
  have HX0 : Hid (Nx w nv n L X) := hx
  have HT0 : Hid (Ts w tv n T) := ht
  clear hO hx ht hok hc0
  go_enter Try.func5, Try.ntmps5
  go_wp2_with (refine wpList_load_mid rfl 26 _ rfl w.heap.size 0 rfl l _ HI.out Try.underlying26 rfl HS.out ?_)
  refine HQ.out.mono ?_
  rintro _ w1 ⟨rfl, hb1⟩
  have HP1 : Hid (Px w w.heap.size O nv tv n n L X T l w1) := HP.out.step hb1
  clear hb1 HQ HI HP
  go_wp2_with fail
  go_loopw [8, 9] (fun v a wr => ∃ (k : Nat) (ts : List (Int × Nat × Nat)), a = .int .i64 (k : Int) ∧ Tk (RR n O X) T s.data.toList ts k ∧ wr.ownsRow (w.heap.size + 1) 33 3 v ts.length (tcs ts) ∧ Px w w.heap.size O nv tv n n L X T l wr) (fun _ a _ => s.size - (intOf a).toNat)
  case atStart => exact ⟨0, [], rfl, hT, World.ownsRow_nil _ _ _ _, HP1.out⟩
  case round =>
    obtain ⟨k, ts, rfl, htk, hown, hpx⟩ := hrel
    have HPX : Hid (Px w w.heap.size O nv tv n n L X T l wr) := hpx
    have HTK : Hid (Tk (RR n O X) T s.data.toList ts k) := htk
    have HI : Hid (wr.rangeAt w.heap.size 0 l) := HR.out wr hpx
    have hk : k ≤ s.size := by have := htk.1; rwa [data_size] at this
    have htl : ts.length ≤ k := htk.2.1
    have hpl := hpx.lt
    obtain ⟨va, vc, rfl⟩ := own_form hown
    have HOW : Hid (wr.ownsRow (w.heap.size + 1) 33 3 (.slice va ts.length vc) ts.length (tcs ts)) := hown
    clear hpx htk hT HP1 hown
    by_cases hlt : k < s.size
    · have hk1 : (k : Int) < (s.size : Int) := by omega
      have HL2 : Hid (k < s.data.toList.length) := by show _ < _; rw [data_size]; exact hlt
      go_wp2_with (refine wpList_load_mid rfl 26 _ rfl w.heap.size 0 rfl l _ HI.out Try.underlying26 rfl HS.out ?_)
      refine (HLG.out wr k HPX.out hk).mono ?_
      rintro _ w2 ⟨⟨ta, tb, tcc, bb, rfl, hv⟩, hb2⟩
      have HP2 : Hid (Px w w.heap.size O nv tv n n L X T l w2) := HPX.out.step hb2
      have HO2 : Hid (w2.ownsRow (w.heap.size + 1) 33 3 (.slice va ts.length vc) ts.length (tcs ts)) := own_below HOW.out hb2 (Nat.le_refl _)
      have hpl2 := HP2.out.lt
      clear hb2 HOW HPX HI
      rcases hv with ⟨hz, rfl, rfl, rfl, rfl⟩ | ⟨hz, rfl, rfl, rfl, rfl⟩
      · have HE : Hid (an = (ts, some k)) := by show _ = _; rw [← HA.out]; exact HTK.out.bad HL2.out hz
        go_wp2_with fail
        go_ret3
        have HBB : Below w.heap.size w (w2.alloc (Obj.cells #[.int .i64 0, .int .i64 0, .int .i64 0] 33)) := HP2.out.below.alloc HP2.out.below.size _
        exact ⟨_, by rw [← HER.out, ← HPA.out, HE.out]; rfl, by rw [HE.out]; exact own_less (own_below HO2.out ((Below.refl _ _).alloc (Nat.le_refl _) _) (Nat.le_refl _)) (by omega), HBB⟩
      · have HNX := HTK.out.next HL2.out (by omega)
        have hsz := HNX.1
        rw [data_size] at hsz
        obtain ⟨zr, HZ⟩ : ∃ z, Hid (lng (RR n O X) T (s.data.toList.drop k) = z) := ⟨_, (rfl : lng _ _ _ = lng _ _ _)⟩
        rw [HZ.out] at hz HNX hsz ⊢
        obtain ⟨r, z⟩ := zr
        simp only at hz HNX hsz ⊢
        have HNX2 : Hid (Tk (RR n O X) T s.data.toList (ts ++ [(r, k, k + z)]) (k + z)) := HNX
        clear HNX
        have HB2 : Hid (Below w2.heap.size w2 ((w2.alloc (Obj.cells #[Value.int .i64 r, Value.int .i64 (k : Int), Value.int .i64 ((k : Int) + (z : Int))] 33)).alloc (Obj.cells #[Value.int .i64 r, Value.int .i64 (k : Int), Value.int .i64 ((k : Int) + (z : Int))] 33))) := ((Below.refl _ _).alloc (Nat.le_refl _) _).alloc (by simp) _
        have HO3 : Hid (((w2.alloc (Obj.cells #[Value.int .i64 r, Value.int .i64 (k : Int), Value.int .i64 ((k : Int) + (z : Int))] 33)).alloc (Obj.cells #[Value.int .i64 r, Value.int .i64 (k : Int), Value.int .i64 ((k : Int) + (z : Int))] 33)).ownsRow (w.heap.size + 1) 33 3 (.slice va ts.length vc) ts.length (tcs ts)) := own_below HO2.out HB2.out (Nat.le_refl _)
        have HNB : Hid (((w2.alloc (Obj.cells #[Value.int .i64 r, Value.int .i64 (k : Int), Value.int .i64 ((k : Int) + (z : Int))] 33)).alloc (Obj.cells #[Value.int .i64 r, Value.int .i64 (k : Int), Value.int .i64 ((k : Int) + (z : Int))] 33)).heap[w2.heap.size + 1]? = some (.cells #[Value.int .i64 r, Value.int .i64 (k : Int), Value.int .i64 ((k : Int) + (z : Int))] 33 (0, 0))) := by
          have := heap_alloc_new (w2.alloc (Obj.cells #[Value.int .i64 r, Value.int .i64 (k : Int), Value.int .i64 ((k : Int) + (z : Int))] 33)) (Obj.cells #[Value.int .i64 r, Value.int .i64 (k : Int), Value.int .i64 ((k : Int) + (z : Int))] 33)
          rwa [World.size_alloc] at this
        have HFB : Hid (((w2.alloc (Obj.cells #[Value.int .i64 r, Value.int .i64 (k : Int), Value.int .i64 ((k : Int) + (z : Int))] 33)).alloc (Obj.cells #[Value.int .i64 r, Value.int .i64 (k : Int), Value.int .i64 ((k : Int) + (z : Int))] 33)).heap[w2.heap.size]? = some (.cells #[Value.int .i64 r, Value.int .i64 (k : Int), Value.int .i64 ((k : Int) + (z : Int))] 33 (0, 0))) :=
          (((Below.refl (w2.heap.size + 1) (w2.alloc _)).alloc (by simp) _).block w2.heap.size (by omega)).trans (heap_alloc_new w2 _)
        go_wp2_with (at_builtin; refine wpList_append_own _ rfl _ _ 29 rfl (w.heap.size + 1) 33 i0 (.agg #[.int .i64 0, .int .i64 0, .int .i64 0]) 3 24 Try.underlying29 hi hz0 hz1 hz2 rfl (by decide) _ _ _ rfl HO3.out ⟨w2.heap.size + 1, 0, none⟩ 1 1 [.int .i64 r, .int .i64 (k : Int), .int .i64 ((k : Int) + (z : Int))] rfl rfl (World.news_of_block (t := 33) (fr := (0, 0)) HNB.out) (by simp [Value.oneCell']) (by unfold maxLen; omega) (by omega) (by simp; omega) ?_)
        intro v' w4 hown' hgrow _
        have s4 := hgrow.size
        simp only [World.size_alloc] at s4
        have z2 : w4.cell? ⟨w2.heap.size, 2, none⟩ = some (.int .i64 ((k : Int) + (z : Int))) := by
          have h1 : w4.heap[w2.heap.size]? = _ := (hgrow.block w2.heap.size (by simp; omega) (fun e => by have := (HO2.out.lt _ e.symm).2; omega)).trans HFB.out
          exact block_cell h1 2
        have R1 : Hid (w4.ownsRow (w.heap.size + 1) 33 3 v' (ts ++ [(r, k, k + z)]).length (tcs (ts ++ [(r, k, k + z)]))) := by
          show World.ownsRow _ _ _ _ _ _ _
          rw [tcs_snoc, List.length_append]
          have e : ((k + z : Nat) : Int) = (k : Int) + (z : Int) := by omega
          simp only [e]
          exact hown'
        have HBW : Below w.heap.size w w4 := Below.grown (HP2.out.below.trans (HB2.out.mono HP2.out.below.size)) hgrow (by simp; have := HP2.out.below.size; omega) (fun q hq => by have := own_ge HO3.out q hq; omega)
        have HP4 : Hid (Px w w.heap.size O nv tv n n L X T l w4) := HP2.out.moved HX0.out HT0.out HBW ((hgrow.block _ (by simp; omega) (fun e => by have := own_ge HO3.out _ e.symm; omega)).trans (HB2.out.block _ hpl2)) (by omega)
        obtain ⟨v'a, v'c, rfl⟩ := own_form hown'
        clear hown' hgrow HO3 HNB HFB HB2 HO2 HP2 HBW
        go_wp2_with fail
        go_roundw
        case rel => exact ⟨k + z, _, by go_num, HNX2.out, R1.out, HP4.out⟩
        case measure => simp [intOf]; omega
    · have hk1 : ¬ (k : Int) < (s.size : Int) := by omega
      have HE : Hid (an = (ts, none)) := by show _ = _; rw [← HA.out]; exact HTK.out.over (by rw [data_size]; omega)
      go_wp2_with fail
      go_ret3
      exact ⟨_, by rw [← HER.out, ← HPA.out, HE.out]; rfl, by rw [HE.out]; exact own_less HOW.out (by omega), HPX.out.below⟩
end Go.Proofs.Ytichmhlnjjejmaa
