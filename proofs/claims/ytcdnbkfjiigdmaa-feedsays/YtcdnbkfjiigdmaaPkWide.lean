/-
  The contract of the document's own answer: pushref.Wide.
-/
import Derived.Test.YtcdnbkfjiigdmaaPkUnpack
import Derived.Great.BuildSlice
namespace Go.Proofs.Ytcdnbkfjiigdmaa
open Go.RowKit
open Dfa

/-- The cells of the first rows. -/
def rcl (O : Nat → Nat) (X : Nat → Nat → Int) (k : Nat) : List Value := (List.range (k * 256)).map fun q => Value.int .i16 (X (q / 256) (O (q % 256)))
theorem rcl_length (O : Nat → Nat) (X : Nat → Nat → Int) (k : Nat) : (rcl O X k).length = k * 256 := by simp [rcl]
theorem rcl_at (O : Nat → Nat) (X : Nat → Nat → Int) (k q : Nat) (hq : q < k * 256) : (rcl O X k)[q]? = some (.int .i16 (X (q / 256) (O (q % 256)))) := by simp [rcl, hq]
set_option maxRecDepth 20000 in
theorem rcl_succ (O : Nat → Nat) (X : Nat → Nat → Int) (k : Nat) : rcl O X k ++ rl (fun j => X k (O j)) = rcl O X (k + 1) := by
  apply List.ext_getElem?
  intro q
  rw [List.getElem?_append, rcl_length]
  split
  · rw [rcl_at _ _ _ q (by omega), rcl_at _ _ _ q (by omega)]
  · by_cases hq : q < (k + 1) * 256
    · rw [rcl_at _ _ _ q hq, rl_at _ _ (by omega), show q / 256 = k by omega, show q % 256 = q - k * 256 by omega]
    · rw [List.getElem?_eq_none (by rw [rl_length]; omega), List.getElem?_eq_none (by rw [rcl_length]; omega)]
theorem rl_one' (f : Nat → Int) : ∀ u ∈ rl f, u.oneCell' = true := fun v hv => by
  simp only [rl, List.mem_map] at hv
  obtain ⟨j, _, rfl⟩ := hv
  rfl
theorem fill_row (l : List Value) (h : l.length = 256) (cells : Array Value) (hc : cells.size = 256) : Instr.fill (fun i => some (i * 256, 256)) cells [(0, .agg l.toArray)] = some l.toArray := by
  have := Great.fill_whole (s := 256) (by omega) [.agg l.toArray] cells (fun v hv => by simp at hv; subst hv; simp [Value.cells, h]) (by simp [hc])
  simpa [Value.cells] using this
theorem own_same {w w' : World} {base e size n : Nat} {v : Value} {xs : List Value} (h : w.ownsRow base e size v n xs) (hs : ∀ k, v.ownBlock = some k → w'.heap[k]? = w.heap[k]?) : w'.ownsRow base e size v n xs := by
  obtain ⟨h1, h2 | ⟨g, cap, cur, hv, hg, hh, r⟩⟩ := h
  · exact ⟨h1, Or.inl h2⟩
  · subst hv
    exact ⟨h1, Or.inr ⟨g, cap, cur, rfl, hg, by rw [hs g rfl]; exact hh, r⟩⟩

/-- What is held while the rows are laid one behind the other. -/
structure Wd (w : World) (O : Nat → Nat) (b o cap b2 o2 cap2 n : Nat) (L : Nat → Nat) (X : Nat → Nat → Int) (T : Nat → Int) (l : List Value) (k : Nat) (rv : Value) (W : World) : Prop where
  px : Px w w.heap.size O (.slice (some ⟨b, o, none⟩) n cap) (.slice (some ⟨b2, o2, none⟩) n cap2) n n L X T l W
  own : W.ownsRow (w.heap.size + 3) 62 256 rv k (rcl O X k)
  st : W.rowIs (w.heap.size + 2) 51 2 (fun i => if i = 0 then rv else (.slice (some ⟨b2, o2, none⟩) n cap2))
  rs : W.rowIs (w.heap.size + 1) 51 2 (fun _ => Value.slice none 0 0)
theorem Wd.same {w : World} {O : Nat → Nat} {b o cap b2 o2 cap2 n : Nat} {L : Nat → Nat} {X : Nat → Nat → Int} {T : Nat → Int} {l : List Value} {k : Nat} {rv : Value} {W W' : World} {g : Nat} (h : Wd w O b o cap b2 o2 cap2 n L X T l k rv W) (hx : Nx w (.slice (some ⟨b, o, none⟩) n cap) n L X) (ht : Ts w (.slice (some ⟨b2, o2, none⟩) n cap2) n T) (hg : w.heap.size + 3 ≤ g) (hr : rv.ownBlock ≠ some g)
    (hs : W'.heap.size = W.heap.size ∧ W'.os = W.os ∧ W'.tape = W.tape ∧ W'.output = W.output ∧ ∀ k, k ≠ g → W'.heap[k]? = W.heap[k]?) : Wd w O b o cap b2 o2 cap2 n L X T l k rv W' :=
  ⟨h.px.set hx ht hs (by omega) (by omega), own_same h.own fun k hk => hs.2.2.2.2 k (fun e => hr (by rw [hk, e])), h.st.of_block (hs.2.2.2.2 _ (by omega)), h.rs.of_block (hs.2.2.2.2 _ (by omega))⟩
theorem Wd.set {w : World} {O : Nat → Nat} {b o cap b2 o2 cap2 n : Nat} {L : Nat → Nat} {X : Nat → Nat → Int} {T : Nat → Int} {l : List Value} {k : Nat} {rv : Value} {W W' : World} {g : Nat} (h : Wd w O b o cap b2 o2 cap2 n L X T l k rv W) (hx : Nx w (.slice (some ⟨b, o, none⟩) n cap) n L X) (ht : Ts w (.slice (some ⟨b2, o2, none⟩) n cap2) n T) (hg : w.heap.size + 3 ≤ g) (hr : rv.ownBlock ≠ some g) (hs : Sm W W') (j : Nat) (u : Value) : Wd w O b o cap b2 o2 cap2 n L X T l k rv (W'.setCell ⟨g, j, none⟩ u) :=
  h.same hx ht hg hr ⟨by simp [World.setCell, hs.heap], hs.os, hs.tape, hs.output, fun q hq => by rw [Below.heap_setCell _ _ _ _ (by simpa using hq), hs.heap]⟩
theorem Wd.alloc {w : World} {O : Nat → Nat} {b o cap b2 o2 cap2 n : Nat} {L : Nat → Nat} {X : Nat → Nat → Int} {T : Nat → Int} {l : List Value} {k : Nat} {rv : Value} {W : World} (h : Wd w O b o cap b2 o2 cap2 n L X T l k rv W) (ob : Obj) : Wd w O b o cap b2 o2 cap2 n L X T l k rv (W.alloc ob) := by
  have B := (Below.refl W.heap.size W).alloc (Nat.le_refl _) ob
  exact ⟨h.px.step B, own_same h.own fun q hq => B.block q (h.own.lt q hq).2, h.st.alloc _, h.rs.alloc _⟩
theorem Px.moved {w0 : World} {g : Nat} {O : Nat → Nat} {nv tv : Value} {n m : Nat} {L : Nat → Nat} {X : Nat → Nat → Int} {T : Nat → Int} {l : List Value} {w w' : World} (h : Px w0 g O nv tv n m L X T l w) (hx : Nx w0 nv n L X) (ht : Ts w0 tv m T)
    (hB : Below w0.heap.size w0 w') (hs : w'.heap[g]? = w.heap[g]?) (hlt : g < w'.heap.size) : Px w0 g O nv tv n m L X T l w' := by
  have e : ∀ j, w'.cell? ⟨g, j, none⟩ = w.cell? ⟨g, j, none⟩ := fun j => cell_same hs j
  exact ⟨(e _).trans h.c1, (e _).trans h.c2, fun j hj => (e _).trans (h.of j hj), fun j v hv => (e _).trans (h.all j v hv), fun j v hv => (e _).trans (h.cols j v hv), hx.below hB (Nat.le_refl _), ht.below hB (Nat.le_refl _), hlt, hB⟩
theorem Wd.next {w : World} {O : Nat → Nat} {b o cap b2 o2 cap2 n : Nat} {L : Nat → Nat} {X : Nat → Nat → Int} {T : Nat → Int} {l : List Value} {k : Nat} {rv v' : Value} {W w' : World} {ob : Obj} (h : Wd w O b o cap b2 o2 cap2 n L X T l k rv W) (hx : Nx w (.slice (some ⟨b, o, none⟩) n cap) n L X) (ht : Ts w (.slice (some ⟨b2, o2, none⟩) n cap2) n T) (hown : w'.ownsRow (w.heap.size + 3) 62 256 v' (k + 1) (rcl O X (k + 1))) (hg : (W.alloc ob).grownBy w' rv.ownBlock) :
    Wd w O b o cap b2 o2 cap2 n L X T l (k + 1) v' (w'.setCell ⟨w.heap.size + 2, 0, none⟩ v') := by
  have hsz := h.st.lt
  have hne : ∀ q, q < w.heap.size + 3 → some q ≠ rv.ownBlock := fun q hq e => by have := (h.own.lt q e.symm).1; omega
  have e : ∀ q, q < w.heap.size + 3 → w'.heap[q]? = W.heap[q]? := fun q hq => by
    rw [hg.block q (by simp; omega) (hne q hq)]
    exact ((Below.refl W.heap.size W).alloc (Nat.le_refl _) ob).block q (by omega)
  have e2 : ∀ q, q ≠ w.heap.size + 2 → (w'.setCell ⟨w.heap.size + 2, 0, none⟩ v').heap[q]? = w'.heap[q]? := fun q hq => Below.heap_setCell _ _ _ _ (by simpa using hq)
  have hBs := h.px.below.size
  have hB : Below w.heap.size w (w'.setCell ⟨w.heap.size + 2, 0, none⟩ v') := ((h.px.below.alloc hBs ob).grown hg (by simp; omega) (fun q hq => by have := (h.own.lt q hq).1; omega)).setCell (by simp) _
  have hst : w'.rowIs (w.heap.size + 2) 51 2 (fun i => if i = 0 then rv else (.slice (some ⟨b2, o2, none⟩) n cap2)) := h.st.of_block (e _ (by omega))
  refine ⟨h.px.moved hx ht hB ((e2 _ (by omega)).trans (e _ (by omega))) (by simp only [World.setCell, Array.size_modify]; have := hst.lt; omega), own_same hown fun q hq => e2 q (by have := (hown.lt q hq).1; omega), (hst.set 0 v').congr fun i hi => ?_, h.rs.of_block ((e2 _ (by omega)).trans (e _ (by omega)))⟩
  have : i = 0 ∨ i = 1 := by omega
  rcases this with rfl | rfl <;> simp
theorem rows_of_own {w : World} {base n : Nat} {v : Value} {O : Nat → Nat} {X : Nat → Nat → Int} (h : w.ownsRow base 62 256 v n (rcl O X n)) (h0 : 0 < n) (hn : n ≤ 200) (hr : ∀ i j, i < n → j < 256 → -32768 ≤ X i (O j) ∧ X i (O j) ≤ 32767) : Rw w v n (fun i j => if i < n ∧ j < 256 then X i (O j) else 0) := by
  obtain ⟨hl, ⟨h1, h2⟩ | ⟨g, cap, cur, hv, hg, hh, hnn, hc, hs, ht⟩⟩ := h
  · omega
  · refine ⟨_, cap, hv, by omega, fun i j => ?_, Or.inr ⟨g, 0, rfl, ?_, fun i hi j hj => ?_⟩⟩
    · dsimp only
      split
      · rename_i h; exact hr i j h.1 h.2
      · omega
    · rcases Nat.lt_or_ge g w.heap.size with h' | h'
      · exact h'
      · simp [Array.getElem?_eq_none h'] at hh
    · have e : w.cell? ⟨g, 0 + i * 256 + j, none⟩ = cur[i * 256 + j]? := by simp [World.cell?, hh]
      dsimp only
      rw [e, if_pos ⟨hi, hj⟩]
      have h2 : (cur.toList.take (n * 256))[i * 256 + j]? = (rcl O X n)[i * 256 + j]? := by rw [ht]
      rw [List.getElem?_take_of_lt (by omega), rcl_at _ _ _ _ (by omega), show (i * 256 + j) / 256 = i by omega, show (i * 256 + j) % 256 = j by omega] at h2
      simpa using h2
structure RW9 (w : World) (O : Nat → Nat) (b o cap b2 o2 cap2 n : Nat) (L : Nat → Nat) (X : Nat → Nat → Int) (T : Nat → Int) (l : List Value) (wr : World) (gw k j bk ok lk cp1 oj : Nat) (z : Int) (d : Nat → Bool) (x21 x22 x23 x24 x25 x26 x27 x28 x29 x30 x31 x32 x33 x34 : Value) (W : World) : Prop where
  f0 : d 0 = true → x21 = (.int .i64 (j : Int))
  f1 : d 1 = true → x22 = (.pointer (some ⟨w.heap.size, 256, none⟩))
  f2 : d 2 = true → x23 = (.slice (some ⟨b, o, none⟩) n cap)
  f3 : d 3 = true → x24 = (.int .i64 (k : Int))
  f4 : d 4 = true → x25 = (.pointer (some ⟨b, o + k, none⟩))
  f5 : d 5 = true → x26 = (.slice (some ⟨bk, ok, none⟩) lk cp1)
  f6 : d 6 = true → x27 = (.int .i64 (j : Int))
  f7 : d 7 = true → x28 = (.pointer (some ⟨w.heap.size, 0, none⟩))
  f8 : d 8 = true → x29 = (.pointer (some ⟨w.heap.size, j, none⟩))
  f9 : d 9 = true → x30 = (.int .u8 (oj : Int))
  f10 : d 10 = true → x31 = (.pointer (some ⟨bk, ok + oj, none⟩))
  f11 : d 11 = true → x32 = (.int .i64 z)
  f12 : d 12 = true → x33 = (.int .i16 z)
  f13 : d 13 = true → x34 = (.pointer (some ⟨gw, j, none⟩))
  f14 : d 14 = true → True
  p0 : d 14 = true → d 0 = true
  p1 : d 14 = true → d 1 = true
  p2 : d 14 = true → d 2 = true
  p3 : d 14 = true → d 3 = true
  p4 : d 14 = true → d 4 = true
  p5 : d 14 = true → d 5 = true
  p6 : d 14 = true → d 6 = true
  p7 : d 14 = true → d 7 = true
  p8 : d 14 = true → d 8 = true
  p9 : d 14 = true → d 9 = true
  p10 : d 14 = true → d 10 = true
  p11 : d 14 = true → d 11 = true
  p12 : d 14 = true → d 12 = true
  p13 : d 14 = true → d 13 = true
  sm : d 14 = false → Sm wr W
  fin : d 14 = true → ∃ W6, Sm wr W6 ∧ W = W6.setCell ⟨gw, j, none⟩ (.int .i16 z)

set_option maxHeartbeats 8000000 in
set_option maxRecDepth 20000 in
theorem wide_ok (O : Nat → Nat) (nv tv : Value) (n : Nat) (L : Nat → Nat) (X : Nat → Nat → Int) (T : Nat → Int) (w : World) (hx : Nx w nv n L X) (ht : Ts w tv n T) (hok : chkP n n O L X T = 0) :
    Calls Try.prog 17 #[.agg (pl O nv tv).toArray] w fun e w' => ∃ rv, e = .returned (.agg #[rv, tv]) ∧ Rw w' rv n (fun i j => if i < n ∧ j < 256 then X i (O j) else 0) ∧ (∀ q, rv.ownBlock = some q → w.heap.size ≤ q) ∧ Below w.heap.size w w' := by
  obtain ⟨hn0, hn1, -, hcols, hsts, htgs⟩ := chkP_zero hok
  obtain ⟨ao, cap, rfl, hn, hxc⟩ := id hx
  obtain ⟨ao', cap2, rfl, hm, hwf, htc⟩ := id ht
  obtain ⟨b, o, rfl, hbw, -⟩ := hxc.resolve_left (by omega)
  obtain ⟨b2, o2, rfl, -⟩ := htc.resolve_left (by omega)
  have HN : Hid (0 < n ∧ n ≤ 200) := ⟨hn0, hn1⟩
  have HX0 : Hid (Nx w (.slice (some ⟨b, o, none⟩) n cap) n L X) := hx
  have HT0 : Hid (Ts w (.slice (some ⟨b2, o2, none⟩) n cap2) n T) := ht
  have HCO : Hid (∀ i j, i < n → j < 256 → L i = L 0 ∧ O j < L i ∧ -1 ≤ X i (O j) ∧ X i (O j) ≤ (n : Int) - 1) := fun i j hi hj => by
    obtain ⟨g1, g2, g3⟩ := cols_at hcols
    have h2 : O j < L i := by rw [g1 i hi]; exact g3 j hj
    exact ⟨g1 i hi, h2, states_at hsts i (O j) hi h2⟩
  obtain ⟨l, HLL⟩ : ∃ l, Hid (pl O (.slice (some ⟨b, o, none⟩) n cap) (.slice (some ⟨b2, o2, none⟩) n cap2) = l) := ⟨_, (rfl : pl O _ _ = pl O _ _)⟩
  have HP : Hid (Px w w.heap.size O (.slice (some ⟨b, o, none⟩) n cap) (.slice (some ⟨b2, o2, none⟩) n cap2) n n L X T l (w.alloc (Obj.cells l.toArray 26))) := Px.box HLL.out hx ht
  rw [HLL.out]
  have c2 := HP.out.c2
  have B1 := (Below.refl (w.alloc (Obj.cells l.toArray 26)).heap.size (w.alloc (Obj.cells l.toArray 26))).alloc (Nat.le_refl _) (Obj.cells #[Value.slice none 0 0, Value.slice none 0 0] 51)
  have c3 := (HP.out.step B1).c2
  clear hx ht hok hwf hcols hsts htgs HLL hn0 hn1 hxc htc c2
  obtain ⟨zs, hz62, hzs⟩ := zero62
  have HZS : Hid (zs.size = 256) := hzs
  clear hzs
  obtain ⟨i62, hi62, hzz62, hs62, hb62⟩ := info_parts zero62'
  have H62 : Hid (Try.prog.info? 62 = some i62 ∧ i62.zero = some (.agg (Array.replicate 256 (.int .i16 0))) ∧ i62.size = 256 ∧ i62.bytes = 512) := ⟨hi62, hzz62, hs62, hb62⟩
  clear hi62 hzz62 hs62 hb62
  go_enter Try.func17, Try.ntmps17
  go_wp2_with fail
  clear c3
  have HW0 : Hid (Wd w O b o cap b2 o2 cap2 n L X T l 0 (.slice none 0 0) (((w.alloc (Obj.cells l.toArray 26)).alloc (Obj.cells #[Value.slice none 0 0, Value.slice none 0 0] 51)).alloc (Obj.cells #[Value.slice none 0 0, (.slice (some ⟨b2, o2, none⟩) n cap2)] 51))) := by
    have hP1 := HP.out.step B1
    have B2 := (Below.refl _ ((w.alloc (Obj.cells l.toArray 26)).alloc (Obj.cells #[Value.slice none 0 0, Value.slice none 0 0] 51))).alloc (Nat.le_refl _) (Obj.cells #[Value.slice none 0 0, (.slice (some ⟨b2, o2, none⟩) n cap2)] 51)
    refine ⟨hP1.step B2, ⟨by simp [rcl], Or.inl ⟨rfl, rfl⟩⟩, ?_, ?_⟩
    · have := row_two ((w.alloc (Obj.cells l.toArray 26)).alloc (Obj.cells #[Value.slice none 0 0, Value.slice none 0 0] 51)) (.slice none 0 0) (.slice (some ⟨b2, o2, none⟩) n cap2)
      simpa using this
    · have := row_two (w.alloc (Obj.cells l.toArray 26)) (.slice none 0 0) (.slice none 0 0)
      have e : (w.alloc (Obj.cells l.toArray 26)).heap.size = w.heap.size + 1 := by simp
      rw [e] at this
      exact (this.alloc _).congr fun i _ => by split <;> rfl
  clear B1 HP
  go_loopw [4] (fun i wr => ∃ k : Nat, k ≤ n ∧ i = .int .i64 (k : Int) ∧ Hid (∃ rv, Wd w O b o cap b2 o2 cap2 n L X T l k rv wr)) (fun i _ => n - (intOf i).toNat)
  case atStart => exact ⟨0, by omega, rfl, _, HW0.out⟩
  case round =>
    clear HW0
    obtain ⟨k, hk, rfl, HE⟩ := hrel
    obtain ⟨rv, hF⟩ := HE.out
    have HF : Hid (Wd w O b o cap b2 o2 cap2 n L X T l k rv wr) := hF
    clear hF HE
    have c1 := HF.out.px.c1
    by_cases hlt : k < n
    · obtain ⟨a1, cp1, ck0, hl1, hts0⟩ := HX0.out.cells k hlt
      obtain ⟨bk, ok, rfl, -⟩ := hts0.place (by have := (HCO.out k 0 hlt (by omega)).2.1; omega)
      have HTS : Hid (Ts w (.slice (some ⟨bk, ok, none⟩) (L k) cp1) (L k) (X k)) := hts0
      have HCK : Hid (w.cell? ⟨b, o + k, none⟩ = some (.slice (some ⟨bk, ok, none⟩) (L k) cp1)) := ck0
      clear ck0 hts0
      have hk0 : (0 : Int) ≤ (k : Int) := by omega
      have hk1 : (k : Int) < (n : Int) := by omega
      obtain ⟨lk, HLk⟩ : ∃ q, Hid (L k = q) := ⟨_, (rfl : L k = L k)⟩
      rw [HLk.out] at HTS HCK hl1
      have HFA : Hid (Wd w O b o cap b2 o2 cap2 n L X T l k rv (wr.alloc (Obj.cells zs 62)) ∧ ∃ f, (wr.alloc (Obj.cells zs 62)).rowIs wr.heap.size 62 256 f) := by
        refine ⟨HF.out.alloc _, fun i => zs[i]?.getD undef, ?_⟩
        have := World.rowIs_alloc wr zs 62 (fun i => zs[i]?.getD undef) (fun i hi => by simp [hi])
        rwa [HZS.out] at this
      have HSZ : Hid (w.heap.size + 3 ≤ wr.heap.size) := by have := HF.out.st.lt; show _ ≤ _; omega
      have HRB : Hid (rv.ownBlock ≠ some wr.heap.size) := fun e => by have := (HF.out.own.lt _ e).2; omega
      obtain ⟨gw, HGW⟩ : ∃ q, Hid (wr.heap.size = q) := ⟨_, (rfl : wr.heap.size = wr.heap.size)⟩
      rw [HGW.out] at HFA HSZ HRB
      clear HF
      go_wp2_with fail
      rw [HGW.out]
      clear c1
      go_loopw [6] (fun i wr => ∃ j : Nat, j ≤ 256 ∧ i = .int .i64 (j : Int) ∧ Hid (∃ f, Wd w O b o cap b2 o2 cap2 n L X T l k rv wr ∧ wr.rowIs gw 62 256 f ∧ ∀ y, y < j → f y = .int .i16 (X k (O y)))) (fun i _ => 256 - (intOf i).toNat)
      case atStart =>
        obtain ⟨f, hf⟩ := HFA.out.2
        exact ⟨0, by omega, rfl, f, HFA.out.1, hf, fun y hy => by omega⟩
      case round =>
        obtain ⟨j, hj, rfl, HE⟩ := hrel
        obtain ⟨f, hF, hF3, hFe⟩ := HE.out
        have HF : Hid (Wd w O b o cap b2 o2 cap2 n L X T l k rv wr) := hF
        have HF3 : Hid (wr.rowIs gw 62 256 f) := hF3
        have HFE : Hid (∀ y, y < j → f y = .int .i16 (X k (O y))) := hFe
        clear hF hF3 hFe HE HFA
        by_cases hjt : j < 256
        · have c1 := HF.out.px.c1
          have co := HF.out.px.of j hjt
          have ck := (HF.out.px.below.cell (p := ⟨b, o + k, none⟩) hbw).trans HCK.out
          have hts := HTS.out.below HF.out.px.below (Nat.le_refl _)
          obtain ⟨hc1, hc2, hc3, hc4⟩ := HCO.out k j hlt hjt
          rw [HLk.out] at hc2
          have cx := hts.cells (O j) hc2
          obtain ⟨oj, HOJ⟩ : ∃ q, Hid (O j = q) := ⟨_, (rfl : O j = O j)⟩
          rw [HOJ.out] at cx hc2 hc3 hc4 co
          obtain ⟨z, HZ⟩ : ∃ q, Hid (X k oj = q) := ⟨_, (rfl : X k oj = X k oj)⟩
          rw [HZ.out] at cx hc3 hc4
          have hn2 := HN.out.2
          have HWR : Hid (IntKind.i16.wrap z = z) := wrap16 (by omega)
          have hj0 : (0 : Int) ≤ (j : Int) := by omega
          have hj1 : (j : Int) < 256 := by omega
          have ho0 : (0 : Int) ≤ (oj : Int) := by omega
          have ho1 : (oj : Int) < (lk : Int) := by omega
          have f1 := HF3.out.frozen j
          have d3 := HF3.out.cell hjt
          clear hts hc1 hc3 hc4
          go_wp2_with fail
          refine wp_region_free mixed (fun a0 d a W => ∃ (x21 x22 x23 x24 x25 x26 x27 x28 x29 x30 x31 x32 x33 x34 : Value), a = ((((((((((((((a0.put (some 21) x21).put (some 22) x22).put (some 23) x23).put (some 24) x24).put (some 25) x25).put (some 26) x26).put (some 27) x27).put (some 28) x28).put (some 29) x29).put (some 30) x30).put (some 31) x31).put (some 32) x32).put (some 33) x33).put (some 34) x34) ∧ Hid (RW9 w O b o cap b2 o2 cap2 n L X T l wr gw k j bk ok lk cp1 oj z d x21 x22 x23 x24 x25 x26 x27 x28 x29 x30 x31 x32 x33 x34 W)) (by kernel_rfl) ⟨u21, u22, u23, u24, u25, u26, u27, u28, u29, u30, u31, u32, u33, u34, by simp only [Act.put, List.setIfInBounds_toArray, List.set_cons_zero, List.set_cons_succ], ?_⟩ ?_ ?_
          · exact ⟨fun h => no_way h, fun h => no_way h, fun h => no_way h, fun h => no_way h, fun h => no_way h, fun h => no_way h, fun h => no_way h, fun h => no_way h, fun h => no_way h, fun h => no_way h, fun h => no_way h, fun h => no_way h, fun h => no_way h, fun h => no_way h, fun _ => trivial, fun h => no_way h, fun h => no_way h, fun h => no_way h, fun h => no_way h, fun h => no_way h, fun h => no_way h, fun h => no_way h, fun h => no_way h, fun h => no_way h, fun h => no_way h, fun h => no_way h, fun h => no_way h, fun h => no_way h, fun h => no_way h, fun _ => Sm.drew wr, fun h => no_way h⟩
          · simp only [StepAll, and_true]
            refine ⟨?_, ?_, ?_, ?_, ?_, ?_, ?_, ?_, ?_, ?_, ?_, ?_, ?_, ?_, ?_⟩
            · intro d a W hI hd hdep
              obtain ⟨x21, x22, x23, x24, x25, x26, x27, x28, x29, x30, x31, x32, x33, x34, rfl, hF⟩ := hI
              have hsm := hF.out.sm (no_later hF.out.p0 hd)
              clear hdep hd
              intro K hK
              simp only [Act.put, List.setIfInBounds_toArray, List.set_cons_zero, List.set_cons_succ]
              go_simp
              refine hK.out _ _ ⟨(.int .i64 (j : Int)), x22, x23, x24, x25, x26, x27, x28, x29, x30, x31, x32, x33, x34, by simp only [Act.put, List.setIfInBounds_toArray, List.set_cons_zero, List.set_cons_succ], ?_⟩
              exact ⟨fun _ => rfl, fun h => hF.out.f1 (by simpa using h), fun h => hF.out.f2 (by simpa using h), fun h => hF.out.f3 (by simpa using h), fun h => hF.out.f4 (by simpa using h), fun h => hF.out.f5 (by simpa using h), fun h => hF.out.f6 (by simpa using h), fun h => hF.out.f7 (by simpa using h), fun h => hF.out.f8 (by simpa using h), fun h => hF.out.f9 (by simpa using h), fun h => hF.out.f10 (by simpa using h), fun h => hF.out.f11 (by simpa using h), fun h => hF.out.f12 (by simpa using h), fun h => hF.out.f13 (by simpa using h), fun h => hF.out.f14 (by simpa using h), fun _ => by simp, fun h => by have := hF.out.p1 (by simpa using h); simpa using this, fun h => by have := hF.out.p2 (by simpa using h); simpa using this, fun h => by have := hF.out.p3 (by simpa using h); simpa using this, fun h => by have := hF.out.p4 (by simpa using h); simpa using this, fun h => by have := hF.out.p5 (by simpa using h); simpa using this, fun h => by have := hF.out.p6 (by simpa using h); simpa using this, fun h => by have := hF.out.p7 (by simpa using h); simpa using this, fun h => by have := hF.out.p8 (by simpa using h); simpa using this, fun h => by have := hF.out.p9 (by simpa using h); simpa using this, fun h => by have := hF.out.p10 (by simpa using h); simpa using this, fun h => by have := hF.out.p11 (by simpa using h); simpa using this, fun h => by have := hF.out.p12 (by simpa using h); simpa using this, fun h => by have := hF.out.p13 (by simpa using h); simpa using this, fun _ => hsm, fun h => hF.out.fin (by simpa using h)⟩
            · intro d a W hI hd hdep
              obtain ⟨x21, x22, x23, x24, x25, x26, x27, x28, x29, x30, x31, x32, x33, x34, rfl, hF⟩ := hI
              have hsm := hF.out.sm (no_later hF.out.p1 hd)
              clear hdep hd
              intro K hK
              simp only [Act.put, List.setIfInBounds_toArray, List.set_cons_zero, List.set_cons_succ]
              go_simp
              refine hK.out _ _ ⟨x21, (.pointer (some ⟨w.heap.size, 256, none⟩)), x23, x24, x25, x26, x27, x28, x29, x30, x31, x32, x33, x34, by simp only [Act.put, List.setIfInBounds_toArray, List.set_cons_zero, List.set_cons_succ], ?_⟩
              exact ⟨fun h => hF.out.f0 (by simpa using h), fun _ => rfl, fun h => hF.out.f2 (by simpa using h), fun h => hF.out.f3 (by simpa using h), fun h => hF.out.f4 (by simpa using h), fun h => hF.out.f5 (by simpa using h), fun h => hF.out.f6 (by simpa using h), fun h => hF.out.f7 (by simpa using h), fun h => hF.out.f8 (by simpa using h), fun h => hF.out.f9 (by simpa using h), fun h => hF.out.f10 (by simpa using h), fun h => hF.out.f11 (by simpa using h), fun h => hF.out.f12 (by simpa using h), fun h => hF.out.f13 (by simpa using h), fun h => hF.out.f14 (by simpa using h), fun h => by have := hF.out.p0 (by simpa using h); simpa using this, fun _ => by simp, fun h => by have := hF.out.p2 (by simpa using h); simpa using this, fun h => by have := hF.out.p3 (by simpa using h); simpa using this, fun h => by have := hF.out.p4 (by simpa using h); simpa using this, fun h => by have := hF.out.p5 (by simpa using h); simpa using this, fun h => by have := hF.out.p6 (by simpa using h); simpa using this, fun h => by have := hF.out.p7 (by simpa using h); simpa using this, fun h => by have := hF.out.p8 (by simpa using h); simpa using this, fun h => by have := hF.out.p9 (by simpa using h); simpa using this, fun h => by have := hF.out.p10 (by simpa using h); simpa using this, fun h => by have := hF.out.p11 (by simpa using h); simpa using this, fun h => by have := hF.out.p12 (by simpa using h); simpa using this, fun h => by have := hF.out.p13 (by simpa using h); simpa using this, fun _ => hsm, fun h => hF.out.fin (by simpa using h)⟩
            · intro d a W hI hd hdep
              obtain ⟨x21, x22, x23, x24, x25, x26, x27, x28, x29, x30, x31, x32, x33, x34, rfl, hF⟩ := hI
              have hd1 : d 1 = true := dep_of hdep 1 (by kernel_rfl)
              obtain rfl := hF.out.f1 hd1
              have hsm := hF.out.sm (no_later hF.out.p2 hd)
              have y0 := (hsm.cell _).trans c1
              clear hdep hd hd1
              intro K hK
              simp only [Act.put, List.setIfInBounds_toArray, List.set_cons_zero, List.set_cons_succ]
              go_simp
              refine hK.out _ _ ⟨x21, (.pointer (some ⟨w.heap.size, 256, none⟩)), (.slice (some ⟨b, o, none⟩) n cap), x24, x25, x26, x27, x28, x29, x30, x31, x32, x33, x34, by simp only [Act.put, List.setIfInBounds_toArray, List.set_cons_zero, List.set_cons_succ], ?_⟩
              exact ⟨fun h => hF.out.f0 (by simpa using h), fun h => hF.out.f1 (by simpa using h), fun _ => rfl, fun h => hF.out.f3 (by simpa using h), fun h => hF.out.f4 (by simpa using h), fun h => hF.out.f5 (by simpa using h), fun h => hF.out.f6 (by simpa using h), fun h => hF.out.f7 (by simpa using h), fun h => hF.out.f8 (by simpa using h), fun h => hF.out.f9 (by simpa using h), fun h => hF.out.f10 (by simpa using h), fun h => hF.out.f11 (by simpa using h), fun h => hF.out.f12 (by simpa using h), fun h => hF.out.f13 (by simpa using h), fun h => hF.out.f14 (by simpa using h), fun h => by have := hF.out.p0 (by simpa using h); simpa using this, fun h => by have := hF.out.p1 (by simpa using h); simpa using this, fun _ => by simp, fun h => by have := hF.out.p3 (by simpa using h); simpa using this, fun h => by have := hF.out.p4 (by simpa using h); simpa using this, fun h => by have := hF.out.p5 (by simpa using h); simpa using this, fun h => by have := hF.out.p6 (by simpa using h); simpa using this, fun h => by have := hF.out.p7 (by simpa using h); simpa using this, fun h => by have := hF.out.p8 (by simpa using h); simpa using this, fun h => by have := hF.out.p9 (by simpa using h); simpa using this, fun h => by have := hF.out.p10 (by simpa using h); simpa using this, fun h => by have := hF.out.p11 (by simpa using h); simpa using this, fun h => by have := hF.out.p12 (by simpa using h); simpa using this, fun h => by have := hF.out.p13 (by simpa using h); simpa using this, fun _ => hsm, fun h => hF.out.fin (by simpa using h)⟩
            · intro d a W hI hd hdep
              obtain ⟨x21, x22, x23, x24, x25, x26, x27, x28, x29, x30, x31, x32, x33, x34, rfl, hF⟩ := hI
              have hsm := hF.out.sm (no_later hF.out.p3 hd)
              clear hdep hd
              intro K hK
              simp only [Act.put, List.setIfInBounds_toArray, List.set_cons_zero, List.set_cons_succ]
              go_simp
              refine hK.out _ _ ⟨x21, x22, x23, (.int .i64 (k : Int)), x25, x26, x27, x28, x29, x30, x31, x32, x33, x34, by simp only [Act.put, List.setIfInBounds_toArray, List.set_cons_zero, List.set_cons_succ], ?_⟩
              exact ⟨fun h => hF.out.f0 (by simpa using h), fun h => hF.out.f1 (by simpa using h), fun h => hF.out.f2 (by simpa using h), fun _ => rfl, fun h => hF.out.f4 (by simpa using h), fun h => hF.out.f5 (by simpa using h), fun h => hF.out.f6 (by simpa using h), fun h => hF.out.f7 (by simpa using h), fun h => hF.out.f8 (by simpa using h), fun h => hF.out.f9 (by simpa using h), fun h => hF.out.f10 (by simpa using h), fun h => hF.out.f11 (by simpa using h), fun h => hF.out.f12 (by simpa using h), fun h => hF.out.f13 (by simpa using h), fun h => hF.out.f14 (by simpa using h), fun h => by have := hF.out.p0 (by simpa using h); simpa using this, fun h => by have := hF.out.p1 (by simpa using h); simpa using this, fun h => by have := hF.out.p2 (by simpa using h); simpa using this, fun _ => by simp, fun h => by have := hF.out.p4 (by simpa using h); simpa using this, fun h => by have := hF.out.p5 (by simpa using h); simpa using this, fun h => by have := hF.out.p6 (by simpa using h); simpa using this, fun h => by have := hF.out.p7 (by simpa using h); simpa using this, fun h => by have := hF.out.p8 (by simpa using h); simpa using this, fun h => by have := hF.out.p9 (by simpa using h); simpa using this, fun h => by have := hF.out.p10 (by simpa using h); simpa using this, fun h => by have := hF.out.p11 (by simpa using h); simpa using this, fun h => by have := hF.out.p12 (by simpa using h); simpa using this, fun h => by have := hF.out.p13 (by simpa using h); simpa using this, fun _ => hsm, fun h => hF.out.fin (by simpa using h)⟩
            · intro d a W hI hd hdep
              obtain ⟨x21, x22, x23, x24, x25, x26, x27, x28, x29, x30, x31, x32, x33, x34, rfl, hF⟩ := hI
              have hd2 : d 2 = true := dep_of hdep 2 (by kernel_rfl)
              have hd3 : d 3 = true := dep_of hdep 3 (by kernel_rfl)
              obtain rfl := hF.out.f2 hd2
              obtain rfl := hF.out.f3 hd3
              have hsm := hF.out.sm (no_later hF.out.p4 hd)
              clear hdep hd hd2 hd3
              intro K hK
              simp only [Act.put, List.setIfInBounds_toArray, List.set_cons_zero, List.set_cons_succ]
              go_simp
              refine hK.out _ _ ⟨x21, x22, (.slice (some ⟨b, o, none⟩) n cap), (.int .i64 (k : Int)), (.pointer (some ⟨b, o + k, none⟩)), x26, x27, x28, x29, x30, x31, x32, x33, x34, by simp only [Act.put, List.setIfInBounds_toArray, List.set_cons_zero, List.set_cons_succ], ?_⟩
              exact ⟨fun h => hF.out.f0 (by simpa using h), fun h => hF.out.f1 (by simpa using h), fun h => hF.out.f2 (by simpa using h), fun h => hF.out.f3 (by simpa using h), fun _ => rfl, fun h => hF.out.f5 (by simpa using h), fun h => hF.out.f6 (by simpa using h), fun h => hF.out.f7 (by simpa using h), fun h => hF.out.f8 (by simpa using h), fun h => hF.out.f9 (by simpa using h), fun h => hF.out.f10 (by simpa using h), fun h => hF.out.f11 (by simpa using h), fun h => hF.out.f12 (by simpa using h), fun h => hF.out.f13 (by simpa using h), fun h => hF.out.f14 (by simpa using h), fun h => by have := hF.out.p0 (by simpa using h); simpa using this, fun h => by have := hF.out.p1 (by simpa using h); simpa using this, fun h => by have := hF.out.p2 (by simpa using h); simpa using this, fun h => by have := hF.out.p3 (by simpa using h); simpa using this, fun _ => by simp, fun h => by have := hF.out.p5 (by simpa using h); simpa using this, fun h => by have := hF.out.p6 (by simpa using h); simpa using this, fun h => by have := hF.out.p7 (by simpa using h); simpa using this, fun h => by have := hF.out.p8 (by simpa using h); simpa using this, fun h => by have := hF.out.p9 (by simpa using h); simpa using this, fun h => by have := hF.out.p10 (by simpa using h); simpa using this, fun h => by have := hF.out.p11 (by simpa using h); simpa using this, fun h => by have := hF.out.p12 (by simpa using h); simpa using this, fun h => by have := hF.out.p13 (by simpa using h); simpa using this, fun _ => hsm, fun h => hF.out.fin (by simpa using h)⟩
            · intro d a W hI hd hdep
              obtain ⟨x21, x22, x23, x24, x25, x26, x27, x28, x29, x30, x31, x32, x33, x34, rfl, hF⟩ := hI
              have hd4 : d 4 = true := dep_of hdep 4 (by kernel_rfl)
              obtain rfl := hF.out.f4 hd4
              have hsm := hF.out.sm (no_later hF.out.p5 hd)
              have y0 := (hsm.cell _).trans ck
              clear hdep hd hd4
              intro K hK
              simp only [Act.put, List.setIfInBounds_toArray, List.set_cons_zero, List.set_cons_succ]
              go_simp
              refine hK.out _ _ ⟨x21, x22, x23, x24, (.pointer (some ⟨b, o + k, none⟩)), (.slice (some ⟨bk, ok, none⟩) lk cp1), x27, x28, x29, x30, x31, x32, x33, x34, by simp only [Act.put, List.setIfInBounds_toArray, List.set_cons_zero, List.set_cons_succ], ?_⟩
              exact ⟨fun h => hF.out.f0 (by simpa using h), fun h => hF.out.f1 (by simpa using h), fun h => hF.out.f2 (by simpa using h), fun h => hF.out.f3 (by simpa using h), fun h => hF.out.f4 (by simpa using h), fun _ => rfl, fun h => hF.out.f6 (by simpa using h), fun h => hF.out.f7 (by simpa using h), fun h => hF.out.f8 (by simpa using h), fun h => hF.out.f9 (by simpa using h), fun h => hF.out.f10 (by simpa using h), fun h => hF.out.f11 (by simpa using h), fun h => hF.out.f12 (by simpa using h), fun h => hF.out.f13 (by simpa using h), fun h => hF.out.f14 (by simpa using h), fun h => by have := hF.out.p0 (by simpa using h); simpa using this, fun h => by have := hF.out.p1 (by simpa using h); simpa using this, fun h => by have := hF.out.p2 (by simpa using h); simpa using this, fun h => by have := hF.out.p3 (by simpa using h); simpa using this, fun h => by have := hF.out.p4 (by simpa using h); simpa using this, fun _ => by simp, fun h => by have := hF.out.p6 (by simpa using h); simpa using this, fun h => by have := hF.out.p7 (by simpa using h); simpa using this, fun h => by have := hF.out.p8 (by simpa using h); simpa using this, fun h => by have := hF.out.p9 (by simpa using h); simpa using this, fun h => by have := hF.out.p10 (by simpa using h); simpa using this, fun h => by have := hF.out.p11 (by simpa using h); simpa using this, fun h => by have := hF.out.p12 (by simpa using h); simpa using this, fun h => by have := hF.out.p13 (by simpa using h); simpa using this, fun _ => hsm, fun h => hF.out.fin (by simpa using h)⟩
            · intro d a W hI hd hdep
              obtain ⟨x21, x22, x23, x24, x25, x26, x27, x28, x29, x30, x31, x32, x33, x34, rfl, hF⟩ := hI
              have hsm := hF.out.sm (no_later hF.out.p6 hd)
              clear hdep hd
              intro K hK
              simp only [Act.put, List.setIfInBounds_toArray, List.set_cons_zero, List.set_cons_succ]
              go_simp
              refine hK.out _ _ ⟨x21, x22, x23, x24, x25, x26, (.int .i64 (j : Int)), x28, x29, x30, x31, x32, x33, x34, by simp only [Act.put, List.setIfInBounds_toArray, List.set_cons_zero, List.set_cons_succ], ?_⟩
              exact ⟨fun h => hF.out.f0 (by simpa using h), fun h => hF.out.f1 (by simpa using h), fun h => hF.out.f2 (by simpa using h), fun h => hF.out.f3 (by simpa using h), fun h => hF.out.f4 (by simpa using h), fun h => hF.out.f5 (by simpa using h), fun _ => rfl, fun h => hF.out.f7 (by simpa using h), fun h => hF.out.f8 (by simpa using h), fun h => hF.out.f9 (by simpa using h), fun h => hF.out.f10 (by simpa using h), fun h => hF.out.f11 (by simpa using h), fun h => hF.out.f12 (by simpa using h), fun h => hF.out.f13 (by simpa using h), fun h => hF.out.f14 (by simpa using h), fun h => by have := hF.out.p0 (by simpa using h); simpa using this, fun h => by have := hF.out.p1 (by simpa using h); simpa using this, fun h => by have := hF.out.p2 (by simpa using h); simpa using this, fun h => by have := hF.out.p3 (by simpa using h); simpa using this, fun h => by have := hF.out.p4 (by simpa using h); simpa using this, fun h => by have := hF.out.p5 (by simpa using h); simpa using this, fun _ => by simp, fun h => by have := hF.out.p7 (by simpa using h); simpa using this, fun h => by have := hF.out.p8 (by simpa using h); simpa using this, fun h => by have := hF.out.p9 (by simpa using h); simpa using this, fun h => by have := hF.out.p10 (by simpa using h); simpa using this, fun h => by have := hF.out.p11 (by simpa using h); simpa using this, fun h => by have := hF.out.p12 (by simpa using h); simpa using this, fun h => by have := hF.out.p13 (by simpa using h); simpa using this, fun _ => hsm, fun h => hF.out.fin (by simpa using h)⟩
            · intro d a W hI hd hdep
              obtain ⟨x21, x22, x23, x24, x25, x26, x27, x28, x29, x30, x31, x32, x33, x34, rfl, hF⟩ := hI
              have hsm := hF.out.sm (no_later hF.out.p7 hd)
              clear hdep hd
              intro K hK
              simp only [Act.put, List.setIfInBounds_toArray, List.set_cons_zero, List.set_cons_succ]
              go_simp
              refine hK.out _ _ ⟨x21, x22, x23, x24, x25, x26, x27, (.pointer (some ⟨w.heap.size, 0, none⟩)), x29, x30, x31, x32, x33, x34, by simp only [Act.put, List.setIfInBounds_toArray, List.set_cons_zero, List.set_cons_succ], ?_⟩
              exact ⟨fun h => hF.out.f0 (by simpa using h), fun h => hF.out.f1 (by simpa using h), fun h => hF.out.f2 (by simpa using h), fun h => hF.out.f3 (by simpa using h), fun h => hF.out.f4 (by simpa using h), fun h => hF.out.f5 (by simpa using h), fun h => hF.out.f6 (by simpa using h), fun _ => rfl, fun h => hF.out.f8 (by simpa using h), fun h => hF.out.f9 (by simpa using h), fun h => hF.out.f10 (by simpa using h), fun h => hF.out.f11 (by simpa using h), fun h => hF.out.f12 (by simpa using h), fun h => hF.out.f13 (by simpa using h), fun h => hF.out.f14 (by simpa using h), fun h => by have := hF.out.p0 (by simpa using h); simpa using this, fun h => by have := hF.out.p1 (by simpa using h); simpa using this, fun h => by have := hF.out.p2 (by simpa using h); simpa using this, fun h => by have := hF.out.p3 (by simpa using h); simpa using this, fun h => by have := hF.out.p4 (by simpa using h); simpa using this, fun h => by have := hF.out.p5 (by simpa using h); simpa using this, fun h => by have := hF.out.p6 (by simpa using h); simpa using this, fun _ => by simp, fun h => by have := hF.out.p8 (by simpa using h); simpa using this, fun h => by have := hF.out.p9 (by simpa using h); simpa using this, fun h => by have := hF.out.p10 (by simpa using h); simpa using this, fun h => by have := hF.out.p11 (by simpa using h); simpa using this, fun h => by have := hF.out.p12 (by simpa using h); simpa using this, fun h => by have := hF.out.p13 (by simpa using h); simpa using this, fun _ => hsm, fun h => hF.out.fin (by simpa using h)⟩
            · intro d a W hI hd hdep
              obtain ⟨x21, x22, x23, x24, x25, x26, x27, x28, x29, x30, x31, x32, x33, x34, rfl, hF⟩ := hI
              have hd7 : d 7 = true := dep_of hdep 7 (by kernel_rfl)
              have hd6 : d 6 = true := dep_of hdep 6 (by kernel_rfl)
              obtain rfl := hF.out.f7 hd7
              obtain rfl := hF.out.f6 hd6
              have hsm := hF.out.sm (no_later hF.out.p8 hd)
              clear hdep hd hd7 hd6
              intro K hK
              simp only [Act.put, List.setIfInBounds_toArray, List.set_cons_zero, List.set_cons_succ]
              go_simp
              refine hK.out _ _ ⟨x21, x22, x23, x24, x25, x26, (.int .i64 (j : Int)), (.pointer (some ⟨w.heap.size, 0, none⟩)), (.pointer (some ⟨w.heap.size, j, none⟩)), x30, x31, x32, x33, x34, by simp only [Act.put, List.setIfInBounds_toArray, List.set_cons_zero, List.set_cons_succ], ?_⟩
              exact ⟨fun h => hF.out.f0 (by simpa using h), fun h => hF.out.f1 (by simpa using h), fun h => hF.out.f2 (by simpa using h), fun h => hF.out.f3 (by simpa using h), fun h => hF.out.f4 (by simpa using h), fun h => hF.out.f5 (by simpa using h), fun h => hF.out.f6 (by simpa using h), fun h => hF.out.f7 (by simpa using h), fun _ => rfl, fun h => hF.out.f9 (by simpa using h), fun h => hF.out.f10 (by simpa using h), fun h => hF.out.f11 (by simpa using h), fun h => hF.out.f12 (by simpa using h), fun h => hF.out.f13 (by simpa using h), fun h => hF.out.f14 (by simpa using h), fun h => by have := hF.out.p0 (by simpa using h); simpa using this, fun h => by have := hF.out.p1 (by simpa using h); simpa using this, fun h => by have := hF.out.p2 (by simpa using h); simpa using this, fun h => by have := hF.out.p3 (by simpa using h); simpa using this, fun h => by have := hF.out.p4 (by simpa using h); simpa using this, fun h => by have := hF.out.p5 (by simpa using h); simpa using this, fun h => by have := hF.out.p6 (by simpa using h); simpa using this, fun h => by have := hF.out.p7 (by simpa using h); simpa using this, fun _ => by simp, fun h => by have := hF.out.p9 (by simpa using h); simpa using this, fun h => by have := hF.out.p10 (by simpa using h); simpa using this, fun h => by have := hF.out.p11 (by simpa using h); simpa using this, fun h => by have := hF.out.p12 (by simpa using h); simpa using this, fun h => by have := hF.out.p13 (by simpa using h); simpa using this, fun _ => hsm, fun h => hF.out.fin (by simpa using h)⟩
            · intro d a W hI hd hdep
              obtain ⟨x21, x22, x23, x24, x25, x26, x27, x28, x29, x30, x31, x32, x33, x34, rfl, hF⟩ := hI
              have hd8 : d 8 = true := dep_of hdep 8 (by kernel_rfl)
              obtain rfl := hF.out.f8 hd8
              have hsm := hF.out.sm (no_later hF.out.p9 hd)
              have y0 := (hsm.cell _).trans co
              clear hdep hd hd8
              intro K hK
              simp only [Act.put, List.setIfInBounds_toArray, List.set_cons_zero, List.set_cons_succ]
              go_simp
              refine hK.out _ _ ⟨x21, x22, x23, x24, x25, x26, x27, x28, (.pointer (some ⟨w.heap.size, j, none⟩)), (.int .u8 (oj : Int)), x31, x32, x33, x34, by simp only [Act.put, List.setIfInBounds_toArray, List.set_cons_zero, List.set_cons_succ], ?_⟩
              exact ⟨fun h => hF.out.f0 (by simpa using h), fun h => hF.out.f1 (by simpa using h), fun h => hF.out.f2 (by simpa using h), fun h => hF.out.f3 (by simpa using h), fun h => hF.out.f4 (by simpa using h), fun h => hF.out.f5 (by simpa using h), fun h => hF.out.f6 (by simpa using h), fun h => hF.out.f7 (by simpa using h), fun h => hF.out.f8 (by simpa using h), fun _ => rfl, fun h => hF.out.f10 (by simpa using h), fun h => hF.out.f11 (by simpa using h), fun h => hF.out.f12 (by simpa using h), fun h => hF.out.f13 (by simpa using h), fun h => hF.out.f14 (by simpa using h), fun h => by have := hF.out.p0 (by simpa using h); simpa using this, fun h => by have := hF.out.p1 (by simpa using h); simpa using this, fun h => by have := hF.out.p2 (by simpa using h); simpa using this, fun h => by have := hF.out.p3 (by simpa using h); simpa using this, fun h => by have := hF.out.p4 (by simpa using h); simpa using this, fun h => by have := hF.out.p5 (by simpa using h); simpa using this, fun h => by have := hF.out.p6 (by simpa using h); simpa using this, fun h => by have := hF.out.p7 (by simpa using h); simpa using this, fun h => by have := hF.out.p8 (by simpa using h); simpa using this, fun _ => by simp, fun h => by have := hF.out.p10 (by simpa using h); simpa using this, fun h => by have := hF.out.p11 (by simpa using h); simpa using this, fun h => by have := hF.out.p12 (by simpa using h); simpa using this, fun h => by have := hF.out.p13 (by simpa using h); simpa using this, fun _ => hsm, fun h => hF.out.fin (by simpa using h)⟩
            · intro d a W hI hd hdep
              obtain ⟨x21, x22, x23, x24, x25, x26, x27, x28, x29, x30, x31, x32, x33, x34, rfl, hF⟩ := hI
              have hd5 : d 5 = true := dep_of hdep 5 (by kernel_rfl)
              have hd9 : d 9 = true := dep_of hdep 9 (by kernel_rfl)
              obtain rfl := hF.out.f5 hd5
              obtain rfl := hF.out.f9 hd9
              have hsm := hF.out.sm (no_later hF.out.p10 hd)
              clear hdep hd hd5 hd9
              intro K hK
              simp only [Act.put, List.setIfInBounds_toArray, List.set_cons_zero, List.set_cons_succ]
              go_simp
              refine hK.out _ _ ⟨x21, x22, x23, x24, x25, (.slice (some ⟨bk, ok, none⟩) lk cp1), x27, x28, x29, (.int .u8 (oj : Int)), (.pointer (some ⟨bk, ok + oj, none⟩)), x32, x33, x34, by simp only [Act.put, List.setIfInBounds_toArray, List.set_cons_zero, List.set_cons_succ], ?_⟩
              exact ⟨fun h => hF.out.f0 (by simpa using h), fun h => hF.out.f1 (by simpa using h), fun h => hF.out.f2 (by simpa using h), fun h => hF.out.f3 (by simpa using h), fun h => hF.out.f4 (by simpa using h), fun h => hF.out.f5 (by simpa using h), fun h => hF.out.f6 (by simpa using h), fun h => hF.out.f7 (by simpa using h), fun h => hF.out.f8 (by simpa using h), fun h => hF.out.f9 (by simpa using h), fun _ => rfl, fun h => hF.out.f11 (by simpa using h), fun h => hF.out.f12 (by simpa using h), fun h => hF.out.f13 (by simpa using h), fun h => hF.out.f14 (by simpa using h), fun h => by have := hF.out.p0 (by simpa using h); simpa using this, fun h => by have := hF.out.p1 (by simpa using h); simpa using this, fun h => by have := hF.out.p2 (by simpa using h); simpa using this, fun h => by have := hF.out.p3 (by simpa using h); simpa using this, fun h => by have := hF.out.p4 (by simpa using h); simpa using this, fun h => by have := hF.out.p5 (by simpa using h); simpa using this, fun h => by have := hF.out.p6 (by simpa using h); simpa using this, fun h => by have := hF.out.p7 (by simpa using h); simpa using this, fun h => by have := hF.out.p8 (by simpa using h); simpa using this, fun h => by have := hF.out.p9 (by simpa using h); simpa using this, fun _ => by simp, fun h => by have := hF.out.p11 (by simpa using h); simpa using this, fun h => by have := hF.out.p12 (by simpa using h); simpa using this, fun h => by have := hF.out.p13 (by simpa using h); simpa using this, fun _ => hsm, fun h => hF.out.fin (by simpa using h)⟩
            · intro d a W hI hd hdep
              obtain ⟨x21, x22, x23, x24, x25, x26, x27, x28, x29, x30, x31, x32, x33, x34, rfl, hF⟩ := hI
              have hd10 : d 10 = true := dep_of hdep 10 (by kernel_rfl)
              obtain rfl := hF.out.f10 hd10
              have hsm := hF.out.sm (no_later hF.out.p11 hd)
              have y0 := (hsm.cell _).trans cx
              clear hdep hd hd10
              intro K hK
              simp only [Act.put, List.setIfInBounds_toArray, List.set_cons_zero, List.set_cons_succ]
              go_simp
              refine hK.out _ _ ⟨x21, x22, x23, x24, x25, x26, x27, x28, x29, x30, (.pointer (some ⟨bk, ok + oj, none⟩)), (.int .i64 z), x33, x34, by simp only [Act.put, List.setIfInBounds_toArray, List.set_cons_zero, List.set_cons_succ], ?_⟩
              exact ⟨fun h => hF.out.f0 (by simpa using h), fun h => hF.out.f1 (by simpa using h), fun h => hF.out.f2 (by simpa using h), fun h => hF.out.f3 (by simpa using h), fun h => hF.out.f4 (by simpa using h), fun h => hF.out.f5 (by simpa using h), fun h => hF.out.f6 (by simpa using h), fun h => hF.out.f7 (by simpa using h), fun h => hF.out.f8 (by simpa using h), fun h => hF.out.f9 (by simpa using h), fun h => hF.out.f10 (by simpa using h), fun _ => rfl, fun h => hF.out.f12 (by simpa using h), fun h => hF.out.f13 (by simpa using h), fun h => hF.out.f14 (by simpa using h), fun h => by have := hF.out.p0 (by simpa using h); simpa using this, fun h => by have := hF.out.p1 (by simpa using h); simpa using this, fun h => by have := hF.out.p2 (by simpa using h); simpa using this, fun h => by have := hF.out.p3 (by simpa using h); simpa using this, fun h => by have := hF.out.p4 (by simpa using h); simpa using this, fun h => by have := hF.out.p5 (by simpa using h); simpa using this, fun h => by have := hF.out.p6 (by simpa using h); simpa using this, fun h => by have := hF.out.p7 (by simpa using h); simpa using this, fun h => by have := hF.out.p8 (by simpa using h); simpa using this, fun h => by have := hF.out.p9 (by simpa using h); simpa using this, fun h => by have := hF.out.p10 (by simpa using h); simpa using this, fun _ => by simp, fun h => by have := hF.out.p12 (by simpa using h); simpa using this, fun h => by have := hF.out.p13 (by simpa using h); simpa using this, fun _ => hsm, fun h => hF.out.fin (by simpa using h)⟩
            · intro d a W hI hd hdep
              obtain ⟨x21, x22, x23, x24, x25, x26, x27, x28, x29, x30, x31, x32, x33, x34, rfl, hF⟩ := hI
              have hd11 : d 11 = true := dep_of hdep 11 (by kernel_rfl)
              obtain rfl := hF.out.f11 hd11
              have hsm := hF.out.sm (no_later hF.out.p12 hd)
              have hwr := HWR.out
              clear hdep hd hd11
              intro K hK
              simp only [Act.put, List.setIfInBounds_toArray, List.set_cons_zero, List.set_cons_succ]
              go_simp
              refine hK.out _ _ ⟨x21, x22, x23, x24, x25, x26, x27, x28, x29, x30, x31, (.int .i64 z), (.int .i16 z), x34, by simp only [Act.put, List.setIfInBounds_toArray, List.set_cons_zero, List.set_cons_succ], ?_⟩
              exact ⟨fun h => hF.out.f0 (by simpa using h), fun h => hF.out.f1 (by simpa using h), fun h => hF.out.f2 (by simpa using h), fun h => hF.out.f3 (by simpa using h), fun h => hF.out.f4 (by simpa using h), fun h => hF.out.f5 (by simpa using h), fun h => hF.out.f6 (by simpa using h), fun h => hF.out.f7 (by simpa using h), fun h => hF.out.f8 (by simpa using h), fun h => hF.out.f9 (by simpa using h), fun h => hF.out.f10 (by simpa using h), fun h => hF.out.f11 (by simpa using h), fun _ => rfl, fun h => hF.out.f13 (by simpa using h), fun h => hF.out.f14 (by simpa using h), fun h => by have := hF.out.p0 (by simpa using h); simpa using this, fun h => by have := hF.out.p1 (by simpa using h); simpa using this, fun h => by have := hF.out.p2 (by simpa using h); simpa using this, fun h => by have := hF.out.p3 (by simpa using h); simpa using this, fun h => by have := hF.out.p4 (by simpa using h); simpa using this, fun h => by have := hF.out.p5 (by simpa using h); simpa using this, fun h => by have := hF.out.p6 (by simpa using h); simpa using this, fun h => by have := hF.out.p7 (by simpa using h); simpa using this, fun h => by have := hF.out.p8 (by simpa using h); simpa using this, fun h => by have := hF.out.p9 (by simpa using h); simpa using this, fun h => by have := hF.out.p10 (by simpa using h); simpa using this, fun h => by have := hF.out.p11 (by simpa using h); simpa using this, fun _ => by simp, fun h => by have := hF.out.p13 (by simpa using h); simpa using this, fun _ => hsm, fun h => hF.out.fin (by simpa using h)⟩
            · intro d a W hI hd hdep
              obtain ⟨x21, x22, x23, x24, x25, x26, x27, x28, x29, x30, x31, x32, x33, x34, rfl, hF⟩ := hI
              have hd0 : d 0 = true := dep_of hdep 0 (by kernel_rfl)
              obtain rfl := hF.out.f0 hd0
              have hsm := hF.out.sm (no_later hF.out.p13 hd)
              clear hdep hd hd0
              intro K hK
              simp only [Act.put, List.setIfInBounds_toArray, List.set_cons_zero, List.set_cons_succ]
              go_simp
              refine hK.out _ _ ⟨(.int .i64 (j : Int)), x22, x23, x24, x25, x26, x27, x28, x29, x30, x31, x32, x33, (.pointer (some ⟨gw, j, none⟩)), by simp only [Act.put, List.setIfInBounds_toArray, List.set_cons_zero, List.set_cons_succ], ?_⟩
              exact ⟨fun h => hF.out.f0 (by simpa using h), fun h => hF.out.f1 (by simpa using h), fun h => hF.out.f2 (by simpa using h), fun h => hF.out.f3 (by simpa using h), fun h => hF.out.f4 (by simpa using h), fun h => hF.out.f5 (by simpa using h), fun h => hF.out.f6 (by simpa using h), fun h => hF.out.f7 (by simpa using h), fun h => hF.out.f8 (by simpa using h), fun h => hF.out.f9 (by simpa using h), fun h => hF.out.f10 (by simpa using h), fun h => hF.out.f11 (by simpa using h), fun h => hF.out.f12 (by simpa using h), fun _ => rfl, fun h => hF.out.f14 (by simpa using h), fun h => by have := hF.out.p0 (by simpa using h); simpa using this, fun h => by have := hF.out.p1 (by simpa using h); simpa using this, fun h => by have := hF.out.p2 (by simpa using h); simpa using this, fun h => by have := hF.out.p3 (by simpa using h); simpa using this, fun h => by have := hF.out.p4 (by simpa using h); simpa using this, fun h => by have := hF.out.p5 (by simpa using h); simpa using this, fun h => by have := hF.out.p6 (by simpa using h); simpa using this, fun h => by have := hF.out.p7 (by simpa using h); simpa using this, fun h => by have := hF.out.p8 (by simpa using h); simpa using this, fun h => by have := hF.out.p9 (by simpa using h); simpa using this, fun h => by have := hF.out.p10 (by simpa using h); simpa using this, fun h => by have := hF.out.p11 (by simpa using h); simpa using this, fun h => by have := hF.out.p12 (by simpa using h); simpa using this, fun _ => by simp, fun _ => hsm, fun h => hF.out.fin (by simpa using h)⟩
            · intro d a W hI hd hdep
              obtain ⟨x21, x22, x23, x24, x25, x26, x27, x28, x29, x30, x31, x32, x33, x34, rfl, hF⟩ := hI
              have hd0 : d 0 = true := dep_of hdep 0 (by kernel_rfl)
              have hd1 : d 1 = true := dep_of hdep 1 (by kernel_rfl)
              have hd2 : d 2 = true := dep_of hdep 2 (by kernel_rfl)
              have hd3 : d 3 = true := dep_of hdep 3 (by kernel_rfl)
              have hd4 : d 4 = true := dep_of hdep 4 (by kernel_rfl)
              have hd5 : d 5 = true := dep_of hdep 5 (by kernel_rfl)
              have hd6 : d 6 = true := dep_of hdep 6 (by kernel_rfl)
              have hd7 : d 7 = true := dep_of hdep 7 (by kernel_rfl)
              have hd8 : d 8 = true := dep_of hdep 8 (by kernel_rfl)
              have hd9 : d 9 = true := dep_of hdep 9 (by kernel_rfl)
              have hd10 : d 10 = true := dep_of hdep 10 (by kernel_rfl)
              have hd11 : d 11 = true := dep_of hdep 11 (by kernel_rfl)
              have hd12 : d 12 = true := dep_of hdep 12 (by kernel_rfl)
              have hd13 : d 13 = true := dep_of hdep 13 (by kernel_rfl)
              obtain rfl := hF.out.f0 hd0
              obtain rfl := hF.out.f1 hd1
              obtain rfl := hF.out.f2 hd2
              obtain rfl := hF.out.f3 hd3
              obtain rfl := hF.out.f4 hd4
              obtain rfl := hF.out.f5 hd5
              obtain rfl := hF.out.f6 hd6
              obtain rfl := hF.out.f7 hd7
              obtain rfl := hF.out.f8 hd8
              obtain rfl := hF.out.f9 hd9
              obtain rfl := hF.out.f10 hd10
              obtain rfl := hF.out.f11 hd11
              obtain rfl := hF.out.f12 hd12
              obtain rfl := hF.out.f13 hd13
              have hsm := hF.out.sm hd
              have y0 := (hsm.cell _).trans d3
              have y1 := (hsm.frozen _).trans f1
              have g0 := hd0
              have g1 := hd1
              have g2 := hd2
              have g3 := hd3
              have g4 := hd4
              have g5 := hd5
              have g6 := hd6
              have g7 := hd7
              have g8 := hd8
              have g9 := hd9
              have g10 := hd10
              have g11 := hd11
              have g12 := hd12
              have g13 := hd13
              clear hdep hd hd0 hd1 hd2 hd3 hd4 hd5 hd6 hd7 hd8 hd9 hd10 hd11 hd12 hd13
              intro K hK
              simp only [Act.put, List.setIfInBounds_toArray, List.set_cons_zero, List.set_cons_succ]
              go_simp
              refine hK.out _ _ ⟨(.int .i64 (j : Int)), (.pointer (some ⟨w.heap.size, 256, none⟩)), (.slice (some ⟨b, o, none⟩) n cap), (.int .i64 (k : Int)), (.pointer (some ⟨b, o + k, none⟩)), (.slice (some ⟨bk, ok, none⟩) lk cp1), (.int .i64 (j : Int)), (.pointer (some ⟨w.heap.size, 0, none⟩)), (.pointer (some ⟨w.heap.size, j, none⟩)), (.int .u8 (oj : Int)), (.pointer (some ⟨bk, ok + oj, none⟩)), (.int .i64 z), (.int .i16 z), (.pointer (some ⟨gw, j, none⟩)), by simp only [Act.put, List.setIfInBounds_toArray, List.set_cons_zero, List.set_cons_succ], ?_⟩
              exact ⟨fun h => hF.out.f0 (by simpa using h), fun h => hF.out.f1 (by simpa using h), fun h => hF.out.f2 (by simpa using h), fun h => hF.out.f3 (by simpa using h), fun h => hF.out.f4 (by simpa using h), fun h => hF.out.f5 (by simpa using h), fun h => hF.out.f6 (by simpa using h), fun h => hF.out.f7 (by simpa using h), fun h => hF.out.f8 (by simpa using h), fun h => hF.out.f9 (by simpa using h), fun h => hF.out.f10 (by simpa using h), fun h => hF.out.f11 (by simpa using h), fun h => hF.out.f12 (by simpa using h), fun h => hF.out.f13 (by simpa using h), fun _ => trivial, fun _ => by simpa using g0, fun _ => by simpa using g1, fun _ => by simpa using g2, fun _ => by simpa using g3, fun _ => by simpa using g4, fun _ => by simpa using g5, fun _ => by simpa using g6, fun _ => by simpa using g7, fun _ => by simpa using g8, fun _ => by simpa using g9, fun _ => by simpa using g10, fun _ => by simpa using g11, fun _ => by simpa using g12, fun _ => by simpa using g13, fun h => by simp at h, fun _ => ⟨_, hsm, rfl⟩⟩
          · intro d a W hI hall
            obtain ⟨x21, x22, x23, x24, x25, x26, x27, x28, x29, x30, x31, x32, x33, x34, rfl, hF⟩ := hI
            simp only [List.length_cons, List.length_nil] at hall
            obtain rfl := hF.out.f0 (hall 0 (by omega))
            obtain rfl := hF.out.f1 (hall 1 (by omega))
            obtain rfl := hF.out.f2 (hall 2 (by omega))
            obtain rfl := hF.out.f3 (hall 3 (by omega))
            obtain rfl := hF.out.f4 (hall 4 (by omega))
            obtain rfl := hF.out.f5 (hall 5 (by omega))
            obtain rfl := hF.out.f6 (hall 6 (by omega))
            obtain rfl := hF.out.f7 (hall 7 (by omega))
            obtain rfl := hF.out.f8 (hall 8 (by omega))
            obtain rfl := hF.out.f9 (hall 9 (by omega))
            obtain rfl := hF.out.f10 (hall 10 (by omega))
            obtain rfl := hF.out.f11 (hall 11 (by omega))
            obtain rfl := hF.out.f12 (hall 12 (by omega))
            obtain rfl := hF.out.f13 (hall 13 (by omega))
            obtain ⟨W6, hsm6, rfl⟩ := hF.out.fin (hall 14 (by omega))
            have HPW : Hid (Sm wr W6) := hsm6
            clear hF hall hsm6 c1 cx d3 f1 ck co
            simp only [Act.put, List.setIfInBounds_toArray, List.set_cons_zero, List.set_cons_succ]
            go_wp2_with fail
            go_roundw
            case rel =>
              refine ⟨j + 1, by omega, by go_num, _, HF.out.set HX0.out HT0.out (by have := HSZ.out; omega) HRB.out HPW.out _ _, (HF3.out.of_block (by rw [HPW.out.heap])).set j (.int .i16 z), fun y hy => ?_⟩
              by_cases e : y = j
              · subst e; rw [if_pos rfl, HOJ.out, HZ.out]
              · rw [if_neg e]; exact HFE.out y (by omega)
            case measure => simp [intOf]; omega

        · have y0 := HF.out.st.cell (i := 0) (by omega)
          have y1 := HF.out.st.frozen 0
          simp only [if_true] at y0
          have HLR : Hid (wr.rangeAt gw 0 (rl fun y => X k (O y)) ∧ (rl fun y => X k (O y)).length = 256 ∧ (∀ u ∈ rl fun y => X k (O y), u.oneCell' = true) ∧ rcl O X k ++ (rl fun y => X k (O y)) = rcl O X (k + 1)) := by
            refine ⟨fun q v hv => ?_, rl_length _, rl_one' _, rcl_succ O X k⟩
            have hq : q < 256 := by have := (List.getElem?_eq_some_iff.1 hv).1; rwa [rl_length] at this
            rw [rl_at _ q hq] at hv
            rw [Nat.zero_add, HF3.out.cell hq, HFE.out q (by omega), hv]
          obtain ⟨lr, HLRN⟩ : ∃ q, Hid ((rl fun y => X k (O y)) = q) := ⟨_, (rfl : (rl fun y => X k (O y)) = rl fun y => X k (O y))⟩
          rw [HLRN.out] at HLR
          have HS62 : Hid ((Try.prog.info? 62).map (·.size) = some lr.length) := by show _ = _; rw [HLR.out.2.1]; exact size62
          have HOWN : Hid ((wr.alloc (Obj.cells lr.toArray 62)).ownsRow (w.heap.size + 3) 62 256 rv k (rcl O X k)) := (HF.out.alloc _).own
          have HN2 : Hid (k + 1 ≤ maxLen ∧ (k + 1) * 512 ≤ 140737488355328 ∧ w.heap.size + 3 ≤ (wr.alloc (Obj.cells lr.toArray 62)).heap.size) := ⟨by unfold maxLen; have := HN.out.2; omega, by have := HN.out.2; omega, by have := HF.out.st.lt; simp; omega⟩
          go_wp2_with (refine wpList_load_mid rfl 62 _ rfl gw 0 rfl lr _ HLR.out.1 Try.underlying62 rfl HS62.out ?_)
          refine wp_buildSlice 49 62 1 _ rfl lr.toArray i62 _ Try.underlying49 H62.out.1 H62.out.2.1 (by rw [H62.out.2.2.1]; omega) (by rw [H62.out.2.2.1]; omega) ?hf ?_
          case hf =>
            rw [H62.out.2.2.1]
            simp only [List.map_toArray, List.map_cons, List.map_nil]
            exact fill_row lr HLR.out.2.1 _ (by simp)
          simp only [Act.put, List.setIfInBounds_toArray, List.set_cons_zero, List.set_cons_succ]
          go_wp2_with (at_builtin; refine wpList_append_own _ rfl _ _ 49 rfl (w.heap.size + 3) 62 i62 _ 256 512 Try.underlying49 H62.out.1 H62.out.2.1 H62.out.2.2.1 H62.out.2.2.2 (by simp [Value.cells]) (by omega) _ _ _ rfl HOWN.out ⟨wr.heap.size, 0, none⟩ 1 1 lr rfl (by rw [HLR.out.2.1]) ?qc2 HLR.out.2.2.1 HN2.out.1 HN2.out.2.1 HN2.out.2.2 ?_)
          case qc2 =>
            intro q u hq
            rw [Addr.add_lit, Nat.zero_add, cell_of_block]
            exact hq
          intro v' w1 hown hgrow hnil
          rw [HLR.out.2.2.2] at hown
          have HNX : Hid (Wd w O b o cap b2 o2 cap2 n L X T l (k + 1) v' (w1.setCell ⟨w.heap.size + 2, 0, none⟩ v')) := HF.out.next HX0.out HT0.out hown hgrow
          have z0 : w1.cell? ⟨w.heap.size + 2, 0, none⟩ = some rv := hgrow.cell (Go.Lib.cell?_alloc_some _ y0) (fun e => by have := (HF.out.own.lt _ e.symm).1; simp at this)
          have z1 : w1.frozen? ⟨w.heap.size + 2, 0, none⟩ = false := by
            have h1 : w1.heap[w.heap.size + 2]? = (wr.alloc (Obj.cells lr.toArray 62)).heap[w.heap.size + 2]? := hgrow.block _ (by have := HF.out.st.lt; simp; omega) (fun e => by have := (HF.out.own.lt _ e.symm).1; omega)
            exact (((HF.out.alloc (Obj.cells lr.toArray 62)).st).of_block h1).frozen 0
          obtain ⟨va, vm, vc, rfl⟩ : ∃ a m c, v' = .slice a m c := by
            rcases hown.2 with ⟨h, _⟩ | ⟨g, c, cur, h, _⟩ <;> exact ⟨_, _, _, h⟩
          clear hown hgrow hnil y0 y1
          go_wp2_with fail
          go_roundw
          case rel => exact ⟨k + 1, by omega, by go_num, _, HNX.out⟩
          case measure => simp [intOf]; omega
    · have HKN : Hid (k = n) := by show _ = _; omega
      have e0 := HF.out.st.cell (i := 0) (by omega)
      have e1 := HF.out.st.cell (i := 1) (by omega)
      simp only [if_true] at e0
      rw [if_neg (by omega)] at e1
      have r0 := HF.out.rs.cell (i := 0) (by omega)
      have r1 := HF.out.rs.cell (i := 1) (by omega)
      have s0 := HF.out.rs.frozen 0
      have s1 := HF.out.rs.frozen 1
      obtain ⟨ra, rn, rc, rfl⟩ : ∃ a m c, rv = .slice a m c := by
        rcases HF.out.own.2 with ⟨h, _⟩ | ⟨g, c, cur, h, _⟩ <;> exact ⟨_, _, _, h⟩
      go_wp2_with fail
      have hrow := row_two_set HF.out.rs (.slice ra rn rc) (.slice (some ⟨b2, o2, none⟩) n cap2)
      have hsame := same_two wr (w.heap.size + 1) (.slice ra rn rc) (.slice (some ⟨b2, o2, none⟩) n cap2)
      have hc0 := hrow.cell (i := 0) (by omega)
      have hc1 := hrow.cell (i := 1) (by omega)
      simp only [if_true] at hc0
      rw [if_neg (by omega)] at hc1
      have hown := HF.out.own
      rw [HKN.out] at hown
      have hown2 := own_same (w' := (wr.setCell ⟨w.heap.size + 1, 0, none⟩ (.slice ra rn rc)).setCell ⟨w.heap.size + 1, 1, none⟩ (.slice (some ⟨b2, o2, none⟩) n cap2)) hown fun q hq => hsame.2.2.2.2 q (by have := (hown.lt q hq).1; omega)
      have hB := (HF.out.px.set HX0.out HT0.out (b := w.heap.size + 1) hsame (by omega) (by omega)).below
      exact bodyPost_ret (v := .agg #[.slice ra rn rc, (.slice (some ⟨b2, o2, none⟩) n cap2)]) (by simp [results, Try.results17, go_sem, hc0, hc1]) rfl ⟨_, rfl, rows_of_own hown2 HN.out.1 HN.out.2 (fun i j hi hj => by have := HCO.out i j hi hj; have := HN.out.2; omega), fun q hq => by have := (hown2.lt q hq).1; omega, hB⟩
end Go.Proofs.Ytcdnbkfjiigdmaa
