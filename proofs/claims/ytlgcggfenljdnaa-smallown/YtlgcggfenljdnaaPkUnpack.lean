/-
  The contract of small.Unpack.
-/
import Derived.Test.YtlgcggfenljdnaaPkClone
namespace Go.Proofs.Ytlgcggfenljdnaa
open Go.RowKit
open Dfa

theorem zero42' : (Try.prog.info? 42).map (fun i => (i.zero, i.size, i.bytes)) = some (some (.agg (Array.replicate 256 (.int .i16 0))), 256, 512) := by kernel_rfl
theorem made_rows (n : Nat) : madeCells (Array.replicate 256 (Value.int .i16 0)) (n * 256) = Array.replicate (n * 256) (Value.int .i16 0) := by
  apply Array.ext
  · simp [madeCells]
  · intro i h1 h2
    have h3 : i % 256 < 256 := Nat.mod_lt _ (by omega)
    simp only [madeCells, Array.getElem_map, Array.getElem_range, Array.size_replicate, Array.getElem_replicate]
    rw [getElem!_pos _ _ (by simpa using h3)]
    simp
theorem make_rows (n : Nat) (hn : 0 < n ∧ n ≤ 200) (w : World) : (Instr.makeSlice 22 (.int .i64 (n : Int)) (.int .i64 (n : Int))).run Try.prog w = .ok (.slice (some ⟨w.heap.size, 0, none⟩) n n) (w.alloc (.cells (Array.replicate (n * 256) (Value.int .i16 0)) 42)) := by
  obtain ⟨i, hi, hz, hs, hb⟩ := info_parts zero42'
  have := run_make (P := Try.prog) w 22 42 i _ Try.underlying22 hi hz .i64 .i64 (n : Int) (n : Int) (by omega) (Int.le_refl _) (by rw [hb]; omega) (by omega)
  rw [this, hs]
  simp only [Int.toNat_natCast, Value.cells]
  rw [made_rows]
theorem rows_made (w : World) (n : Nat) : (w.alloc (.cells (Array.replicate (n * 256) (Value.int .i16 0)) 42)).rowIs w.heap.size 42 (n * 256) (fun _ => .int .i16 0) := by
  have := World.rowIs_alloc w (Array.replicate (n * 256) (Value.int .i16 0)) 42 (fun _ => .int .i16 0) (fun i hi => by simp at hi; simp [hi])
  simpa using this
theorem row_two (w : World) (u v : Value) : (w.alloc (.cells #[u, v] 25)).rowIs w.heap.size 25 2 (fun i => if i = 0 then u else v) := by
  have := World.rowIs_alloc w #[u, v] 25 (fun i => if i = 0 then u else v) (fun i hi => by
    have : i = 0 ∨ i = 1 := by simp at hi; omega
    rcases this with rfl | rfl <;> simp)
  simpa using this
/-- Two cells of a block are stored: all else stays. -/
theorem same_two (w : World) (g : Nat) (u v : Value) : ((w.setCell ⟨g, 0, none⟩ u).setCell ⟨g, 1, none⟩ v).heap.size = w.heap.size ∧ ((w.setCell ⟨g, 0, none⟩ u).setCell ⟨g, 1, none⟩ v).os = w.os ∧ ((w.setCell ⟨g, 0, none⟩ u).setCell ⟨g, 1, none⟩ v).tape = w.tape ∧ ((w.setCell ⟨g, 0, none⟩ u).setCell ⟨g, 1, none⟩ v).output = w.output ∧
    ∀ k, k ≠ g → ((w.setCell ⟨g, 0, none⟩ u).setCell ⟨g, 1, none⟩ v).heap[k]? = w.heap[k]? :=
  ⟨by simp [World.setCell], rfl, rfl, rfl, fun k hk => by rw [Below.heap_setCell _ _ _ _ (by simpa using hk), Below.heap_setCell _ _ _ _ (by simpa using hk)]⟩
theorem row_two_set {w : World} {g : Nat} {f : Nat → Value} (h : w.rowIs g 25 2 f) (u v : Value) : ((w.setCell ⟨g, 0, none⟩ u).setCell ⟨g, 1, none⟩ v).rowIs g 25 2 (fun i => if i = 0 then u else v) :=
  ((h.set 0 u).set 1 v).congr fun i hi => by
    have : i = 0 ∨ i = 1 := by omega
    rcases this with rfl | rfl <;> simp
theorem cell_same {w w' : World} {g : Nat} (h : w'.heap[g]? = w.heap[g]?) (i : Nat) : w'.cell? ⟨g, i, none⟩ = w.cell? ⟨g, i, none⟩ := by simp [World.cell?, h]
theorem Px.set {w0 : World} {g : Nat} {O : Nat → Nat} {nv tv : Value} {n m : Nat} {L : Nat → Nat} {X : Nat → Nat → Int} {T : Nat → Int} {l : List Value} {w w' : World} {b : Nat} (h : Px w0 g O nv tv n m L X T l w) (hx : Nx w0 nv n L X) (ht : Ts w0 tv m T)
    (hs : w'.heap.size = w.heap.size ∧ w'.os = w.os ∧ w'.tape = w.tape ∧ w'.output = w.output ∧ ∀ k, k ≠ b → w'.heap[k]? = w.heap[k]?) (hb : g ≠ b) (hb2 : w0.heap.size ≤ b) : Px w0 g O nv tv n m L X T l w' := by
  have e : ∀ j, w'.cell? ⟨g, j, none⟩ = w.cell? ⟨g, j, none⟩ := fun j => cell_same (hs.2.2.2.2 g hb) j
  have hB : Below w0.heap.size w0 w' := h.below.trans ⟨hs.2.1, hs.2.2.1, hs.2.2.2.1, by rw [hs.1]; exact Nat.le_refl _, fun k hk => hs.2.2.2.2 k (by omega)⟩
  exact ⟨(e _).trans h.c1, (e _).trans h.c2, fun j hj => (e _).trans (h.of j hj), fun j v hv => (e _).trans (h.all j v hv), fun j v hv => (e _).trans (h.cols j v hv), hx.below hB (Nat.le_refl _), ht.below hB (Nat.le_refl _), by rw [hs.1]; exact h.lt, hB⟩

structure RU (w : World) (O : Nat → Nat) (b o cap b2 o2 cap2 n : Nat) (L : Nat → Nat) (X : Nat → Nat → Int) (T : Nat → Int) (l : List Value) (gr : Nat) (gt : Nat) (ct : Nat) (gd : Nat) (d : Nat → Bool) (x5 x16 x17 x18 x19 x20 x21 x22 x23 : Value) (W : World) : Prop where
  f0 : d 0 = true → x16 = (.pointer (some ⟨w.heap.size, 256, none⟩))
  f1 : d 1 = true → x17 = (.slice (some ⟨b, o, none⟩) n cap)
  f2 : d 2 = true → x18 = (.int .i64 (n : Int))
  f3 : d 3 = true → x19 = (.slice (some ⟨gr, 0, none⟩) n n)
  f4 : d 4 = true → x20 = (.pointer (some ⟨w.heap.size, 257, none⟩))
  f5 : d 5 = true → x21 = (.slice (some ⟨b2, o2, none⟩) n cap2)
  f6 : d 6 = true → x22 = (.slice (some ⟨gt, 0, none⟩) n ct)
  f7 : d 7 = true → x23 = (.agg #[.slice (some ⟨gr, 0, none⟩) n n, .slice (some ⟨gt, 0, none⟩) n ct])
  f8 : d 8 = true → x5 = (.pointer (some ⟨gd, 0, none⟩))
  f9 : d 9 = true → True
  o73 : d 7 = true → d 3 = true
  o76 : d 7 = true → d 6 = true
  o93 : d 9 = true → d 3 = true
  o96 : d 9 = true → d 6 = true
  o98 : d 9 = true → d 8 = true
  px : Px w w.heap.size O (.slice (some ⟨b, o, none⟩) n cap) (.slice (some ⟨b2, o2, none⟩) n cap2) n n L X T l W
  sz : w.heap.size + 2 ≤ W.heap.size
  mr : d 3 = true → w.heap.size + 2 ≤ gr ∧ W.rowIs gr 42 (n * 256) (fun _ => .int .i16 0)
  cl : d 6 = true → w.heap.size + 2 ≤ gt ∧ gt < W.heap.size ∧ ∀ i, i < n → W.cell? ⟨gt, i, none⟩ = some (.int .i64 (T i))
  al : d 8 = true → d 9 = false → w.heap.size + 2 ≤ gd ∧ gd < W.heap.size ∧ W.rowIs gd 25 2 (fun _ => Value.slice none 0 0)
  st : d 9 = true → w.heap.size + 2 ≤ gd ∧ gd < W.heap.size ∧ W.rowIs gd 25 2 (fun i => if i = 0 then Value.slice (some ⟨gr, 0, none⟩) n n else Value.slice (some ⟨gt, 0, none⟩) n ct)
  n36 : d 3 = true → d 6 = true → gr ≠ gt
  n38 : d 3 = true → d 8 = true → gr ≠ gd
  n68 : d 6 = true → d 8 = true → gt ≠ gd
  rs : W.rowIs (w.heap.size + 1) 25 2 (fun _ => Value.slice none 0 0)

structure RV (wr : World) (gd gr n k j bk ok lk cp1 oj : Nat) (z : Int) (d : Nat → Bool) (x38 x39 x40 x41 x42 x43 x44 x45 x46 x47 x48 : Value) (W : World) : Prop where
  f0 : d 0 = true → x38 = (.pointer (some ⟨gd, 0, none⟩))
  f1 : d 1 = true → x39 = (.slice (some ⟨gr, 0, none⟩) n n)
  f2 : d 2 = true → x40 = (.int .i64 (k : Int))
  f3 : d 3 = true → x41 = (.int .i64 (j : Int))
  f4 : d 4 = true → x42 = (.slice (some ⟨bk, ok, none⟩) lk cp1)
  f5 : d 5 = true → x43 = (.int .u8 (oj : Int))
  f6 : d 6 = true → x44 = (.pointer (some ⟨bk, ok + oj, none⟩))
  f7 : d 7 = true → x45 = (.int .i64 z)
  f8 : d 8 = true → x46 = (.int .i16 z)
  f9 : d 9 = true → x47 = (.pointer (some ⟨gr, k * 256, none⟩))
  f10 : d 10 = true → x48 = (.pointer (some ⟨gr, k * 256 + j, none⟩))
  f11 : d 11 = true → True
  p0 : d 11 = true → d 0 = true
  p1 : d 11 = true → d 1 = true
  p2 : d 11 = true → d 2 = true
  p3 : d 11 = true → d 3 = true
  p4 : d 11 = true → d 4 = true
  p5 : d 11 = true → d 5 = true
  p6 : d 11 = true → d 6 = true
  p7 : d 11 = true → d 7 = true
  p8 : d 11 = true → d 8 = true
  p9 : d 11 = true → d 9 = true
  p10 : d 11 = true → d 10 = true
  q : d 10 = true → d 9 = true
  sm : d 11 = false → Sm wr W
  fin : d 11 = true → ∃ W6, Sm wr W6 ∧ W = W6.setCell ⟨gr, k * 256 + j, none⟩ (.int .i16 z)

/-- What is held while the rows are filled. -/
structure Un (w : World) (O : Nat → Nat) (b o cap b2 o2 cap2 n : Nat) (L : Nat → Nat) (X : Nat → Nat → Int) (T : Nat → Int) (l : List Value) (gr gt ct gd : Nat) (F : Nat → Nat → Int) (W : World) : Prop where
  px : Px w w.heap.size O (.slice (some ⟨b, o, none⟩) n cap) (.slice (some ⟨b2, o2, none⟩) n cap2) n n L X T l W
  rows : W.rowIs gr 42 (n * 256) (fun q => .int .i16 (F (q / 256) (q % 256)))
  tags : ∀ i, i < n → W.cell? ⟨gt, i, none⟩ = some (.int .i64 (T i))
  st : W.rowIs gd 25 2 (fun i => if i = 0 then Value.slice (some ⟨gr, 0, none⟩) n n else Value.slice (some ⟨gt, 0, none⟩) n ct)
  rs : W.rowIs (w.heap.size + 1) 25 2 (fun _ => Value.slice none 0 0)
  lt : gt < W.heap.size
theorem Un.set {w : World} {O : Nat → Nat} {b o cap b2 o2 cap2 n : Nat} {L : Nat → Nat} {X : Nat → Nat → Int} {T : Nat → Int} {l : List Value} {gr gt ct gd : Nat} {F : Nat → Nat → Int} {W W' : World} (h : Un w O b o cap b2 o2 cap2 n L X T l gr gt ct gd F W) (hx : Nx w (.slice (some ⟨b, o, none⟩) n cap) n L X) (ht : Ts w (.slice (some ⟨b2, o2, none⟩) n cap2) n T)
    (hg : w.heap.size + 2 ≤ gr ∧ gr ≠ gt ∧ gr ≠ gd) (hs : Sm W W') (i j : Nat) (z : Int) (hj : j < 256) : Un w O b o cap b2 o2 cap2 n L X T l gr gt ct gd (fun x y => if x = i ∧ y = j then z else F x y) (W'.setCell ⟨gr, i * 256 + j, none⟩ (.int .i16 z)) := by
  have e : ∀ k, k ≠ gr → (W'.setCell ⟨gr, i * 256 + j, none⟩ (.int .i16 z)).heap[k]? = W.heap[k]? := fun k hk => by rw [Below.heap_setCell _ _ _ _ (by simpa using hk), hs.heap]
  have hrow : W'.rowIs gr 42 (n * 256) (fun q => .int .i16 (F (q / 256) (q % 256))) := h.rows.of_block (by rw [hs.heap])
  refine ⟨h.px.set hx ht (b := gr) ⟨by simp [World.setCell, hs.heap], hs.os, hs.tape, hs.output, e⟩ (by omega) (by omega), (hrow.set (i * 256 + j) (.int .i16 z)).congr fun q hq => ?_, fun k hk => (cell_same (e gt (by omega)) k).trans (h.tags k hk), h.st.of_block (e gd (by omega)), h.rs.of_block (e _ (by omega)), by simp only [World.setCell, Array.size_modify]; rw [hs.heap]; exact h.lt⟩
  by_cases hq2 : q = i * 256 + j
  · subst hq2
    have e1 : (i * 256 + j) / 256 = i := by omega
    have e2 : (i * 256 + j) % 256 = j := by omega
    simp [e1, e2]
  · have e3 : ¬ (q / 256 = i ∧ q % 256 = j) := by omega
    simp [hq2, e3]
theorem index_of (O : Nat → Nat) (j : Nat) (hj : j < 256) (w : World) : (Instr.index 44 (.agg (ol O).toArray) (.int .i64 (j : Int))).run Try.prog w = .ok (.int .u8 (O j : Int)) w := by
  have h1 : (0 : Int) ≤ (j : Int) ∧ (j : Int) < (256 : Nat) := by omega
  have h2 := ol_at O j hj
  have h3 := ol_length O
  simp [Instr.index, run_underlying Try.underlying44, asIntOf, h1, go_sem, h3, hj]
  rw [List.getElem?_eq_getElem (by omega)] at h2
  exact Option.some.inj h2
theorem wrap16 {z : Int} (h : -32768 ≤ z ∧ z ≤ 32767) : IntKind.i16.wrap z = z := by
  unfold IntKind.wrap
  simp [IntKind.bits, IntKind.signed]
  omega

set_option maxHeartbeats 4000000 in
set_option maxRecDepth 20000 in
theorem unpack_bad (O : Nat → Nat) (nv tv : Value) (n m : Nat) (L : Nat → Nat) (X : Nat → Nat → Int) (T : Nat → Int) (w : World) (hO : ∀ j, O j < 256) (hx : Nx w nv n L X) (ht : Ts w tv m T) (hok : ¬ chkP n m O L X T = 0) :
    Calls Try.prog 19 #[.agg (pl O nv tv).toArray] w fun e w' => e = .returned (.tuple #[.agg #[.slice none 0 0, .slice none 0 0], .int .i64 (chkP n m O L X T)]) ∧ Below w.heap.size w w' := by
  obtain ⟨l, HLL⟩ : ∃ l, Hid (pl O nv tv = l) := ⟨_, (rfl : pl O nv tv = pl O nv tv)⟩
  have HP : Hid (Px w w.heap.size O nv tv n m L X T l (w.alloc (Obj.cells l.toArray 47))) := Px.box HLL.out hx ht
  have B1 := (Below.refl (w.alloc (Obj.cells l.toArray 47)).heap.size (w.alloc (Obj.cells l.toArray 47))).alloc (Nat.le_refl _) (Obj.cells #[Value.slice none 0 0, Value.slice none 0 0] 25)
  have HP2 := HP.out.step B1
  have HA : Hid (((w.alloc (Obj.cells l.toArray 47)).alloc (Obj.cells #[Value.slice none 0 0, Value.slice none 0 0] 25)).rangeAt w.heap.size 0 l ∧ (Try.prog.info? 47).map (·.size) = some l.length) := ⟨by have := HP2.all; rwa [HLL.out] at this, by rw [← HLL.out, pl_length]; exact size47⟩
  have HCK := checkP_any O nv tv n m L X T _ hO HP2.next HP2.tags
  obtain ⟨c, HC⟩ : ∃ c, Hid (chkP n m O L X T = c) := ⟨_, (rfl : chkP n m O L X T = chkP n m O L X T)⟩
  rw [HC.out] at hok HCK
  rw [HLL.out] at HCK ⊢
  have HK : Hid (Calls Try.prog 20 #[.agg l.toArray] ((w.alloc (Obj.cells l.toArray 47)).alloc (Obj.cells #[Value.slice none 0 0, Value.slice none 0 0] 25)) fun e w' => e = .returned (.int .i64 c) ∧ Below ((w.alloc (Obj.cells l.toArray 47)).alloc (Obj.cells #[Value.slice none 0 0, Value.slice none 0 0] 25)).heap.size ((w.alloc (Obj.cells l.toArray 47)).alloc (Obj.cells #[Value.slice none 0 0, Value.slice none 0 0] 25)) w') := HCK
  have hb0 : (c != 0) = true := by simp; exact hok
  rw [HC.out]
  clear hO HCK HP2 B1 hx ht hok
  go_enter Try.func19, Try.ntmps19
  go_wp2_with (refine wpList_load_mid rfl 47 _ rfl w.heap.size 0 rfl l _ HA.out.1 Try.underlying47 rfl HA.out.2 ?_)
  refine HK.out.mono ?_
  rintro _ w1 ⟨rfl, hb⟩
  have B2 : Below w.heap.size w w1 := (HP.out.below.alloc HP.out.below.size _).trans (hb.mono (by simp; omega))
  have c0 : w1.cell? ⟨w.heap.size + 1, 0, none⟩ = some (.slice none 0 0) := (hb.cell (by simp)).trans (by simp)
  have c1 : w1.cell? ⟨w.heap.size + 1, 1, none⟩ = some (.slice none 0 0) := (hb.cell (by simp)).trans (by simp)
  have f0 : w1.frozen? ⟨w.heap.size + 1, 0, none⟩ = false := (hb.frozen (by simp)).trans (by simp)
  have f1 : w1.frozen? ⟨w.heap.size + 1, 1, none⟩ = false := (hb.frozen (by simp)).trans (by simp)
  have HR1 : Hid (w1.rowIs (w.heap.size + 1) 25 2 (fun i => if i = 0 then .slice none 0 0 else .slice none 0 0)) := by
    have h2 := row_two (w.alloc (Obj.cells l.toArray 47)) (.slice none 0 0) (.slice none 0 0)
    have h3 := h2.of_block (hb.block _ h2.lt)
    have e : (w.alloc (Obj.cells l.toArray 47)).heap.size = w.heap.size + 1 := by simp
    rw [e] at h3
    exact h3
  clear hb HK HA
  go_wp2_with fail
  have hbx : Below w.heap.size w ((w1.setCell ⟨w.heap.size + 1, 0, none⟩ (.slice none 0 0)).setCell ⟨w.heap.size + 1, 1, none⟩ (.slice none 0 0)) := (B2.setCell (by simp) _).setCell (by simp) _
  have hrow := row_two_set HR1.out (.slice none 0 0) (.slice none 0 0)
  have hc0 := hrow.cell (i := 0) (by omega)
  have hc1 := hrow.cell (i := 1) (by omega)
  simp only [if_true] at hc0
  rw [if_neg (by omega)] at hc1
  exact bodyPost_ret (v := .tuple #[.agg #[.slice none 0 0, .slice none 0 0], .int .i64 c]) (by simp [results, Try.results19, go_sem, hc0, hc1]) rfl ⟨rfl, hbx⟩

set_option maxHeartbeats 8000000 in
set_option maxRecDepth 20000 in
theorem unpack_own (O : Nat → Nat) (nv tv : Value) (n : Nat) (L : Nat → Nat) (X : Nat → Nat → Int) (T : Nat → Int) (w : World) (hO : ∀ j, O j < 256) (hx : Nx w nv n L X) (ht : Ts w tv n T) (hok : chkP n n O L X T = 0) :
    Calls Try.prog 19 #[.agg (pl O nv tv).toArray] w fun e w' => ∃ rv tv', e = .returned (.tuple #[.agg #[rv, tv'], .int .i64 0]) ∧ Rw w' rv n (fun i j => if i < n ∧ j < 256 then X i (O j) else 0) ∧ Ts w' tv' n T ∧ Below w.heap.size w w' ∧ (∀ g, rv.ownBlock = some g → w.heap.size ≤ g) ∧ (∀ g, tv'.ownBlock = some g → w.heap.size ≤ g) := by
  obtain ⟨hn0, hn1, -, hcols, hsts, htgs⟩ := chkP_zero hok
  obtain ⟨ao, cap, rfl, hn, hxc⟩ := id hx
  obtain ⟨ao', cap2, rfl, hm, hwf, htc⟩ := id ht
  obtain ⟨b, o, rfl, -⟩ := hxc.resolve_left (by omega)
  obtain ⟨b2, o2, rfl, -⟩ := htc.resolve_left (by omega)
  have HN : Hid (0 < n ∧ n ≤ 200) := ⟨hn0, hn1⟩
  have HX0 : Hid (Nx w (.slice (some ⟨b, o, none⟩) n cap) n L X) := hx
  have HT0 : Hid (Ts w (.slice (some ⟨b2, o2, none⟩) n cap2) n T) := ht
  have HWF : Hid (∀ i, -9223372036854775808 ≤ T i ∧ T i ≤ 9223372036854775807) := hwf
  have HCO : Hid (∀ i j, i < n → j < 256 → L i = L 0 ∧ O j < L i ∧ -1 ≤ X i (O j) ∧ X i (O j) ≤ (n : Int) - 1) := fun i j hi hj => by
    obtain ⟨g1, g2, g3⟩ := cols_at hcols
    have h2 : O j < L i := by rw [g1 i hi]; exact g3 j hj
    exact ⟨g1 i hi, h2, states_at hsts i (O j) hi h2⟩
  have HO : Hid (∀ j, O j < 256) := hO
  obtain ⟨l, HLL⟩ : ∃ l, Hid (pl O (.slice (some ⟨b, o, none⟩) n cap) (.slice (some ⟨b2, o2, none⟩) n cap2) = l) := ⟨_, (rfl : pl O _ _ = pl O _ _)⟩
  have HP : Hid (Px w w.heap.size O (.slice (some ⟨b, o, none⟩) n cap) (.slice (some ⟨b2, o2, none⟩) n cap2) n n L X T l (w.alloc (Obj.cells l.toArray 47))) := Px.box HLL.out hx ht
  have B1 := (Below.refl (w.alloc (Obj.cells l.toArray 47)).heap.size (w.alloc (Obj.cells l.toArray 47))).alloc (Nat.le_refl _) (Obj.cells #[Value.slice none 0 0, Value.slice none 0 0] 25)
  have HP2 := HP.out.step B1
  have HA : Hid (((w.alloc (Obj.cells l.toArray 47)).alloc (Obj.cells #[Value.slice none 0 0, Value.slice none 0 0] 25)).rangeAt w.heap.size 0 l ∧ (Try.prog.info? 47).map (·.size) = some l.length) := ⟨by have := HP2.all; rwa [HLL.out] at this, by rw [← HLL.out, pl_length]; exact size47⟩
  have HCK := checkP_any O _ _ n n L X T _ hO HP2.next HP2.tags
  rw [hok, HLL.out] at HCK
  rw [HLL.out]
  have HK : Hid (Calls Try.prog 20 #[.agg l.toArray] ((w.alloc (Obj.cells l.toArray 47)).alloc (Obj.cells #[Value.slice none 0 0, Value.slice none 0 0] 25)) fun e w' => e = .returned (.int .i64 0) ∧ Below ((w.alloc (Obj.cells l.toArray 47)).alloc (Obj.cells #[Value.slice none 0 0, Value.slice none 0 0] 25)).heap.size ((w.alloc (Obj.cells l.toArray 47)).alloc (Obj.cells #[Value.slice none 0 0, Value.slice none 0 0] 25)) w') := HCK
  clear hO HCK hx ht hok hwf hcols hsts htgs HLL hn0 hn1 hxc htc
  have HP3 : Hid (Px w w.heap.size O (.slice (some ⟨b, o, none⟩) n cap) (.slice (some ⟨b2, o2, none⟩) n cap2) n n L X T l ((w.alloc (Obj.cells l.toArray 47)).alloc (Obj.cells #[Value.slice none 0 0, Value.slice none 0 0] 25))) := HP2
  clear HP2 B1 HP
  go_enter Try.func19, Try.ntmps19
  go_wp2_with (refine wpList_load_mid rfl 47 _ rfl w.heap.size 0 rfl l _ HA.out.1 Try.underlying47 rfl HA.out.2 ?_)
  refine HK.out.mono ?_
  rintro _ w1 ⟨rfl, hb⟩
  have HP1 : Hid (Px w w.heap.size O (.slice (some ⟨b, o, none⟩) n cap) (.slice (some ⟨b2, o2, none⟩) n cap2) n n L X T l w1 ∧ w.heap.size + 2 ≤ w1.heap.size ∧ w1.rowIs (w.heap.size + 1) 25 2 (fun _ => Value.slice none 0 0)) := by
    refine ⟨HP3.out.step hb, by have := hb.size; simpa using this, ?_⟩
    have h2 := row_two (w.alloc (Obj.cells l.toArray 47)) (.slice none 0 0) (.slice none 0 0)
    have h3 := h2.of_block (hb.block _ h2.lt)
    have e : (w.alloc (Obj.cells l.toArray 47)).heap.size = w.heap.size + 1 := by simp
    rw [e] at h3
    exact h3.congr fun i _ => by split <;> rfl
  clear hb HK HA HP3
  go_wp2_with fail
  refine wp_region_free mixed (fun a0 d a W => ∃ (gr : Nat) (gt : Nat) (ct : Nat) (gd : Nat) (x5 x16 x17 x18 x19 x20 x21 x22 x23 : Value), a = (((((((((a0.put (some 5) x5).put (some 16) x16).put (some 17) x17).put (some 18) x18).put (some 19) x19).put (some 20) x20).put (some 21) x21).put (some 22) x22).put (some 23) x23) ∧ Hid (RU w O b o cap b2 o2 cap2 n L X T l gr gt ct gd d x5 x16 x17 x18 x19 x20 x21 x22 x23 W)) (by kernel_rfl) ⟨0, 0, 0, 0, undef, undef, undef, undef, undef, undef, undef, undef, undef, by simp only [Act.put, List.setIfInBounds_toArray, List.set_cons_zero, List.set_cons_succ], ?_⟩ ?_ ?_
  · exact ⟨fun h => no_way h, fun h => no_way h, fun h => no_way h, fun h => no_way h, fun h => no_way h, fun h => no_way h, fun h => no_way h, fun h => no_way h, fun h => no_way h, fun _ => trivial, fun h => no_way h, fun h => no_way h, fun h => no_way h, fun h => no_way h, fun h => no_way h, HP1.out.1.step (Below.refl _ _).drew, HP1.out.2.1, fun h => no_way h, fun h => no_way h, fun h => no_way h, fun h => no_way h, fun h => no_way h, fun h => no_way h, fun h => no_way h, HP1.out.2.2⟩
  · simp only [StepAll, and_true]
    refine ⟨?_, ?_, ?_, ?_, ?_, ?_, ?_, ?_, ?_, ?_⟩
    · intro d a W hI hd hdep
      obtain ⟨gr, gt, ct, gd, x5, x16, x17, x18, x19, x20, x21, x22, x23, rfl, hF⟩ := hI
      clear hdep hd
      intro K hK
      simp only [Act.put, List.setIfInBounds_toArray, List.set_cons_zero, List.set_cons_succ]
      go_simp
      refine hK.out _ _ ⟨gr, gt, ct, gd, x5, (.pointer (some ⟨w.heap.size, 256, none⟩)), x17, x18, x19, x20, x21, x22, x23, by simp only [Act.put, List.setIfInBounds_toArray, List.set_cons_zero, List.set_cons_succ], ?_⟩
      exact ⟨fun _ => rfl, fun h => hF.out.f1 (by simpa using h), fun h => hF.out.f2 (by simpa using h), fun h => hF.out.f3 (by simpa using h), fun h => hF.out.f4 (by simpa using h), fun h => hF.out.f5 (by simpa using h), fun h => hF.out.f6 (by simpa using h), fun h => hF.out.f7 (by simpa using h), fun h => hF.out.f8 (by simpa using h), fun h => hF.out.f9 (by simpa using h), fun h => by have := hF.out.o73 (by simpa using h); simpa using this, fun h => by have := hF.out.o76 (by simpa using h); simpa using this, fun h => by have := hF.out.o93 (by simpa using h); simpa using this, fun h => by have := hF.out.o96 (by simpa using h); simpa using this, fun h => by have := hF.out.o98 (by simpa using h); simpa using this, hF.out.px, hF.out.sz, fun h => hF.out.mr (by simpa using h), fun h => hF.out.cl (by simpa using h), fun h h2 => hF.out.al (by simpa using h) (by simpa using h2), fun h => hF.out.st (by simpa using h), fun h k => hF.out.n36 (by simpa using h) (by simpa using k), fun h k => hF.out.n38 (by simpa using h) (by simpa using k), fun h k => hF.out.n68 (by simpa using h) (by simpa using k), hF.out.rs⟩
    · intro d a W hI hd hdep
      obtain ⟨gr, gt, ct, gd, x5, x16, x17, x18, x19, x20, x21, x22, x23, rfl, hF⟩ := hI
      have hd0 : d 0 = true := dep_of hdep 0 (by kernel_rfl)
      obtain rfl := hF.out.f0 hd0
      have y0 := hF.out.px.c1
      clear hdep hd hd0
      intro K hK
      simp only [Act.put, List.setIfInBounds_toArray, List.set_cons_zero, List.set_cons_succ]
      go_simp
      refine hK.out _ _ ⟨gr, gt, ct, gd, x5, (.pointer (some ⟨w.heap.size, 256, none⟩)), (.slice (some ⟨b, o, none⟩) n cap), x18, x19, x20, x21, x22, x23, by simp only [Act.put, List.setIfInBounds_toArray, List.set_cons_zero, List.set_cons_succ], ?_⟩
      exact ⟨fun h => hF.out.f0 (by simpa using h), fun _ => rfl, fun h => hF.out.f2 (by simpa using h), fun h => hF.out.f3 (by simpa using h), fun h => hF.out.f4 (by simpa using h), fun h => hF.out.f5 (by simpa using h), fun h => hF.out.f6 (by simpa using h), fun h => hF.out.f7 (by simpa using h), fun h => hF.out.f8 (by simpa using h), fun h => hF.out.f9 (by simpa using h), fun h => by have := hF.out.o73 (by simpa using h); simpa using this, fun h => by have := hF.out.o76 (by simpa using h); simpa using this, fun h => by have := hF.out.o93 (by simpa using h); simpa using this, fun h => by have := hF.out.o96 (by simpa using h); simpa using this, fun h => by have := hF.out.o98 (by simpa using h); simpa using this, hF.out.px, hF.out.sz, fun h => hF.out.mr (by simpa using h), fun h => hF.out.cl (by simpa using h), fun h h2 => hF.out.al (by simpa using h) (by simpa using h2), fun h => hF.out.st (by simpa using h), fun h k => hF.out.n36 (by simpa using h) (by simpa using k), fun h k => hF.out.n38 (by simpa using h) (by simpa using k), fun h k => hF.out.n68 (by simpa using h) (by simpa using k), hF.out.rs⟩
    · intro d a W hI hd hdep
      obtain ⟨gr, gt, ct, gd, x5, x16, x17, x18, x19, x20, x21, x22, x23, rfl, hF⟩ := hI
      have hd1 : d 1 = true := dep_of hdep 1 (by kernel_rfl)
      obtain rfl := hF.out.f1 hd1
      clear hdep hd hd1
      intro K hK
      simp only [Act.put, List.setIfInBounds_toArray, List.set_cons_zero, List.set_cons_succ]
      go_simp
      refine hK.out _ _ ⟨gr, gt, ct, gd, x5, x16, (.slice (some ⟨b, o, none⟩) n cap), (.int .i64 (n : Int)), x19, x20, x21, x22, x23, by simp only [Act.put, List.setIfInBounds_toArray, List.set_cons_zero, List.set_cons_succ], ?_⟩
      exact ⟨fun h => hF.out.f0 (by simpa using h), fun h => hF.out.f1 (by simpa using h), fun _ => rfl, fun h => hF.out.f3 (by simpa using h), fun h => hF.out.f4 (by simpa using h), fun h => hF.out.f5 (by simpa using h), fun h => hF.out.f6 (by simpa using h), fun h => hF.out.f7 (by simpa using h), fun h => hF.out.f8 (by simpa using h), fun h => hF.out.f9 (by simpa using h), fun h => by have := hF.out.o73 (by simpa using h); simpa using this, fun h => by have := hF.out.o76 (by simpa using h); simpa using this, fun h => by have := hF.out.o93 (by simpa using h); simpa using this, fun h => by have := hF.out.o96 (by simpa using h); simpa using this, fun h => by have := hF.out.o98 (by simpa using h); simpa using this, hF.out.px, hF.out.sz, fun h => hF.out.mr (by simpa using h), fun h => hF.out.cl (by simpa using h), fun h h2 => hF.out.al (by simpa using h) (by simpa using h2), fun h => hF.out.st (by simpa using h), fun h k => hF.out.n36 (by simpa using h) (by simpa using k), fun h k => hF.out.n38 (by simpa using h) (by simpa using k), fun h k => hF.out.n68 (by simpa using h) (by simpa using k), hF.out.rs⟩
    · intro d a W hI hd hdep
      obtain ⟨gr, gt, ct, gd, x5, x16, x17, x18, x19, x20, x21, x22, x23, rfl, hF⟩ := hI
      have hd2 : d 2 = true := dep_of hdep 2 (by kernel_rfl)
      obtain rfl := hF.out.f2 hd2
      have hmk := make_rows n HN.out
      have HD : Hid (d 7 = false) := no_later hF.out.o73 hd
      have HD9 : Hid (d 9 = false) := no_later hF.out.o93 hd
      have B1 := (Below.refl W.heap.size W).alloc (Nat.le_refl _) (Obj.cells (Array.replicate (n * 256) (Value.int .i16 0)) 42)
      clear hdep hd hd2
      intro K hK
      simp only [Act.put, List.setIfInBounds_toArray, List.set_cons_zero, List.set_cons_succ]
      go_simp
      refine hK.out _ _ ⟨W.heap.size, gt, ct, gd, x5, x16, x17, (.int .i64 (n : Int)), (.slice (some ⟨W.heap.size, 0, none⟩) n n), x20, x21, x22, x23, by simp only [Act.put, List.setIfInBounds_toArray, List.set_cons_zero, List.set_cons_succ], ?_⟩
      exact ⟨fun h => hF.out.f0 (by simpa using h), fun h => hF.out.f1 (by simpa using h), fun h => hF.out.f2 (by simpa using h), fun _ => rfl, fun h => hF.out.f4 (by simpa using h), fun h => hF.out.f5 (by simpa using h), fun h => hF.out.f6 (by simpa using h), fun h => by have := HD.out; simp [this] at h, fun h => hF.out.f8 (by simpa using h), fun h => hF.out.f9 (by simpa using h), fun _ => by simp, fun h => by have := hF.out.o76 (by simpa using h); simpa using this, fun _ => by simp, fun h => by have := hF.out.o96 (by simpa using h); simpa using this, fun h => by have := hF.out.o98 (by simpa using h); simpa using this, hF.out.px.step B1, by simp; have := hF.out.sz; omega, fun _ => ⟨hF.out.sz, rows_made W n⟩, fun h => have k := hF.out.cl (by simpa using h); ⟨k.1, by simp; have := k.2.1; omega, fun i hi => (B1.cell (p := ⟨gt, i, none⟩) k.2.1).trans (k.2.2 i hi)⟩, fun h h2 => have k := hF.out.al (by simpa using h) (by simpa using h2); ⟨k.1, by simp; have := k.2.1; omega, k.2.2.alloc _⟩, fun h => by have := HD9.out; simp [this] at h, fun _ k => by have := (hF.out.cl (by simpa using k)).2.1; omega, fun _ k => by have := (hF.out.al (by simpa using k) (by simpa using HD9.out)).2.1; omega, fun h k => hF.out.n68 (by simpa using h) (by simpa using k), hF.out.rs.alloc _⟩
    · intro d a W hI hd hdep
      obtain ⟨gr, gt, ct, gd, x5, x16, x17, x18, x19, x20, x21, x22, x23, rfl, hF⟩ := hI
      clear hdep hd
      intro K hK
      simp only [Act.put, List.setIfInBounds_toArray, List.set_cons_zero, List.set_cons_succ]
      go_simp
      refine hK.out _ _ ⟨gr, gt, ct, gd, x5, x16, x17, x18, x19, (.pointer (some ⟨w.heap.size, 257, none⟩)), x21, x22, x23, by simp only [Act.put, List.setIfInBounds_toArray, List.set_cons_zero, List.set_cons_succ], ?_⟩
      exact ⟨fun h => hF.out.f0 (by simpa using h), fun h => hF.out.f1 (by simpa using h), fun h => hF.out.f2 (by simpa using h), fun h => hF.out.f3 (by simpa using h), fun _ => rfl, fun h => hF.out.f5 (by simpa using h), fun h => hF.out.f6 (by simpa using h), fun h => hF.out.f7 (by simpa using h), fun h => hF.out.f8 (by simpa using h), fun h => hF.out.f9 (by simpa using h), fun h => by have := hF.out.o73 (by simpa using h); simpa using this, fun h => by have := hF.out.o76 (by simpa using h); simpa using this, fun h => by have := hF.out.o93 (by simpa using h); simpa using this, fun h => by have := hF.out.o96 (by simpa using h); simpa using this, fun h => by have := hF.out.o98 (by simpa using h); simpa using this, hF.out.px, hF.out.sz, fun h => hF.out.mr (by simpa using h), fun h => hF.out.cl (by simpa using h), fun h h2 => hF.out.al (by simpa using h) (by simpa using h2), fun h => hF.out.st (by simpa using h), fun h k => hF.out.n36 (by simpa using h) (by simpa using k), fun h k => hF.out.n38 (by simpa using h) (by simpa using k), fun h k => hF.out.n68 (by simpa using h) (by simpa using k), hF.out.rs⟩
    · intro d a W hI hd hdep
      obtain ⟨gr, gt, ct, gd, x5, x16, x17, x18, x19, x20, x21, x22, x23, rfl, hF⟩ := hI
      have hd4 : d 4 = true := dep_of hdep 4 (by kernel_rfl)
      obtain rfl := hF.out.f4 hd4
      have y0 := hF.out.px.c2
      clear hdep hd hd4
      intro K hK
      simp only [Act.put, List.setIfInBounds_toArray, List.set_cons_zero, List.set_cons_succ]
      go_simp
      refine hK.out _ _ ⟨gr, gt, ct, gd, x5, x16, x17, x18, x19, (.pointer (some ⟨w.heap.size, 257, none⟩)), (.slice (some ⟨b2, o2, none⟩) n cap2), x22, x23, by simp only [Act.put, List.setIfInBounds_toArray, List.set_cons_zero, List.set_cons_succ], ?_⟩
      exact ⟨fun h => hF.out.f0 (by simpa using h), fun h => hF.out.f1 (by simpa using h), fun h => hF.out.f2 (by simpa using h), fun h => hF.out.f3 (by simpa using h), fun h => hF.out.f4 (by simpa using h), fun _ => rfl, fun h => hF.out.f6 (by simpa using h), fun h => hF.out.f7 (by simpa using h), fun h => hF.out.f8 (by simpa using h), fun h => hF.out.f9 (by simpa using h), fun h => by have := hF.out.o73 (by simpa using h); simpa using this, fun h => by have := hF.out.o76 (by simpa using h); simpa using this, fun h => by have := hF.out.o93 (by simpa using h); simpa using this, fun h => by have := hF.out.o96 (by simpa using h); simpa using this, fun h => by have := hF.out.o98 (by simpa using h); simpa using this, hF.out.px, hF.out.sz, fun h => hF.out.mr (by simpa using h), fun h => hF.out.cl (by simpa using h), fun h h2 => hF.out.al (by simpa using h) (by simpa using h2), fun h => hF.out.st (by simpa using h), fun h k => hF.out.n36 (by simpa using h) (by simpa using k), fun h k => hF.out.n38 (by simpa using h) (by simpa using k), fun h k => hF.out.n68 (by simpa using h) (by simpa using k), hF.out.rs⟩
    · intro d a W hI hd hdep
      obtain ⟨gr, gt, ct, gd, x5, x16, x17, x18, x19, x20, x21, x22, x23, rfl, hF⟩ := hI
      have hd5 : d 5 = true := dep_of hdep 5 (by kernel_rfl)
      obtain rfl := hF.out.f5 hd5
      have HD : Hid (d 7 = false) := no_later hF.out.o76 hd
      have HD9 : Hid (d 9 = false) := no_later hF.out.o96 hd
      have hcl := clone_any _ n T W hF.out.px.tags HN.out.1 HN.out.2
      clear hdep hd hd5
      intro K hK
      simp only [Act.put, List.setIfInBounds_toArray, List.set_cons_zero, List.set_cons_succ]
      go_simp
      refine hcl.mono ?_
      rintro _ W1 ⟨gt1, ct1, rfl, hg1, hg2, hg3, hB⟩
      go_simp
      refine hK.out _ _ ⟨gr, gt1, ct1, gd, x5, x16, x17, x18, x19, x20, (.slice (some ⟨b2, o2, none⟩) n cap2), (.slice (some ⟨gt1, 0, none⟩) n ct1), x23, by simp only [Act.put, List.setIfInBounds_toArray, List.set_cons_zero, List.set_cons_succ], ?_⟩
      exact ⟨fun h => hF.out.f0 (by simpa using h), fun h => hF.out.f1 (by simpa using h), fun h => hF.out.f2 (by simpa using h), fun h => hF.out.f3 (by simpa using h), fun h => hF.out.f4 (by simpa using h), fun h => hF.out.f5 (by simpa using h), fun _ => rfl, fun h => by have := HD.out; simp [this] at h, fun h => hF.out.f8 (by simpa using h), fun h => hF.out.f9 (by simpa using h), fun h => by have := hF.out.o73 (by simpa using h); simpa using this, fun _ => by simp, fun h => by have := hF.out.o93 (by simpa using h); simpa using this, fun _ => by simp, fun h => by have := hF.out.o98 (by simpa using h); simpa using this, hF.out.px.step hB, Nat.le_trans hF.out.sz hB.size, fun h => have k := hF.out.mr (by simpa using h); ⟨k.1, k.2.of_block (hB.block _ k.2.lt)⟩, fun _ => ⟨Nat.le_trans hF.out.sz hg1, hg2, hg3⟩, fun h h2 => have k := hF.out.al (by simpa using h) (by simpa using h2); ⟨k.1, Nat.lt_of_lt_of_le k.2.1 hB.size, k.2.2.of_block (hB.block _ k.2.1)⟩, fun h => by have := HD9.out; simp [this] at h, fun k _ => by have := (hF.out.mr (by simpa using k)).2.lt; omega, fun h k => hF.out.n38 (by simpa using h) (by simpa using k), fun _ k => by have := (hF.out.al (by simpa using k) (by simpa using HD9.out)).2.1; omega, hF.out.rs.of_block (hB.block _ hF.out.rs.lt)⟩
    · intro d a W hI hd hdep
      obtain ⟨gr, gt, ct, gd, x5, x16, x17, x18, x19, x20, x21, x22, x23, rfl, hF⟩ := hI
      have hd3 : d 3 = true := dep_of hdep 3 (by kernel_rfl)
      have hd6 : d 6 = true := dep_of hdep 6 (by kernel_rfl)
      obtain rfl := hF.out.f3 hd3
      obtain rfl := hF.out.f6 hd6
      have hdd := hd3
      have hde := hd6
      clear hdep hd hd3 hd6
      intro K hK
      simp only [Act.put, List.setIfInBounds_toArray, List.set_cons_zero, List.set_cons_succ]
      go_simp
      refine hK.out _ _ ⟨gr, gt, ct, gd, x5, x16, x17, x18, (.slice (some ⟨gr, 0, none⟩) n n), x20, x21, (.slice (some ⟨gt, 0, none⟩) n ct), (.agg #[.slice (some ⟨gr, 0, none⟩) n n, .slice (some ⟨gt, 0, none⟩) n ct]), by simp only [Act.put, List.setIfInBounds_toArray, List.set_cons_zero, List.set_cons_succ], ?_⟩
      exact ⟨fun h => hF.out.f0 (by simpa using h), fun h => hF.out.f1 (by simpa using h), fun h => hF.out.f2 (by simpa using h), fun h => hF.out.f3 (by simpa using h), fun h => hF.out.f4 (by simpa using h), fun h => hF.out.f5 (by simpa using h), fun h => hF.out.f6 (by simpa using h), fun _ => rfl, fun h => hF.out.f8 (by simpa using h), fun h => hF.out.f9 (by simpa using h), fun _ => by simpa using hdd, fun _ => by simpa using hde, fun h => by have := hF.out.o93 (by simpa using h); simpa using this, fun h => by have := hF.out.o96 (by simpa using h); simpa using this, fun h => by have := hF.out.o98 (by simpa using h); simpa using this, hF.out.px, hF.out.sz, fun h => hF.out.mr (by simpa using h), fun h => hF.out.cl (by simpa using h), fun h h2 => hF.out.al (by simpa using h) (by simpa using h2), fun h => hF.out.st (by simpa using h), fun h k => hF.out.n36 (by simpa using h) (by simpa using k), fun h k => hF.out.n38 (by simpa using h) (by simpa using k), fun h k => hF.out.n68 (by simpa using h) (by simpa using k), hF.out.rs⟩
    · intro d a W hI hd hdep
      obtain ⟨gr, gt, ct, gd, x5, x16, x17, x18, x19, x20, x21, x22, x23, rfl, hF⟩ := hI
      have HD9 : Hid (d 9 = false) := no_later hF.out.o98 hd
      have B1 := (Below.refl W.heap.size W).alloc (Nat.le_refl _) (Obj.cells #[Value.slice none 0 0, Value.slice none 0 0] 25)
      clear hdep hd
      intro K hK
      simp only [Act.put, List.setIfInBounds_toArray, List.set_cons_zero, List.set_cons_succ]
      go_simp
      refine hK.out _ _ ⟨gr, gt, ct, W.heap.size, (.pointer (some ⟨W.heap.size, 0, none⟩)), x16, x17, x18, x19, x20, x21, x22, x23, by simp only [Act.put, List.setIfInBounds_toArray, List.set_cons_zero, List.set_cons_succ], ?_⟩
      exact ⟨fun h => hF.out.f0 (by simpa using h), fun h => hF.out.f1 (by simpa using h), fun h => hF.out.f2 (by simpa using h), fun h => hF.out.f3 (by simpa using h), fun h => hF.out.f4 (by simpa using h), fun h => hF.out.f5 (by simpa using h), fun h => hF.out.f6 (by simpa using h), fun h => hF.out.f7 (by simpa using h), fun _ => rfl, fun h => hF.out.f9 (by simpa using h), fun h => by have := hF.out.o73 (by simpa using h); simpa using this, fun h => by have := hF.out.o76 (by simpa using h); simpa using this, fun h => by have := hF.out.o93 (by simpa using h); simpa using this, fun h => by have := hF.out.o96 (by simpa using h); simpa using this, fun _ => by simp, hF.out.px.step B1, by simp; have := hF.out.sz; omega, fun h => have k := hF.out.mr (by simpa using h); ⟨k.1, k.2.alloc _⟩, fun h => have k := hF.out.cl (by simpa using h); ⟨k.1, by simp; have := k.2.1; omega, fun i hi => (B1.cell (p := ⟨gt, i, none⟩) k.2.1).trans (k.2.2 i hi)⟩, fun _ _ => ⟨hF.out.sz, by simp, (row_two W (.slice none 0 0) (.slice none 0 0)).congr fun i _ => by split <;> rfl⟩, fun h => by have := HD9.out; simp [this] at h, fun h k => hF.out.n36 (by simpa using h) (by simpa using k), fun k _ => by have := (hF.out.mr (by simpa using k)).2.lt; omega, fun k _ => by have := (hF.out.cl (by simpa using k)).2.1; omega, hF.out.rs.alloc _⟩
    · intro d a W hI hd hdep
      obtain ⟨gr, gt, ct, gd, x5, x16, x17, x18, x19, x20, x21, x22, x23, rfl, hF⟩ := hI
      have hd8 : d 8 = true := dep_of hdep 8 (by kernel_rfl)
      have hd7 : d 7 = true := dep_of hdep 7 (by kernel_rfl)
      obtain rfl := hF.out.f8 hd8
      obtain rfl := hF.out.f7 hd7
      have hdd := hF.out.o73 hd7
      have hde := hF.out.o76 hd7
      have hdf := hd8
      obtain ⟨hgd1, hgd2, hgd3⟩ := hF.out.al hd8 hd
      have y0 := hgd3.cell (i := 0) (by omega)
      have y1 := hgd3.cell (i := 1) (by omega)
      have y2 := hgd3.frozen 0
      have y3 := hgd3.frozen 1
      have hlt := hgd3.lt
      have hn1 := hF.out.n38 (hF.out.o73 hd7) hd8
      have hn2 := hF.out.n68 (hF.out.o76 hd7) hd8
      clear hdep hd hd8 hd7
      intro K hK
      simp only [Act.put, List.setIfInBounds_toArray, List.set_cons_zero, List.set_cons_succ]
      go_simp
      refine hK.out _ _ ⟨gr, gt, ct, gd, (.pointer (some ⟨gd, 0, none⟩)), x16, x17, x18, x19, x20, x21, x22, (.agg #[.slice (some ⟨gr, 0, none⟩) n n, .slice (some ⟨gt, 0, none⟩) n ct]), by simp only [Act.put, List.setIfInBounds_toArray, List.set_cons_zero, List.set_cons_succ], ?_⟩
      have hsame := same_two W gd (.slice (some ⟨gr, 0, none⟩) n n) (.slice (some ⟨gt, 0, none⟩) n ct)
      have hrow := row_two_set hgd3 (.slice (some ⟨gr, 0, none⟩) n n) (.slice (some ⟨gt, 0, none⟩) n ct)
      exact ⟨fun h => hF.out.f0 (by simpa using h), fun h => hF.out.f1 (by simpa using h), fun h => hF.out.f2 (by simpa using h), fun h => hF.out.f3 (by simpa using h), fun h => hF.out.f4 (by simpa using h), fun h => hF.out.f5 (by simpa using h), fun h => hF.out.f6 (by simpa using h), fun h => hF.out.f7 (by simpa using h), fun h => hF.out.f8 (by simpa using h), fun _ => trivial, fun h => by have := hF.out.o73 (by simpa using h); simpa using this, fun h => by have := hF.out.o76 (by simpa using h); simpa using this, fun _ => by simpa using hdd, fun _ => by simpa using hde, fun _ => by simpa using hdf, hF.out.px.set HX0.out HT0.out hsame (by omega) (by omega), by rw [hsame.1]; exact hF.out.sz, fun _ => have k := hF.out.mr hdd; ⟨k.1, k.2.of_block (hsame.2.2.2.2 _ hn1)⟩, fun _ => have k := hF.out.cl hde; ⟨k.1, by rw [hsame.1]; exact k.2.1, fun i hi => (cell_same (hsame.2.2.2.2 _ hn2) i).trans (k.2.2 i hi)⟩, fun _ h => by simp at h, fun _ => ⟨hgd1, by rw [hsame.1]; exact hgd2, hrow⟩, fun _ _ => hF.out.n36 hdd hde, fun _ _ => hn1, fun _ _ => hn2, hF.out.rs.of_block (hsame.2.2.2.2 _ (by omega))⟩
  · intro d a W hI hall
    obtain ⟨gr, gt, ct, gd, x5, x16, x17, x18, x19, x20, x21, x22, x23, rfl, hF⟩ := hI
    simp only [List.length_cons, List.length_nil] at hall
    obtain rfl := hF.out.f0 (hall 0 (by omega))
    obtain rfl := hF.out.f1 (hall 1 (by omega))
    obtain rfl := hF.out.f2 (hall 2 (by omega))
    obtain rfl := hF.out.f3 (hall 3 (by omega))
    obtain rfl := hF.out.f4 (hall 4 (by omega))
    obtain rfl := hF.out.f5 (hall 5 (by omega))
    obtain rfl := hF.out.f6 (hall 6 (by omega))
    obtain rfl := hF.out.f7 (hall 7 (by omega))
    obtain rfl := hF.out.f8 (hall 8 (by omega))
    have HU : Hid (Un w O b o cap b2 o2 cap2 n L X T l gr gt ct gd (fun _ _ => 0) W ∧ w.heap.size + 2 ≤ gr ∧ gr ≠ gt ∧ gr ≠ gd ∧ w.heap.size + 2 ≤ gd ∧ w.heap.size + 2 ≤ gt) := by
      have h3 := hF.out.mr (hall 3 (by omega))
      have h6 := hF.out.cl (hall 6 (by omega))
      have h9 := hF.out.st (hall 9 (by omega))
      exact ⟨⟨hF.out.px, h3.2, h6.2.2, h9.2.2, hF.out.rs, h6.2.1⟩, h3.1, hF.out.n36 (hall 3 (by omega)) (hall 6 (by omega)), hF.out.n38 (hall 3 (by omega)) (hall 8 (by omega)), h9.1, h6.1⟩
    clear hF hall HP1
    simp only [Act.put, List.setIfInBounds_toArray, List.set_cons_zero, List.set_cons_succ]
    have HG : Hid (w.heap.size + 2 ≤ gr ∧ gr ≠ gt ∧ gr ≠ gd ∧ w.heap.size + 2 ≤ gd ∧ w.heap.size + 2 ≤ gt) := HU.out.2
    have c1 := HU.out.1.px.c1
    go_wp2_with fail
    clear c1
    go_loopw [27] (fun i wr => ∃ k : Nat, k ≤ n ∧ i = .int .i64 (k : Int) ∧ Hid (∃ F, Un w O b o cap b2 o2 cap2 n L X T l gr gt ct gd F wr ∧ ∀ x y, x < k → y < 256 → F x y = X x (O y))) (fun i _ => n - (intOf i).toNat)
    case atStart => exact ⟨0, by omega, rfl, _, HU.out.1, fun x y hx => by omega⟩
    case round =>
      obtain ⟨k, hk, rfl, HE⟩ := hrel
      obtain ⟨F, hF, hFe⟩ := HE.out
      have HF : Hid (Un w O b o cap b2 o2 cap2 n L X T l gr gt ct gd F wr) := hF
      have HFE : Hid (∀ x y, x < k → y < 256 → F x y = X x (O y)) := hFe
      clear hF hFe HE
      by_cases hlt : k < n
      · obtain ⟨a1, cp1, ck0, hl1, hts0⟩ := HX0.out.cells k hlt
        have hbw : b < w.heap.size := by obtain ⟨b', o', e, h⟩ := HX0.out.place (by omega); simp at e; rw [e.1]; exact h
        obtain ⟨bk, ok, rfl, -⟩ := hts0.place (by have := (HCO.out k 0 hlt (by omega)).2.1; omega)
        have ck := (HF.out.px.below.cell (p := ⟨b, o + k, none⟩) hbw).trans ck0
        have HTS : Hid (Ts w (.slice (some ⟨bk, ok, none⟩) (L k) cp1) (L k) (X k)) := hts0
        clear ck0 hts0
        have hk0 : (0 : Int) ≤ (k : Int) := by omega
        have hk1 : (k : Int) < (n : Int) := by omega
        have HCL : Hid (wr.rangeAt w.heap.size 0 (ol O)) := HF.out.px.cols
        have HIX : Hid (∀ j : Nat, j < 256 → ∀ w : World, (Instr.index 44 (.agg (ol O).toArray) (.int .i64 (j : Int))).run Try.prog w = .ok (.int .u8 (O j : Int)) w) := index_of O
        have HSZ : Hid ((Try.prog.info? 44).map (·.size) = some (ol O).length) := by show _ = _; rw [ol_length]; exact size44
        obtain ⟨l2, HL2⟩ : ∃ l, Hid (ol O = l) := ⟨_, (rfl : ol O = ol O)⟩
        rw [HL2.out] at HCL HIX HSZ
        obtain ⟨lk, HLk⟩ : ∃ q, Hid (L k = q) := ⟨_, (rfl : L k = L k)⟩
        rw [HLk.out] at ck hl1
        go_wp2_with (refine wpList_load_mid rfl 44 _ rfl w.heap.size 0 rfl l2 _ HCL.out Try.underlying44 rfl HSZ.out ?_)
        clear ck HCL
        go_loopw [34] (fun i wr => ∃ j : Nat, j ≤ 256 ∧ i = .int .i64 (j : Int) ∧ Hid (∃ F, Un w O b o cap b2 o2 cap2 n L X T l gr gt ct gd F wr ∧ (∀ x y, x < k → y < 256 → F x y = X x (O y)) ∧ ∀ y, y < j → F k y = X k (O y))) (fun i _ => 256 - (intOf i).toNat)
        case atStart => exact ⟨0, by omega, rfl, F, HF.out, HFE.out, fun y hy => by omega⟩
        case round =>
          clear HF HFE
          obtain ⟨j, hj, rfl, HE⟩ := hrel
          obtain ⟨F, hF, hFe, hFk⟩ := HE.out
          have HF : Hid (Un w O b o cap b2 o2 cap2 n L X T l gr gt ct gd F wr) := hF
          have HFE : Hid ((∀ x y, x < k → y < 256 → F x y = X x (O y)) ∧ ∀ y, y < j → F k y = X k (O y)) := ⟨hFe, hFk⟩
          clear hF hFe hFk HE
          by_cases hjt : j < 256
          · have hts := HTS.out.below HF.out.px.below (Nat.le_refl _)
            obtain ⟨hc1, hc2, hc3, hc4⟩ := HCO.out k j hlt hjt
            have cx := hts.cells (O j) hc2
            rw [HLk.out] at hc2
            have hix := HIX.out j hjt
            obtain ⟨oj, HOJ⟩ : ∃ q, Hid (O j = q) := ⟨_, (rfl : O j = O j)⟩
            rw [HOJ.out] at cx hix hc2 hc3 hc4
            obtain ⟨z, HZ⟩ : ∃ q, Hid (X k oj = q) := ⟨_, (rfl : X k oj = X k oj)⟩
            rw [HZ.out] at cx hc3 hc4
            have hn2 := HN.out.2
            have hwr : IntKind.i16.wrap z = z := wrap16 (by omega)
            have hj0 : (0 : Int) ≤ (j : Int) := by omega
            have hj1 : (j : Int) < 256 := by omega
            have ho0 : (0 : Int) ≤ (oj : Int) := by omega
            have ho1 : (oj : Int) < (lk : Int) := by omega
            have c1 := HF.out.st.cell (i := 0) (by omega)
            simp only [if_true] at c1
            have HKJ : Hid (k * 256 + j < n * 256) := by show _ < _; omega
            have f1 := HF.out.rows.frozen (k * 256 + j)
            have d3 := HF.out.rows.cell HKJ.out
            have HWR : Hid (IntKind.i16.wrap z = z) := hwr
            clear hts hc1 hc3 hc4 hwr
            go_wp2_with fail
            refine wp_region_free mixed (fun a0 d a W => ∃ (x38 x39 x40 x41 x42 x43 x44 x45 x46 x47 x48 : Value), a = (((((((((((a0.put (some 38) x38).put (some 39) x39).put (some 40) x40).put (some 41) x41).put (some 42) x42).put (some 43) x43).put (some 44) x44).put (some 45) x45).put (some 46) x46).put (some 47) x47).put (some 48) x48) ∧ Hid (RV wr gd gr n k j bk ok lk cp1 oj z d x38 x39 x40 x41 x42 x43 x44 x45 x46 x47 x48 W)) (by kernel_rfl) ⟨u38, u39, u40, u41, u42, u43, u44, u45, u46, u47, u48, by simp only [Act.put, List.setIfInBounds_toArray, List.set_cons_zero, List.set_cons_succ], ?_⟩ ?_ ?_
            · exact ⟨fun h => no_way h, fun h => no_way h, fun h => no_way h, fun h => no_way h, fun h => no_way h, fun h => no_way h, fun h => no_way h, fun h => no_way h, fun h => no_way h, fun h => no_way h, fun h => no_way h, fun _ => trivial, fun h => no_way h, fun h => no_way h, fun h => no_way h, fun h => no_way h, fun h => no_way h, fun h => no_way h, fun h => no_way h, fun h => no_way h, fun h => no_way h, fun h => no_way h, fun h => no_way h, fun h => no_way h, fun _ => Sm.drew wr, fun h => no_way h⟩
            · simp only [StepAll, and_true]
              refine ⟨?_, ?_, ?_, ?_, ?_, ?_, ?_, ?_, ?_, ?_, ?_, ?_⟩
              · intro d a W hI hd hdep
                obtain ⟨x38, x39, x40, x41, x42, x43, x44, x45, x46, x47, x48, rfl, hF⟩ := hI
                have hsm := hF.out.sm (no_later hF.out.p0 hd)
                clear hdep hd
                intro K hK
                simp only [Act.put, List.setIfInBounds_toArray, List.set_cons_zero, List.set_cons_succ]
                go_simp
                refine hK.out _ _ ⟨(.pointer (some ⟨gd, 0, none⟩)), x39, x40, x41, x42, x43, x44, x45, x46, x47, x48, by simp only [Act.put, List.setIfInBounds_toArray, List.set_cons_zero, List.set_cons_succ], ?_⟩
                exact ⟨fun _ => rfl, fun h => hF.out.f1 (by simpa using h), fun h => hF.out.f2 (by simpa using h), fun h => hF.out.f3 (by simpa using h), fun h => hF.out.f4 (by simpa using h), fun h => hF.out.f5 (by simpa using h), fun h => hF.out.f6 (by simpa using h), fun h => hF.out.f7 (by simpa using h), fun h => hF.out.f8 (by simpa using h), fun h => hF.out.f9 (by simpa using h), fun h => hF.out.f10 (by simpa using h), fun h => hF.out.f11 (by simpa using h), fun _ => by simp, fun h => by have := hF.out.p1 (by simpa using h); simpa using this, fun h => by have := hF.out.p2 (by simpa using h); simpa using this, fun h => by have := hF.out.p3 (by simpa using h); simpa using this, fun h => by have := hF.out.p4 (by simpa using h); simpa using this, fun h => by have := hF.out.p5 (by simpa using h); simpa using this, fun h => by have := hF.out.p6 (by simpa using h); simpa using this, fun h => by have := hF.out.p7 (by simpa using h); simpa using this, fun h => by have := hF.out.p8 (by simpa using h); simpa using this, fun h => by have := hF.out.p9 (by simpa using h); simpa using this, fun h => by have := hF.out.p10 (by simpa using h); simpa using this, fun h => by have := hF.out.q (by simpa using h); simpa using this, fun _ => hsm, fun h => hF.out.fin (by simpa using h)⟩
              · intro d a W hI hd hdep
                obtain ⟨x38, x39, x40, x41, x42, x43, x44, x45, x46, x47, x48, rfl, hF⟩ := hI
                have hd0 : d 0 = true := dep_of hdep 0 (by kernel_rfl)
                obtain rfl := hF.out.f0 hd0
                have hsm := hF.out.sm (no_later hF.out.p1 hd)
                have y0 := (hsm.cell _).trans c1
                clear hdep hd hd0
                intro K hK
                simp only [Act.put, List.setIfInBounds_toArray, List.set_cons_zero, List.set_cons_succ]
                go_simp
                refine hK.out _ _ ⟨(.pointer (some ⟨gd, 0, none⟩)), (.slice (some ⟨gr, 0, none⟩) n n), x40, x41, x42, x43, x44, x45, x46, x47, x48, by simp only [Act.put, List.setIfInBounds_toArray, List.set_cons_zero, List.set_cons_succ], ?_⟩
                exact ⟨fun h => hF.out.f0 (by simpa using h), fun _ => rfl, fun h => hF.out.f2 (by simpa using h), fun h => hF.out.f3 (by simpa using h), fun h => hF.out.f4 (by simpa using h), fun h => hF.out.f5 (by simpa using h), fun h => hF.out.f6 (by simpa using h), fun h => hF.out.f7 (by simpa using h), fun h => hF.out.f8 (by simpa using h), fun h => hF.out.f9 (by simpa using h), fun h => hF.out.f10 (by simpa using h), fun h => hF.out.f11 (by simpa using h), fun h => by have := hF.out.p0 (by simpa using h); simpa using this, fun _ => by simp, fun h => by have := hF.out.p2 (by simpa using h); simpa using this, fun h => by have := hF.out.p3 (by simpa using h); simpa using this, fun h => by have := hF.out.p4 (by simpa using h); simpa using this, fun h => by have := hF.out.p5 (by simpa using h); simpa using this, fun h => by have := hF.out.p6 (by simpa using h); simpa using this, fun h => by have := hF.out.p7 (by simpa using h); simpa using this, fun h => by have := hF.out.p8 (by simpa using h); simpa using this, fun h => by have := hF.out.p9 (by simpa using h); simpa using this, fun h => by have := hF.out.p10 (by simpa using h); simpa using this, fun h => by have := hF.out.q (by simpa using h); simpa using this, fun _ => hsm, fun h => hF.out.fin (by simpa using h)⟩
              · intro d a W hI hd hdep
                obtain ⟨x38, x39, x40, x41, x42, x43, x44, x45, x46, x47, x48, rfl, hF⟩ := hI
                have hsm := hF.out.sm (no_later hF.out.p2 hd)
                clear hdep hd
                intro K hK
                simp only [Act.put, List.setIfInBounds_toArray, List.set_cons_zero, List.set_cons_succ]
                go_simp
                refine hK.out _ _ ⟨x38, x39, (.int .i64 (k : Int)), x41, x42, x43, x44, x45, x46, x47, x48, by simp only [Act.put, List.setIfInBounds_toArray, List.set_cons_zero, List.set_cons_succ], ?_⟩
                exact ⟨fun h => hF.out.f0 (by simpa using h), fun h => hF.out.f1 (by simpa using h), fun _ => rfl, fun h => hF.out.f3 (by simpa using h), fun h => hF.out.f4 (by simpa using h), fun h => hF.out.f5 (by simpa using h), fun h => hF.out.f6 (by simpa using h), fun h => hF.out.f7 (by simpa using h), fun h => hF.out.f8 (by simpa using h), fun h => hF.out.f9 (by simpa using h), fun h => hF.out.f10 (by simpa using h), fun h => hF.out.f11 (by simpa using h), fun h => by have := hF.out.p0 (by simpa using h); simpa using this, fun h => by have := hF.out.p1 (by simpa using h); simpa using this, fun _ => by simp, fun h => by have := hF.out.p3 (by simpa using h); simpa using this, fun h => by have := hF.out.p4 (by simpa using h); simpa using this, fun h => by have := hF.out.p5 (by simpa using h); simpa using this, fun h => by have := hF.out.p6 (by simpa using h); simpa using this, fun h => by have := hF.out.p7 (by simpa using h); simpa using this, fun h => by have := hF.out.p8 (by simpa using h); simpa using this, fun h => by have := hF.out.p9 (by simpa using h); simpa using this, fun h => by have := hF.out.p10 (by simpa using h); simpa using this, fun h => by have := hF.out.q (by simpa using h); simpa using this, fun _ => hsm, fun h => hF.out.fin (by simpa using h)⟩
              · intro d a W hI hd hdep
                obtain ⟨x38, x39, x40, x41, x42, x43, x44, x45, x46, x47, x48, rfl, hF⟩ := hI
                have hsm := hF.out.sm (no_later hF.out.p3 hd)
                clear hdep hd
                intro K hK
                simp only [Act.put, List.setIfInBounds_toArray, List.set_cons_zero, List.set_cons_succ]
                go_simp
                refine hK.out _ _ ⟨x38, x39, x40, (.int .i64 (j : Int)), x42, x43, x44, x45, x46, x47, x48, by simp only [Act.put, List.setIfInBounds_toArray, List.set_cons_zero, List.set_cons_succ], ?_⟩
                exact ⟨fun h => hF.out.f0 (by simpa using h), fun h => hF.out.f1 (by simpa using h), fun h => hF.out.f2 (by simpa using h), fun _ => rfl, fun h => hF.out.f4 (by simpa using h), fun h => hF.out.f5 (by simpa using h), fun h => hF.out.f6 (by simpa using h), fun h => hF.out.f7 (by simpa using h), fun h => hF.out.f8 (by simpa using h), fun h => hF.out.f9 (by simpa using h), fun h => hF.out.f10 (by simpa using h), fun h => hF.out.f11 (by simpa using h), fun h => by have := hF.out.p0 (by simpa using h); simpa using this, fun h => by have := hF.out.p1 (by simpa using h); simpa using this, fun h => by have := hF.out.p2 (by simpa using h); simpa using this, fun _ => by simp, fun h => by have := hF.out.p4 (by simpa using h); simpa using this, fun h => by have := hF.out.p5 (by simpa using h); simpa using this, fun h => by have := hF.out.p6 (by simpa using h); simpa using this, fun h => by have := hF.out.p7 (by simpa using h); simpa using this, fun h => by have := hF.out.p8 (by simpa using h); simpa using this, fun h => by have := hF.out.p9 (by simpa using h); simpa using this, fun h => by have := hF.out.p10 (by simpa using h); simpa using this, fun h => by have := hF.out.q (by simpa using h); simpa using this, fun _ => hsm, fun h => hF.out.fin (by simpa using h)⟩
              · intro d a W hI hd hdep
                obtain ⟨x38, x39, x40, x41, x42, x43, x44, x45, x46, x47, x48, rfl, hF⟩ := hI
                have hsm := hF.out.sm (no_later hF.out.p4 hd)
                clear hdep hd
                intro K hK
                simp only [Act.put, List.setIfInBounds_toArray, List.set_cons_zero, List.set_cons_succ]
                go_simp
                refine hK.out _ _ ⟨x38, x39, x40, x41, (.slice (some ⟨bk, ok, none⟩) lk cp1), x43, x44, x45, x46, x47, x48, by simp only [Act.put, List.setIfInBounds_toArray, List.set_cons_zero, List.set_cons_succ], ?_⟩
                exact ⟨fun h => hF.out.f0 (by simpa using h), fun h => hF.out.f1 (by simpa using h), fun h => hF.out.f2 (by simpa using h), fun h => hF.out.f3 (by simpa using h), fun _ => rfl, fun h => hF.out.f5 (by simpa using h), fun h => hF.out.f6 (by simpa using h), fun h => hF.out.f7 (by simpa using h), fun h => hF.out.f8 (by simpa using h), fun h => hF.out.f9 (by simpa using h), fun h => hF.out.f10 (by simpa using h), fun h => hF.out.f11 (by simpa using h), fun h => by have := hF.out.p0 (by simpa using h); simpa using this, fun h => by have := hF.out.p1 (by simpa using h); simpa using this, fun h => by have := hF.out.p2 (by simpa using h); simpa using this, fun h => by have := hF.out.p3 (by simpa using h); simpa using this, fun _ => by simp, fun h => by have := hF.out.p5 (by simpa using h); simpa using this, fun h => by have := hF.out.p6 (by simpa using h); simpa using this, fun h => by have := hF.out.p7 (by simpa using h); simpa using this, fun h => by have := hF.out.p8 (by simpa using h); simpa using this, fun h => by have := hF.out.p9 (by simpa using h); simpa using this, fun h => by have := hF.out.p10 (by simpa using h); simpa using this, fun h => by have := hF.out.q (by simpa using h); simpa using this, fun _ => hsm, fun h => hF.out.fin (by simpa using h)⟩
              · intro d a W hI hd hdep
                obtain ⟨x38, x39, x40, x41, x42, x43, x44, x45, x46, x47, x48, rfl, hF⟩ := hI
                have hsm := hF.out.sm (no_later hF.out.p5 hd)
                clear hdep hd
                intro K hK
                simp only [Act.put, List.setIfInBounds_toArray, List.set_cons_zero, List.set_cons_succ]
                go_simp
                refine hK.out _ _ ⟨x38, x39, x40, x41, x42, (.int .u8 (oj : Int)), x44, x45, x46, x47, x48, by simp only [Act.put, List.setIfInBounds_toArray, List.set_cons_zero, List.set_cons_succ], ?_⟩
                exact ⟨fun h => hF.out.f0 (by simpa using h), fun h => hF.out.f1 (by simpa using h), fun h => hF.out.f2 (by simpa using h), fun h => hF.out.f3 (by simpa using h), fun h => hF.out.f4 (by simpa using h), fun _ => rfl, fun h => hF.out.f6 (by simpa using h), fun h => hF.out.f7 (by simpa using h), fun h => hF.out.f8 (by simpa using h), fun h => hF.out.f9 (by simpa using h), fun h => hF.out.f10 (by simpa using h), fun h => hF.out.f11 (by simpa using h), fun h => by have := hF.out.p0 (by simpa using h); simpa using this, fun h => by have := hF.out.p1 (by simpa using h); simpa using this, fun h => by have := hF.out.p2 (by simpa using h); simpa using this, fun h => by have := hF.out.p3 (by simpa using h); simpa using this, fun h => by have := hF.out.p4 (by simpa using h); simpa using this, fun _ => by simp, fun h => by have := hF.out.p6 (by simpa using h); simpa using this, fun h => by have := hF.out.p7 (by simpa using h); simpa using this, fun h => by have := hF.out.p8 (by simpa using h); simpa using this, fun h => by have := hF.out.p9 (by simpa using h); simpa using this, fun h => by have := hF.out.p10 (by simpa using h); simpa using this, fun h => by have := hF.out.q (by simpa using h); simpa using this, fun _ => hsm, fun h => hF.out.fin (by simpa using h)⟩
              · intro d a W hI hd hdep
                obtain ⟨x38, x39, x40, x41, x42, x43, x44, x45, x46, x47, x48, rfl, hF⟩ := hI
                have hd4 : d 4 = true := dep_of hdep 4 (by kernel_rfl)
                have hd5 : d 5 = true := dep_of hdep 5 (by kernel_rfl)
                obtain rfl := hF.out.f4 hd4
                obtain rfl := hF.out.f5 hd5
                have hsm := hF.out.sm (no_later hF.out.p6 hd)
                clear hdep hd hd4 hd5
                intro K hK
                simp only [Act.put, List.setIfInBounds_toArray, List.set_cons_zero, List.set_cons_succ]
                go_simp
                refine hK.out _ _ ⟨x38, x39, x40, x41, (.slice (some ⟨bk, ok, none⟩) lk cp1), (.int .u8 (oj : Int)), (.pointer (some ⟨bk, ok + oj, none⟩)), x45, x46, x47, x48, by simp only [Act.put, List.setIfInBounds_toArray, List.set_cons_zero, List.set_cons_succ], ?_⟩
                exact ⟨fun h => hF.out.f0 (by simpa using h), fun h => hF.out.f1 (by simpa using h), fun h => hF.out.f2 (by simpa using h), fun h => hF.out.f3 (by simpa using h), fun h => hF.out.f4 (by simpa using h), fun h => hF.out.f5 (by simpa using h), fun _ => rfl, fun h => hF.out.f7 (by simpa using h), fun h => hF.out.f8 (by simpa using h), fun h => hF.out.f9 (by simpa using h), fun h => hF.out.f10 (by simpa using h), fun h => hF.out.f11 (by simpa using h), fun h => by have := hF.out.p0 (by simpa using h); simpa using this, fun h => by have := hF.out.p1 (by simpa using h); simpa using this, fun h => by have := hF.out.p2 (by simpa using h); simpa using this, fun h => by have := hF.out.p3 (by simpa using h); simpa using this, fun h => by have := hF.out.p4 (by simpa using h); simpa using this, fun h => by have := hF.out.p5 (by simpa using h); simpa using this, fun _ => by simp, fun h => by have := hF.out.p7 (by simpa using h); simpa using this, fun h => by have := hF.out.p8 (by simpa using h); simpa using this, fun h => by have := hF.out.p9 (by simpa using h); simpa using this, fun h => by have := hF.out.p10 (by simpa using h); simpa using this, fun h => by have := hF.out.q (by simpa using h); simpa using this, fun _ => hsm, fun h => hF.out.fin (by simpa using h)⟩
              · intro d a W hI hd hdep
                obtain ⟨x38, x39, x40, x41, x42, x43, x44, x45, x46, x47, x48, rfl, hF⟩ := hI
                have hd6 : d 6 = true := dep_of hdep 6 (by kernel_rfl)
                obtain rfl := hF.out.f6 hd6
                have hsm := hF.out.sm (no_later hF.out.p7 hd)
                have y0 := (hsm.cell _).trans cx
                clear hdep hd hd6
                intro K hK
                simp only [Act.put, List.setIfInBounds_toArray, List.set_cons_zero, List.set_cons_succ]
                go_simp
                refine hK.out _ _ ⟨x38, x39, x40, x41, x42, x43, (.pointer (some ⟨bk, ok + oj, none⟩)), (.int .i64 z), x46, x47, x48, by simp only [Act.put, List.setIfInBounds_toArray, List.set_cons_zero, List.set_cons_succ], ?_⟩
                exact ⟨fun h => hF.out.f0 (by simpa using h), fun h => hF.out.f1 (by simpa using h), fun h => hF.out.f2 (by simpa using h), fun h => hF.out.f3 (by simpa using h), fun h => hF.out.f4 (by simpa using h), fun h => hF.out.f5 (by simpa using h), fun h => hF.out.f6 (by simpa using h), fun _ => rfl, fun h => hF.out.f8 (by simpa using h), fun h => hF.out.f9 (by simpa using h), fun h => hF.out.f10 (by simpa using h), fun h => hF.out.f11 (by simpa using h), fun h => by have := hF.out.p0 (by simpa using h); simpa using this, fun h => by have := hF.out.p1 (by simpa using h); simpa using this, fun h => by have := hF.out.p2 (by simpa using h); simpa using this, fun h => by have := hF.out.p3 (by simpa using h); simpa using this, fun h => by have := hF.out.p4 (by simpa using h); simpa using this, fun h => by have := hF.out.p5 (by simpa using h); simpa using this, fun h => by have := hF.out.p6 (by simpa using h); simpa using this, fun _ => by simp, fun h => by have := hF.out.p8 (by simpa using h); simpa using this, fun h => by have := hF.out.p9 (by simpa using h); simpa using this, fun h => by have := hF.out.p10 (by simpa using h); simpa using this, fun h => by have := hF.out.q (by simpa using h); simpa using this, fun _ => hsm, fun h => hF.out.fin (by simpa using h)⟩
              · intro d a W hI hd hdep
                obtain ⟨x38, x39, x40, x41, x42, x43, x44, x45, x46, x47, x48, rfl, hF⟩ := hI
                have hd7 : d 7 = true := dep_of hdep 7 (by kernel_rfl)
                obtain rfl := hF.out.f7 hd7
                have hsm := hF.out.sm (no_later hF.out.p8 hd)
                have hwr := HWR.out
                clear hdep hd hd7
                intro K hK
                simp only [Act.put, List.setIfInBounds_toArray, List.set_cons_zero, List.set_cons_succ]
                go_simp
                refine hK.out _ _ ⟨x38, x39, x40, x41, x42, x43, x44, (.int .i64 z), (.int .i16 z), x47, x48, by simp only [Act.put, List.setIfInBounds_toArray, List.set_cons_zero, List.set_cons_succ], ?_⟩
                exact ⟨fun h => hF.out.f0 (by simpa using h), fun h => hF.out.f1 (by simpa using h), fun h => hF.out.f2 (by simpa using h), fun h => hF.out.f3 (by simpa using h), fun h => hF.out.f4 (by simpa using h), fun h => hF.out.f5 (by simpa using h), fun h => hF.out.f6 (by simpa using h), fun h => hF.out.f7 (by simpa using h), fun _ => rfl, fun h => hF.out.f9 (by simpa using h), fun h => hF.out.f10 (by simpa using h), fun h => hF.out.f11 (by simpa using h), fun h => by have := hF.out.p0 (by simpa using h); simpa using this, fun h => by have := hF.out.p1 (by simpa using h); simpa using this, fun h => by have := hF.out.p2 (by simpa using h); simpa using this, fun h => by have := hF.out.p3 (by simpa using h); simpa using this, fun h => by have := hF.out.p4 (by simpa using h); simpa using this, fun h => by have := hF.out.p5 (by simpa using h); simpa using this, fun h => by have := hF.out.p6 (by simpa using h); simpa using this, fun h => by have := hF.out.p7 (by simpa using h); simpa using this, fun _ => by simp, fun h => by have := hF.out.p9 (by simpa using h); simpa using this, fun h => by have := hF.out.p10 (by simpa using h); simpa using this, fun h => by have := hF.out.q (by simpa using h); simpa using this, fun _ => hsm, fun h => hF.out.fin (by simpa using h)⟩
              · intro d a W hI hd hdep
                obtain ⟨x38, x39, x40, x41, x42, x43, x44, x45, x46, x47, x48, rfl, hF⟩ := hI
                have hd1 : d 1 = true := dep_of hdep 1 (by kernel_rfl)
                have hd2 : d 2 = true := dep_of hdep 2 (by kernel_rfl)
                obtain rfl := hF.out.f1 hd1
                obtain rfl := hF.out.f2 hd2
                have hsm := hF.out.sm (no_later hF.out.p9 hd)
                clear hdep hd hd1 hd2
                intro K hK
                simp only [Act.put, List.setIfInBounds_toArray, List.set_cons_zero, List.set_cons_succ]
                go_simp
                refine hK.out _ _ ⟨x38, (.slice (some ⟨gr, 0, none⟩) n n), (.int .i64 (k : Int)), x41, x42, x43, x44, x45, x46, (.pointer (some ⟨gr, k * 256, none⟩)), x48, by simp only [Act.put, List.setIfInBounds_toArray, List.set_cons_zero, List.set_cons_succ], ?_⟩
                exact ⟨fun h => hF.out.f0 (by simpa using h), fun h => hF.out.f1 (by simpa using h), fun h => hF.out.f2 (by simpa using h), fun h => hF.out.f3 (by simpa using h), fun h => hF.out.f4 (by simpa using h), fun h => hF.out.f5 (by simpa using h), fun h => hF.out.f6 (by simpa using h), fun h => hF.out.f7 (by simpa using h), fun h => hF.out.f8 (by simpa using h), fun _ => rfl, fun h => hF.out.f10 (by simpa using h), fun h => hF.out.f11 (by simpa using h), fun h => by have := hF.out.p0 (by simpa using h); simpa using this, fun h => by have := hF.out.p1 (by simpa using h); simpa using this, fun h => by have := hF.out.p2 (by simpa using h); simpa using this, fun h => by have := hF.out.p3 (by simpa using h); simpa using this, fun h => by have := hF.out.p4 (by simpa using h); simpa using this, fun h => by have := hF.out.p5 (by simpa using h); simpa using this, fun h => by have := hF.out.p6 (by simpa using h); simpa using this, fun h => by have := hF.out.p7 (by simpa using h); simpa using this, fun h => by have := hF.out.p8 (by simpa using h); simpa using this, fun _ => by simp, fun h => by have := hF.out.p10 (by simpa using h); simpa using this, fun _ => by simp, fun _ => hsm, fun h => hF.out.fin (by simpa using h)⟩
              · intro d a W hI hd hdep
                obtain ⟨x38, x39, x40, x41, x42, x43, x44, x45, x46, x47, x48, rfl, hF⟩ := hI
                have hd9 : d 9 = true := dep_of hdep 9 (by kernel_rfl)
                have hd3 : d 3 = true := dep_of hdep 3 (by kernel_rfl)
                obtain rfl := hF.out.f9 hd9
                obtain rfl := hF.out.f3 hd3
                have hsm := hF.out.sm (no_later hF.out.p10 hd)
                have hd9b := hd9
                clear hdep hd hd9 hd3
                intro K hK
                simp only [Act.put, List.setIfInBounds_toArray, List.set_cons_zero, List.set_cons_succ]
                go_simp
                refine hK.out _ _ ⟨x38, x39, x40, (.int .i64 (j : Int)), x42, x43, x44, x45, x46, (.pointer (some ⟨gr, k * 256, none⟩)), (.pointer (some ⟨gr, k * 256 + j, none⟩)), by simp only [Act.put, List.setIfInBounds_toArray, List.set_cons_zero, List.set_cons_succ], ?_⟩
                exact ⟨fun h => hF.out.f0 (by simpa using h), fun h => hF.out.f1 (by simpa using h), fun h => hF.out.f2 (by simpa using h), fun h => hF.out.f3 (by simpa using h), fun h => hF.out.f4 (by simpa using h), fun h => hF.out.f5 (by simpa using h), fun h => hF.out.f6 (by simpa using h), fun h => hF.out.f7 (by simpa using h), fun h => hF.out.f8 (by simpa using h), fun h => hF.out.f9 (by simpa using h), fun _ => rfl, fun h => hF.out.f11 (by simpa using h), fun h => by have := hF.out.p0 (by simpa using h); simpa using this, fun h => by have := hF.out.p1 (by simpa using h); simpa using this, fun h => by have := hF.out.p2 (by simpa using h); simpa using this, fun h => by have := hF.out.p3 (by simpa using h); simpa using this, fun h => by have := hF.out.p4 (by simpa using h); simpa using this, fun h => by have := hF.out.p5 (by simpa using h); simpa using this, fun h => by have := hF.out.p6 (by simpa using h); simpa using this, fun h => by have := hF.out.p7 (by simpa using h); simpa using this, fun h => by have := hF.out.p8 (by simpa using h); simpa using this, fun h => by have := hF.out.p9 (by simpa using h); simpa using this, fun _ => by simp, fun _ => by simpa using hd9b, fun _ => hsm, fun h => hF.out.fin (by simpa using h)⟩
              · intro d a W hI hd hdep
                obtain ⟨x38, x39, x40, x41, x42, x43, x44, x45, x46, x47, x48, rfl, hF⟩ := hI
                have hd10 : d 10 = true := dep_of hdep 10 (by kernel_rfl)
                have hd8 : d 8 = true := dep_of hdep 8 (by kernel_rfl)
                have hd0 : d 0 = true := dep_of hdep 0 (by kernel_rfl)
                have hd1 : d 1 = true := dep_of hdep 1 (by kernel_rfl)
                have hd2 : d 2 = true := dep_of hdep 2 (by kernel_rfl)
                have hd3 : d 3 = true := dep_of hdep 3 (by kernel_rfl)
                have hd4 : d 4 = true := dep_of hdep 4 (by kernel_rfl)
                have hd5 : d 5 = true := dep_of hdep 5 (by kernel_rfl)
                have hd6 : d 6 = true := dep_of hdep 6 (by kernel_rfl)
                have hd7 : d 7 = true := dep_of hdep 7 (by kernel_rfl)
                obtain rfl := hF.out.f10 hd10
                obtain rfl := hF.out.f8 hd8
                obtain rfl := hF.out.f0 hd0
                obtain rfl := hF.out.f1 hd1
                obtain rfl := hF.out.f2 hd2
                obtain rfl := hF.out.f3 hd3
                obtain rfl := hF.out.f4 hd4
                obtain rfl := hF.out.f5 hd5
                obtain rfl := hF.out.f6 hd6
                obtain rfl := hF.out.f7 hd7
                have hsm := hF.out.sm hd
                have y0 := (hsm.cell _).trans d3
                have y1 := (hsm.frozen _).trans f1
                have hd9 := hF.out.q hd10
                have g0 := hd0
                have g1 := hd1
                have g2 := hd2
                have g3 := hd3
                have g4 := hd4
                have g5 := hd5
                have g6 := hd6
                have g7 := hd7
                have g8 := hd8
                have g9 := hd9
                have g10 := hd10
                clear hdep hd hd10 hd8 hd0 hd1 hd2 hd3 hd4 hd5 hd6 hd7
                intro K hK
                simp only [Act.put, List.setIfInBounds_toArray, List.set_cons_zero, List.set_cons_succ]
                go_simp
                refine hK.out _ _ ⟨(.pointer (some ⟨gd, 0, none⟩)), (.slice (some ⟨gr, 0, none⟩) n n), (.int .i64 (k : Int)), (.int .i64 (j : Int)), (.slice (some ⟨bk, ok, none⟩) lk cp1), (.int .u8 (oj : Int)), (.pointer (some ⟨bk, ok + oj, none⟩)), (.int .i64 z), (.int .i16 z), x47, (.pointer (some ⟨gr, k * 256 + j, none⟩)), by simp only [Act.put, List.setIfInBounds_toArray, List.set_cons_zero, List.set_cons_succ], ?_⟩
                exact ⟨fun h => hF.out.f0 (by simpa using h), fun h => hF.out.f1 (by simpa using h), fun h => hF.out.f2 (by simpa using h), fun h => hF.out.f3 (by simpa using h), fun h => hF.out.f4 (by simpa using h), fun h => hF.out.f5 (by simpa using h), fun h => hF.out.f6 (by simpa using h), fun h => hF.out.f7 (by simpa using h), fun h => hF.out.f8 (by simpa using h), fun h => hF.out.f9 (by simpa using h), fun h => hF.out.f10 (by simpa using h), fun _ => trivial, fun _ => by simpa using g0, fun _ => by simpa using g1, fun _ => by simpa using g2, fun _ => by simpa using g3, fun _ => by simpa using g4, fun _ => by simpa using g5, fun _ => by simpa using g6, fun _ => by simpa using g7, fun _ => by simpa using g8, fun _ => by simpa using g9, fun _ => by simpa using g10, fun h => by have := hF.out.q (by simpa using h); simpa using this, fun h => by simp at h, fun _ => ⟨_, hsm, rfl⟩⟩
            · intro d a W hI hall
              obtain ⟨x38, x39, x40, x41, x42, x43, x44, x45, x46, x47, x48, rfl, hF⟩ := hI
              simp only [List.length_cons, List.length_nil] at hall
              obtain rfl := hF.out.f0 (hall 0 (by omega))
              obtain rfl := hF.out.f1 (hall 1 (by omega))
              obtain rfl := hF.out.f2 (hall 2 (by omega))
              obtain rfl := hF.out.f3 (hall 3 (by omega))
              obtain rfl := hF.out.f4 (hall 4 (by omega))
              obtain rfl := hF.out.f5 (hall 5 (by omega))
              obtain rfl := hF.out.f6 (hall 6 (by omega))
              obtain rfl := hF.out.f7 (hall 7 (by omega))
              obtain rfl := hF.out.f8 (hall 8 (by omega))
              obtain rfl := hF.out.f9 (hall 9 (by omega))
              obtain rfl := hF.out.f10 (hall 10 (by omega))
              obtain ⟨W6, hsm6, rfl⟩ := hF.out.fin (hall 11 (by omega))
              have HPW : Hid (Sm wr W6) := hsm6
              clear hF hall hsm6 c1 cx d3 f1
              simp only [Act.put, List.setIfInBounds_toArray, List.set_cons_zero, List.set_cons_succ]
              go_wp2_with fail
              go_roundw
              case rel =>
                refine ⟨j + 1, by omega, by go_num, _, HF.out.set HX0.out HT0.out ⟨HG.out.1, HG.out.2.1, HG.out.2.2.1⟩ HPW.out k j z hjt, fun x y hx hy => ?_, fun y hy => ?_⟩
                · rw [if_neg (by omega)]; exact HFE.out.1 x y hx hy
                · by_cases e : y = j
                  · subst e; rw [if_pos ⟨rfl, rfl⟩, HOJ.out, HZ.out]
                  · rw [if_neg (by omega)]; exact HFE.out.2 y (by omega)
              case measure => simp [intOf]; omega
          · go_wp2_with fail
            go_roundw
            case rel => exact ⟨k + 1, by omega, by go_num, F, HF.out, fun x y hx hy => by
              by_cases e : x = k
              · subst e; exact HFE.out.2 y (by omega)
              · exact HFE.out.1 x y (by omega) hy⟩
            case measure => simp [intOf]; omega
      · have e0 := HF.out.st.cell (i := 0) (by omega)
        have e1 := HF.out.st.cell (i := 1) (by omega)
        simp only [if_true] at e0
        rw [if_neg (by omega)] at e1
        have r0 := HF.out.rs.cell (i := 0) (by omega)
        have r1 := HF.out.rs.cell (i := 1) (by omega)
        have s0 := HF.out.rs.frozen 0
        have s1 := HF.out.rs.frozen 1
        have HKN : Hid (k = n) := by show _ = _; omega
        go_wp2_with fail
        have hrow := row_two_set HF.out.rs (.slice (some ⟨gr, 0, none⟩) n n) (.slice (some ⟨gt, 0, none⟩) n ct)
        have hsame := same_two wr (w.heap.size + 1) (.slice (some ⟨gr, 0, none⟩) n n) (.slice (some ⟨gt, 0, none⟩) n ct)
        have hc0 := hrow.cell (i := 0) (by omega)
        have hc1 := hrow.cell (i := 1) (by omega)
        simp only [if_true] at hc0
        rw [if_neg (by omega)] at hc1
        have hR := HF.out.rows.of_block (hsame.2.2.2.2 gr (by have := HG.out.1; omega))
        have hT : ∀ i, i < n → _ := fun i hi => (cell_same (hsame.2.2.2.2 gt (by have := HG.out.2.2.2.2; omega)) i).trans (HF.out.tags i hi)
        have hB := (HF.out.px.set HX0.out HT0.out (b := w.heap.size + 1) hsame (by omega) (by omega)).below
        have hlt2 : gt < wr.heap.size := HF.out.lt
        refine bodyPost_ret (v := .tuple #[.agg #[.slice (some ⟨gr, 0, none⟩) n n, .slice (some ⟨gt, 0, none⟩) n ct], .int .i64 0]) (by simp [results, Try.results19, go_sem, hc0, hc1]) rfl ⟨_, _, rfl, ⟨_, _, rfl, by omega, fun i j => ?_, Or.inr ⟨gr, 0, rfl, hR.lt, fun i hi j hj => ?_⟩⟩, ⟨_, _, rfl, by omega, HWF.out, Or.inr ⟨gt, 0, rfl, by rw [hsame.1]; exact hlt2, fun i hi => ?_⟩⟩, hB, fun g hg => by simp [Value.ownBlock] at hg; have := HG.out.1; omega, fun g hg => by simp [Value.ownBlock] at hg; have := HG.out.2.2.2.2; omega⟩
        · have hn2 := HN.out.2
          dsimp only
          split
          · rename_i h; have := HCO.out i j h.1 h.2; omega
          · omega
        · have q1 : i * 256 + j < n * 256 := by omega
          have q2 := hR.cell q1
          rw [show (i * 256 + j) / 256 = i by omega, show (i * 256 + j) % 256 = j by omega, HFE.out i j (by have := HKN.out; omega) hj] at q2
          dsimp only
          rw [show 0 + i * 256 + j = i * 256 + j by omega, if_pos ⟨hi, hj⟩]
          exact q2
        · rw [Nat.zero_add]; exact hT i hi

theorem unpack_ok (O : Nat → Nat) (nv tv : Value) (n : Nat) (L : Nat → Nat) (X : Nat → Nat → Int) (T : Nat → Int) (w : World) (hO : ∀ j, O j < 256) (hx : Nx w nv n L X) (ht : Ts w tv n T) (hok : chkP n n O L X T = 0) :
    Calls Try.prog 19 #[.agg (pl O nv tv).toArray] w fun e w' => ∃ rv tv', e = .returned (.tuple #[.agg #[rv, tv'], .int .i64 0]) ∧ Rw w' rv n (fun i j => if i < n ∧ j < 256 then X i (O j) else 0) ∧ Ts w' tv' n T ∧ Below w.heap.size w w' :=
  (unpack_own O nv tv n L X T w hO hx ht hok).mono fun _ _ ⟨rv, tv', h1, h2, h3, h4, _⟩ => ⟨rv, tv', h1, h2, h3, h4⟩
end Go.Proofs.Ytlgcggfenljdnaa
