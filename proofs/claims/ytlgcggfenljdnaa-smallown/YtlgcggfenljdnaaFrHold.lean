/-
  The contracts of pushref.Rest and of slices.Clone at rows and at numbers, with what is made; rows and tags that are written. 
-/
import Derived.Test.YtlgcggfenljdnaaPkBack
namespace Go.Proofs.Ytlgcggfenljdnaa
open Go.RowKit
open Dfa

set_option maxHeartbeats 1600000 in
set_option maxRecDepth 20000 in
theorem rest_any (i : Int) (n : Nat) (w : World) (hn0 : 0 < n) (hn : n ≤ 200) :
    Calls Try.prog 15 #[.int .i64 i, .int .i64 (n : Int)] w fun e w' => (∃ r : Nat, r < n ∧ e = .returned (.int .i64 (r : Int))) ∧ w' = w := by
  have hz : ((n : Int) == 0) = false := by simp; omega
  have hlt : i.tmod (n : Int) < (n : Int) := Int.tmod_lt_of_pos i (by omega)
  have hgt : -(n : Int) < i.tmod (n : Int) := by
    have := Int.lt_tmod_of_pos i (b := (n : Int)) (by omega)
    exact this
  obtain ⟨q, HQ⟩ : ∃ q, Hid (i.tmod (n : Int) = q) := ⟨_, (rfl : _ = _)⟩
  have hq := HQ.out
  rw [hq] at hlt hgt
  have hn1 : (n : Int) ≠ 0 := by omega
  go_enter Try.func15, Try.ntmps15
  by_cases h : q < 0
  · go_wp2_with fail
    go_ret
    refine ⟨⟨(q + (n : Int)).toNat, by omega, ?_⟩, rfl⟩
    rw [show (((q + (n : Int)).toNat : Nat) : Int) = q + (n : Int) by omega]
    rfl
  · go_wp2_with fail
    go_ret
    refine ⟨⟨q.toNat, by omega, ?_⟩, rfl⟩
    rw [show ((q.toNat : Nat) : Int) = q by omega]
    rfl
set_option maxHeartbeats 1600000 in
set_option maxRecDepth 20000 in
theorem cloneR_own (tv : Value) (n : Nat) (R : Nat → Nat → Int) (w : World) (ht : Rw w tv n R) (h0 : 0 < n) (hn : n ≤ 200) :
    Calls Try.prog 25 #[tv] w fun e w' => ∃ g cap, e = .returned (.slice (some ⟨g, 0, none⟩) n cap) ∧ w'.ownsRow w.heap.size 42 256 (.slice (some ⟨g, 0, none⟩) n cap) n (rcl (fun j => j) R n) ∧ Below w.heap.size w w' := by
  obtain ⟨ao, cap, rfl, hm, hwf, hcs⟩ := ht
  obtain ⟨b, o, rfl, hb, hc⟩ := hcs.resolve_left (by omega)
  clear hcs hwf
  have HC : Hid (∀ j u, (rcl (fun j => j) R n)[j]? = some u → w.cell? ⟨b, o + j, none⟩ = some u) := fun j u hu => by
    have hj : j < n * 256 := by have := (List.getElem?_eq_some_iff.1 hu).1; rwa [rcl_length] at this
    rw [rcl_at _ _ n j hj] at hu
    have := hc (j / 256) (by omega) (j % 256) (by omega)
    rw [show o + j / 256 * 256 + j % 256 = o + j by omega] at this
    rw [this, hu]
  have HL : Hid ((rcl (fun j => j) R n).length = n * 256 ∧ ∀ u ∈ rcl (fun j => j) R n, u.oneCell' = true) := by
    refine ⟨rcl_length _ _ _, fun u hu => ?_⟩
    simp only [rcl, List.mem_map] at hu
    obtain ⟨j, _, rfl⟩ := hu
    rfl
  obtain ⟨xs, HX⟩ : ∃ xs, Hid (rcl (fun j => j) R n = xs) := ⟨_, (rfl : rcl (fun j => j) R n = rcl (fun j => j) R n)⟩
  rw [HX.out] at HC HL
  clear hc
  obtain ⟨i3, hi3, hz3, hs3, hb3⟩ := info_parts zero42'
  have H3 : Hid (Try.prog.info? 42 = some i3 ∧ i3.zero = some (.agg (Array.replicate 256 (.int .i16 0))) ∧ i3.size = 256 ∧ i3.bytes = 512) := ⟨hi3, hz3, hs3, hb3⟩
  clear hi3 hz3 hs3 hb3
  have q22 : ∀ (w : World) (a : Option Addr) (n c n' c' : Nat), (binOp .eql 22 (.slice a n c) (.slice none n' c')).run Try.prog w = .ok (.bool a.isNone) w := fun w a n c n' c' => Go.Lib.run_eql_slice_nil w _ _ a n c n' c' Try.underlying22
  go_enter Try.func25, Try.ntmps25
  go_wp2_with (at_builtin; refine wpList_append_own _ rfl _ _ 22 rfl w.heap.size 42 i3 (.agg (Array.replicate 256 (.int .i16 0))) 256 512 Try.underlying22 H3.out.1 H3.out.2.1 H3.out.2.2.1 H3.out.2.2.2 (by simp [Value.cells]) (by omega) _ _ _ rfl (World.ownsRow_made w #[] 0 (Nat.le_refl _) (Nat.zero_le _) (by simp)) ⟨b, o, none⟩ n cap xs rfl ?qc1 ?qc2 ?qc3 ?qc4 ?qc5 ?qc6 ?_)
  case qc1 => exact HL.out.1
  case qc2 =>
    intro j u hj
    rw [Addr.add_lit]
    exact Go.Lib.cell?_alloc_some _ (HC.out j u hj)
  case qc3 => exact HL.out.2
  case qc4 => rw [Nat.zero_add]; simp [maxLen]; omega
  case qc5 => omega
  case qc6 => simp
  intro v' w1 hown hgrow hnil
  obtain ⟨g, cp, rfl, -⟩ := World.ownsRow.form hown (by omega)
  have HB : Hid (Below w.heap.size w w1) := ((Below.refl _ w).alloc (Nat.le_refl _) _).grown hgrow (by simp) (by intro k hk; simp [Value.ownBlock] at hk; omega)
  have HG : Hid (w1.ownsRow w.heap.size 42 256 (.slice (some ⟨g, 0, none⟩) n cp) n (rcl (fun j => j) R n)) := by
    show World.ownsRow _ _ _ _ _ _ _
    rw [HX.out]
    exact hown
  clear hown hgrow hnil
  go_wp2_with fail
  go_ret
  exact ⟨g, cp, rfl, HG.out, HB.out⟩

theorem rowIs_setCells2 {t n g : Nat} : ∀ (vs : List Value) (o : Nat) {w : World} (f : Nat → Value), w.rowIs g t n f → o + vs.length ≤ n →
    ∃ f', (w.setCells g o vs).rowIs g t n f' ∧ (∀ i, i < o ∨ o + vs.length ≤ i → f' i = f i) ∧ ∀ j v, vs[j]? = some v → f' (o + j) = v
  | [], o, w, f, h, _ => ⟨f, h, fun _ _ => rfl, fun j v hv => by simp at hv⟩
  | v :: vs, o, w, f, h, hl => by
    obtain ⟨f', h1, h2, h3⟩ := rowIs_setCells2 vs (o + 1) _ (h.set o v) (by simp at hl; omega)
    refine ⟨f', h1, fun i hi => by rw [h2 i (by simp at hi; omega)]; simp; simp at hi; omega, fun j u hj => ?_⟩
    match j, hj with
    | 0, hj =>
      simp at hj
      rw [Nat.add_zero, h2 o (by omega), ← hj]; simp
    | j + 1, hj =>
      rw [show o + (j + 1) = o + 1 + j by omega]
      exact h3 j u (by simpa using hj)
/-- Rows of one's own in a block. -/
def RB (g N : Nat) (F : Nat → Nat → Int) (W : World) : Prop := ∃ M f, W.rowIs g 42 M f ∧ N * 256 ≤ M ∧ ∀ i j, i < N → j < 256 → f (i * 256 + j) = .int .i16 (F i j)
def TB (g N : Nat) (U : Nat → Int) (W : World) : Prop := ∃ M f, W.rowIs g 3 M f ∧ N ≤ M ∧ ∀ i, i < N → f i = .int .i64 (U i)
theorem RB.of_own {g N cap base : Nat} {F : Nat → Nat → Int} {W : World} (h : W.ownsRow base 42 256 (.slice (some ⟨g, 0, none⟩) N cap) N (rcl (fun j => j) F N)) : RB g N F W := by
  obtain ⟨hl, ⟨hv, -⟩ | ⟨g', cap', cur, hv, -, hb, h1, h2, h3, h4⟩⟩ := h
  · simp at hv
  · simp at hv
    obtain ⟨rfl, rfl⟩ := hv
    refine ⟨cap * 256, fun q => cur.getD q undef, ⟨cur, hb, h3, fun i hi => by show _ = some (cur.getD i undef); rw [Array.getElem?_eq_getElem (by omega)]; simp [Array.getD, show i < cur.size by omega]⟩, by omega, fun i j hi hj => ?_⟩
    have h5 : cur.toList[i * 256 + j]? = some (.int .i16 (F i j)) := by
      have := rcl_at (fun j => j) F N (i * 256 + j) (by omega)
      rw [← h4, List.getElem?_take_of_lt (by omega)] at this
      rw [this, show (i * 256 + j) / 256 = i by omega, show (i * 256 + j) % 256 = j by omega]
    rw [Array.getElem?_toList] at h5
    simp [Array.getD_eq_getD_getElem?, h5]
theorem TB.of_own {g N cap base : Nat} {U : Nat → Int} {W : World} (h : W.ownsRow base 3 1 (.slice (some ⟨g, 0, none⟩) N cap) N (tl N U)) : TB g N U W := by
  obtain ⟨hl, ⟨hv, -⟩ | ⟨g', cap', cur, hv, -, hb, h1, h2, h3, h4⟩⟩ := h
  · simp at hv
  · simp at hv
    obtain ⟨rfl, rfl⟩ := hv
    refine ⟨cap * 1, fun q => cur.getD q undef, ⟨cur, hb, h3, fun i hi => by show _ = some (cur.getD i undef); rw [Array.getElem?_eq_getElem (by omega)]; simp [Array.getD, show i < cur.size by omega]⟩, by omega, fun i hi => ?_⟩
    have h5 : cur.toList[i]? = some (.int .i64 (U i)) := by
      have := tl_at N U i hi
      rw [← h4, List.getElem?_take_of_lt (by omega)] at this
      exact this
    rw [Array.getElem?_toList] at h5
    simp [Array.getD_eq_getD_getElem?, h5]
variable {g N : Nat} {F : Nat → Nat → Int} {U : Nat → Int} {W W' : World}
theorem RB.of_block (h : RB g N F W) (e : W'.heap[g]? = W.heap[g]?) : RB g N F W' := by
  obtain ⟨M, f, h1, h2, h3⟩ := h
  exact ⟨M, f, h1.of_block e, h2, h3⟩
theorem TB.of_block (h : TB g N U W) (e : W'.heap[g]? = W.heap[g]?) : TB g N U W' := by
  obtain ⟨M, f, h1, h2, h3⟩ := h
  exact ⟨M, f, h1.of_block e, h2, h3⟩
theorem RB.lt (h : RB g N F W) : g < W.heap.size := by obtain ⟨M, f, h1, -⟩ := h; exact h1.lt
theorem TB.lt (h : TB g N U W) : g < W.heap.size := by obtain ⟨M, f, h1, -⟩ := h; exact h1.lt
theorem RB.cell (h : RB g N F W) {i j : Nat} (hi : i < N) (hj : j < 256) : W.cell? ⟨g, i * 256 + j, none⟩ = some (.int .i16 (F i j)) := by
  obtain ⟨M, f, h1, h2, h3⟩ := h
  rw [h1.cell (by omega), h3 i j hi hj]
theorem TB.cell (h : TB g N U W) {i : Nat} (hi : i < N) : W.cell? ⟨g, i, none⟩ = some (.int .i64 (U i)) := by
  obtain ⟨M, f, h1, h2, h3⟩ := h
  rw [h1.cell (by omega), h3 i hi]
theorem RB.frozen (h : RB g N F W) (q : Nat) : W.frozen? ⟨g, q, none⟩ = false := by obtain ⟨M, f, h1, -⟩ := h; exact h1.frozen q
theorem TB.frozen (h : TB g N U W) (q : Nat) : W.frozen? ⟨g, q, none⟩ = false := by obtain ⟨M, f, h1, -⟩ := h; exact h1.frozen q
theorem RB.range (h : RB g N F W) {i : Nat} (hi : i < N) : W.rangeAt g (i * 256) (rl (F i)) := range_of_cells fun _ hj => h.cell hi hj
theorem RB.there (h : RB g N F W) {i : Nat} (hi : i < N) : W.there g (i * 256) 256 := fun j hj => ⟨by rw [h.cell hi hj]; rfl, h.frozen _⟩
theorem RB.set (h : RB g N F W) {i j : Nat} (hi : i < N) (hj : j < 256) (z : Int) : RB g N (fun r b => if r = i ∧ b = j then z else F r b) (W.setCell ⟨g, i * 256 + j, none⟩ (.int .i16 z)) := by
  obtain ⟨M, f, h1, h2, h3⟩ := h
  refine ⟨M, _, h1.set (i * 256 + j) (.int .i16 z), h2, fun r b hr hb => ?_⟩
  by_cases e : r = i ∧ b = j
  · obtain ⟨rfl, rfl⟩ := e; simp
  · have : ¬ r * 256 + b = i * 256 + j := by omega
    simp [e, this, h3 r b hr hb]
set_option maxRecDepth 20000 in
theorem RB.setRow (h : RB g N F W) {i : Nat} (hi : i < N) (v : Nat → Int) (vs : List Value) (hl : vs.length = 256) (hv : ∀ b, b < 256 → vs[b]? = some (.int .i16 (v b))) : RB g N (fun r b => if r = i then v b else F r b) (W.setCells g (i * 256) vs) := by
  obtain ⟨M, f, h1, h2, h3⟩ := h
  have hle : i * 256 + vs.length ≤ M := by rw [hl]; omega
  obtain ⟨o, ho⟩ : ∃ o, i * 256 = o := ⟨_, rfl⟩
  rw [ho] at hle ⊢
  obtain ⟨f', k1, k2, k3⟩ := rowIs_setCells2 vs o f h1 hle
  refine ⟨M, f', k1, h2, fun r b hr hb => ?_⟩
  by_cases e : r = i
  · subst e
    simp only [if_true]
    rw [ho]; exact k3 b _ (hv b hb)
  · simp only [e, if_false]
    rw [k2 _ (by rw [hl, ← ho]; omega), h3 r b hr hb]
theorem TB.set (h : TB g N U W) {i : Nat} (z : Int) : TB g N (fun r => if r = i then z else U r) (W.setCell ⟨g, i, none⟩ (.int .i64 z)) := by
  obtain ⟨M, f, h1, h2, h3⟩ := h
  refine ⟨M, _, h1.set i (.int .i64 z), h2, fun r hr => ?_⟩
  by_cases e : r = i
  · subst e; simp
  · simp [e, h3 r hr]
theorem RB.congr {F' : Nat → Nat → Int} (h : RB g N F W) (e : ∀ i j, i < N → j < 256 → F i j = F' i j) : RB g N F' W := by
  obtain ⟨M, f, h1, h2, h3⟩ := h
  exact ⟨M, f, h1, h2, fun i j hi hj => by rw [h3 i j hi hj, e i j hi hj]⟩
theorem TB.congr {U' : Nat → Int} (h : TB g N U W) (e : ∀ i, i < N → U i = U' i) : TB g N U' W := by
  obtain ⟨M, f, h1, h2, h3⟩ := h
  exact ⟨M, f, h1, h2, fun i hi => by rw [h3 i hi, e i hi]⟩
/-- What pushkeep.from holds. -/
structure Fm (w : World) (gr cr gt ct gd N : Nat) (F : Nat → Nat → Int) (U : Nat → Int) (W : World) : Prop where
  below : Below w.heap.size w W
  rs : W.rowIs (w.heap.size + 1) 25 2 (fun _ => .slice none 0 0)
  db : W.rowIs gd 25 2 (fun i => if i = 0 then .slice (some ⟨gr, 0, none⟩) N cr else .slice (some ⟨gt, 0, none⟩) N ct)
  rb : RB gr N F W
  tb : TB gt N U W
  ne : gr ≠ gt ∧ gr ≠ gd ∧ gt ≠ gd ∧ w.heap.size + 2 ≤ gr ∧ w.heap.size + 2 ≤ gt ∧ w.heap.size + 2 ≤ gd
variable {w : World} {gr cr gt ct gd : Nat}
theorem Fm.same (h : Fm w gr cr gt ct gd N F U W) (hs : Sm W W') : Fm w gr cr gt ct gd N F U W' := by
  have e : ∀ k : Nat, W'.heap[k]? = W.heap[k]? := fun k => by rw [hs.heap]
  exact ⟨h.below.trans (hs.below _), h.rs.of_block (e _), h.db.of_block (e _), h.rb.of_block (e _), h.tb.of_block (e _), h.ne⟩
theorem Fm.rset {F' : Nat → Nat → Int} (h : Fm w gr cr gt ct gd N F U W) (hB : Below w.heap.size w W') (e : ∀ k, k ≠ gr → W'.heap[k]? = W.heap[k]?) (hr : RB gr N F' W') : Fm w gr cr gt ct gd N F' U W' :=
  ⟨hB, h.rs.of_block (e _ (by have := h.ne; omega)), h.db.of_block (e _ (fun x => h.ne.2.1 x.symm)), hr, h.tb.of_block (e _ (fun x => h.ne.1 x.symm)), h.ne⟩
theorem Fm.tset {U' : Nat → Int} (h : Fm w gr cr gt ct gd N F U W) (hB : Below w.heap.size w W') (e : ∀ k, k ≠ gt → W'.heap[k]? = W.heap[k]?) (hr : TB gt N U' W') : Fm w gr cr gt ct gd N F U' W' :=
  ⟨hB, h.rs.of_block (e _ (by have := h.ne; omega)), h.db.of_block (e _ (fun x => h.ne.2.2.1 x.symm)), h.rb.of_block (e _ h.ne.1), hr, h.ne⟩
end Go.Proofs.Ytlgcggfenljdnaa
