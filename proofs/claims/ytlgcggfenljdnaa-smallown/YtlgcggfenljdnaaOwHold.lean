/-
  What SmallOwn holds in memory: an automaton with room behind its lists; what is spoiled and what stays. No function is walked here.
-/
import Derived.Test.YtlgcggfenljdnaaOwFilled
import Derived.SizedLaws
namespace Go.Proofs.Ytlgcggfenljdnaa
open Go.ChangeShapes Go.WideShapes Go.ChangeAt Go.RowKit
open Dfa
set_option maxRecDepth 20000

/-! ### The opening, with the sizes -/
theorem bytes42 : Try.prog.bytesOf 42 = 512 := by kernel_rfl
theorem bytes3 : Try.prog.bytesOf 3 = 8 := by kernel_rfl
variable {H : Type} {enc : TypeId × Value → H}
theorem weights_dfa {d0 d1 : DataW H} {n : Nat} (h : n ∈ d0.weights Try.prog 22 ∨ n ∈ d1.weights Try.prog 23) : n ∈ (DataW.agg [d0, d1]).weights Try.prog 25 := by
  rw [DataW.weights, Try.underlying25]
  simp only [List.map_cons, List.map_nil, DataW.weightsEach, List.append_nil, List.mem_append]
  exact h
theorem len_of {t e : TypeId} {W : World} {fuel : Nat} {a : Option Addr} {n cap : Nat} {y : DataW H × List MemPlace} (ht : Try.prog.underlying t = some (.slice e)) (h : DataW.trod enc Try.prog W 0 (fun _ => true) true fuel t [.slice a n cap] = some y) :
    ((.slice a n cap : Value) = .slice none 0 0 ∨ ∃ ad n' c, (.slice a n cap : Value) = .slice (some ad) n' c) ∧ (n = 0 ∨ ∃ q, n ≤ q ∧ q * Try.prog.bytesOf e ∈ y.1.weights Try.prog t) := by
  rcases Go.Deep.open_slice ht h with ⟨hcs, hx⟩ | ⟨a', len', cap', m, k, D, Pl, hcs, hb, hl, hm, hmm, hx, hel⟩
  · simp at hcs
    obtain ⟨rfl, rfl, rfl⟩ := hcs
    exact ⟨Or.inl rfl, Or.inl rfl⟩
  · simp at hcs
    obtain ⟨rfl, rfl, rfl⟩ := hcs
    refine ⟨Or.inr ⟨_, _, _, rfl⟩, Or.inr ⟨n + (m - n), by omega, ?_⟩⟩
    rw [hx]
    simp [DataW.weights, ht]
theorem open_dfa_own {W : World} {r : Reach} {b0 : Nat} {v : Value} {d : DataW H} {p : List MemPlace} (hv : Value.okWide Try.prog W r b0 25 v) (h : DataW.Trod enc Try.prog W 0 (fun _ => true) true 25 v d p) :
    ∃ rv tv n m R T, v = .agg #[rv, tv] ∧ Rw W rv n R ∧ Ts W tv m T ∧ (rv = .slice none 0 0 ∨ ∃ ad n c, rv = .slice (some ad) n c) ∧ (tv = .slice none 0 0 ∨ ∃ ad n c, tv = .slice (some ad) n c) ∧ (n = 0 ∨ ∃ q, n ≤ q ∧ q * 512 ∈ d.weights Try.prog 25) ∧ (m = 0 ∨ ∃ q, m ≤ q ∧ q * 8 ∈ d.weights Try.prog 25) := by
  obtain ⟨c0, c1, y0, y1, k, rfl, rfl, rfl, h0, h1⟩ := Go.Joins.open_agg2 Try.underlying25 (by kernel_rfl) cells25 hv h
  obtain ⟨a, n, cap, rfl⟩ : ∃ a n cap, c0 = .slice a n cap := by
    rcases Go.Deep.open_slice Try.underlying22 h0 with ⟨hcs, hx⟩ | ⟨a', len', cap', m, k, D, Pl, hcs, _⟩
    · simp at hcs; exact ⟨_, _, _, hcs⟩
    · simp at hcs; exact ⟨_, _, _, hcs⟩
  obtain ⟨a1, n1, cap1, rfl⟩ : ∃ a n cap, c1 = .slice a n cap := by
    rcases Go.Deep.open_slice Try.underlying23 h1 with ⟨hcs, hx⟩ | ⟨a', len', cap', m, k, D, Pl, hcs, _⟩
    · simp at hcs; exact ⟨_, _, _, hcs⟩
    · simp at hcs; exact ⟨_, _, _, hcs⟩
  obtain ⟨R, hR⟩ := open_rows a n cap rfl h0
  obtain ⟨T, hT⟩ := open_tags a1 n1 cap1 rfl h1
  have l0 := len_of Try.underlying22 h0
  have l1 := len_of Try.underlying23 h1
  rw [bytes42] at l0
  rw [bytes3] at l1
  exact ⟨_, _, n, n1, R, T, rfl, hR, hT, l0.1, l1.1, l0.2.imp id fun ⟨q, q1, q2⟩ => ⟨q, q1, weights_dfa (Or.inl q2)⟩, l1.2.imp id fun ⟨q, q1, q2⟩ => ⟨q, q1, weights_dfa (Or.inr q2)⟩⟩
theorem sized_each {P : Program} {ts : List TypeId} {ds : List (DataW H)} (h : (DataW.weightsEach P ts ds).all (· ≤ reachBytes) = true) {j : Nat} {t : TypeId} {d : DataW H} (ht : ts[j]? = some t) (hd : ds[j]? = some d) {n : Nat} (hn : n ∈ d.weights P t) : n ≤ reachBytes := by
  have := List.all_eq_true.1 h _ (DataW.weights_mem_each ht hd n hn)
  simpa using this

/-! ### Lists with room behind them -/
theorem own_cell {w : World} {base e size g n cap : Nat} {xs : List Value} (h : w.ownsRow base e size (.slice (some ⟨g, 0, none⟩) n cap) n xs) : ∀ i u, xs[i]? = some u → w.cell? ⟨g, i, none⟩ = some u := by
  obtain ⟨hl, ⟨h1, h2⟩ | ⟨g', cap', cur, hv, hg, hh, hn, hc, hs, ht⟩⟩ := h
  · cases h1
  · simp at hv
    obtain ⟨rfl, rfl⟩ := hv
    intro i u hu
    have e : w.cell? ⟨g, i, none⟩ = cur[i]? := by simp [World.cell?, hh]
    rw [e]
    have hi : i < xs.length := (List.getElem?_eq_some_iff.1 hu).1
    have h2 : (cur.toList.take (n * size))[i]? = xs[i]? := by rw [ht]
    rw [List.getElem?_take_of_lt (by omega), hu] at h2
    simpa using h2
theorem own_row {w : World} {base e size g n cap : Nat} {xs : List Value} (h : w.ownsRow base e size (.slice (some ⟨g, 0, none⟩) n cap) n xs) : (∃ f, w.rowIs g e (cap * size) f) ∧ n ≤ cap ∧ cap ≤ 9223372036854775807 := by
  obtain ⟨hl, ⟨h1, h2⟩ | ⟨g', cap', cur, hv, hg, hh, hn, hc, hs, ht⟩⟩ := h
  · cases h1
  · simp at hv
    obtain ⟨rfl, rfl⟩ := hv
    exact ⟨⟨fun q => cur.getD q undef, cur, hh, hs, fun i hi => by show _ = some (cur.getD i undef); rw [Array.getElem?_eq_getElem (by omega)]; simp [Array.getD, show i < cur.size by omega]⟩, hn, by unfold maxLen at hc; omega⟩
theorem rw_front {W : World} {base g n cap : Nat} {R : Nat → Nat → Int} {ys : List Value} (h : W.ownsRow base 42 256 (.slice (some ⟨g, 0, none⟩) (n + 2) cap) (n + 2) (rcl (fun j => j) R n ++ ys)) (hm : n ≤ 9223372036854775807) (hR : ∀ i j, -32768 ≤ R i j ∧ R i j ≤ 32767) : Rw W (.slice (some ⟨g, 0, none⟩) n cap) n R := by
  refine ⟨_, _, rfl, hm, hR, Or.inr ⟨g, 0, rfl, (h.lt g rfl).2, fun i hi j hj => ?_⟩⟩
  have hq : i * 256 + j < n * 256 := by omega
  have := own_cell h (i * 256 + j) (.int .i16 (R i j)) (by
    rw [List.getElem?_append_left (by rw [rcl_length]; exact hq), rcl_at _ _ _ _ hq, show (i * 256 + j) / 256 = i by omega, show (i * 256 + j) % 256 = j by omega])
  rw [show 0 + i * 256 + j = i * 256 + j by omega]
  exact this
theorem ts_front {W : World} {base g n cap : Nat} {T : Nat → Int} {ys : List Value} (h : W.ownsRow base 3 1 (.slice (some ⟨g, 0, none⟩) (n + 2) cap) (n + 2) (tl n T ++ ys)) (hm : n ≤ 9223372036854775807) (hT : ∀ i, -9223372036854775808 ≤ T i ∧ T i ≤ 9223372036854775807) : Ts W (.slice (some ⟨g, 0, none⟩) n cap) n T := by
  refine ⟨_, _, rfl, hm, hT, Or.inr ⟨g, 0, rfl, (h.lt g rfl).2, fun i hi => ?_⟩⟩
  have := own_cell h i (.int .i64 (T i)) (by rw [List.getElem?_append_left (by simpa [tl] using hi), tl_at n T i hi])
  rw [Nat.zero_add]
  exact this
theorem Rw.keep {W W' : World} {v : Value} {n : Nat} {R : Nat → Nat → Int} (h : Rw W v n R) (hs : W.heap.size ≤ W'.heap.size) (e : ∀ b, v.ownBlock = some b → b < W.heap.size → W'.heap[b]? = W.heap[b]?) : Rw W' v n R := by
  obtain ⟨ao, cap, rfl, hm, hw, h | ⟨b, o, rfl, h2, h3⟩⟩ := h
  · exact ⟨_, _, rfl, hm, hw, Or.inl h⟩
  · exact ⟨_, _, rfl, hm, hw, Or.inr ⟨b, o, rfl, Nat.lt_of_lt_of_le h2 hs, fun i hi j hj => (cell_as (e b rfl h2) _).trans (h3 i hi j hj)⟩⟩
theorem Ts.keep {W W' : World} {v : Value} {n : Nat} {T : Nat → Int} (h : Ts W v n T) (hs : W.heap.size ≤ W'.heap.size) (e : ∀ b, v.ownBlock = some b → b < W.heap.size → W'.heap[b]? = W.heap[b]?) : Ts W' v n T := by
  obtain ⟨ao, cap, rfl, hm, hw, h | ⟨b, o, rfl, h2, h3⟩⟩ := h
  · exact ⟨_, _, rfl, hm, hw, Or.inl h⟩
  · exact ⟨_, _, rfl, hm, hw, Or.inr ⟨b, o, rfl, Nat.lt_of_lt_of_le h2 hs, fun i hi => (cell_as (e b rfl h2) _).trans (h3 i hi)⟩⟩
theorem Rw.at {W : World} {v : Value} {n : Nat} {R : Nat → Nat → Int} (h : Rw W v n R) (h0 : 0 < n) : ∀ b, v.ownBlock = some b → b < W.heap.size := by
  obtain ⟨ao, cap, rfl, hm, hw, h | ⟨b, o, rfl, h2, h3⟩⟩ := h
  · omega
  · intro q hq; simp [Value.ownBlock] at hq; omega
theorem Ts.at {W : World} {v : Value} {n : Nat} {T : Nat → Int} (h : Ts W v n T) (h0 : 0 < n) : ∀ b, v.ownBlock = some b → b < W.heap.size := by
  obtain ⟨ao, cap, rfl, hm, hw, h | ⟨b, o, rfl, h2, h3⟩⟩ := h
  · omega
  · intro q hq; simp [Value.ownBlock] at hq; omega
/-- An automaton with room behind its lists: 'in'. -/
structure OA (w : World) (n m : Nat) (R : Nat → Nat → Int) (T : Nat → Int) (rv tv : Value) (l3 : List Value) (g1 g2 gi : Nat) (W : World) : Prop where
  below : Below w.heap.size w W
  bd : Bb w.heap.size rv tv W
  bi : Bb gi (.slice (some ⟨g1, 0, none⟩) n (n + 3)) (.slice (some ⟨g2, 0, none⟩) m (m + 3)) W
  o1 : W.ownsRow (w.heap.size + 1) 42 256 (.slice (some ⟨g1, 0, none⟩) (n + 2) (n + 3)) (n + 2) (rcl (fun j => j) R n ++ (l3 ++ l3))
  o2 : W.ownsRow (w.heap.size + 1) 3 1 (.slice (some ⟨g2, 0, none⟩) (m + 2) (m + 3)) (m + 2) (tl m T ++ [.int .i64 5, .int .i64 5])
  ne : g1 ≠ g2 ∧ g1 ≠ gi ∧ g2 ≠ gi ∧ w.heap.size < gi
theorem OA.next {w : World} {n m : Nat} {R : Nat → Nat → Int} {T : Nat → Int} {rv tv : Value} {l3 : List Value} {g1 g2 gi : Nat} {W W' : World} (h : OA w n m R T rv tv l3 g1 g2 gi W) (hb : Below W.heap.size W W') : OA w n m R T rv tv l3 g1 g2 gi W' :=
  ⟨h.below.trans (hb.mono h.below.size), h.bd.next hb, h.bi.next hb, own_same h.o1 fun k hk => hb.block k (h.o1.lt k hk).2, own_same h.o2 fun k hk => hb.block k (h.o2.lt k hk).2, h.ne⟩
/-- What is spoiled: in's lists, and what lies between two heights (what was packed), but the table itself. -/
structure Sx (W9 : World) (g1 g2 s2 s3 gN n c gt ct : Nat) (V : Nat → Value) (W : World) : Prop where
  os : W.os = W9.os
  tape : W.tape = W9.tape
  output : W.output = W9.output
  size : W9.heap.size ≤ W.heap.size
  blk : ∀ k, k < W9.heap.size → k ≠ g1 → k ≠ g2 → (k < s2 ∨ s3 ≤ k ∨ k = gN) → W.heap[k]? = W9.heap[k]?
  pv : ∀ i, i < n → ∃ g cap f, V i = .slice (some ⟨g, 0, none⟩) c cap ∧ c ≤ cap ∧ cap ≤ 9223372036854775807 ∧ gN < g ∧ s2 ≤ g ∧ g < s3 ∧ W.rowIs g 3 cap f
  tg : ∃ f, W.rowIs gt 3 ct f
  o1 : ∃ f, W.rowIs g1 42 ((n + 3) * 256) f
  o2 : ∃ f, W.rowIs g2 3 (n + 3) f
theorem row_size {W : World} {g t n m : Nat} {f f' : Nat → Value} (h : W.rowIs g t n f) (h' : W.rowIs g t m f') : n = m := by
  obtain ⟨c, h1, h2, -⟩ := h
  obtain ⟨c', h3, h4, -⟩ := h'
  rw [h1] at h3
  cases h3
  omega
section
variable {W9 W W' : World} {g1 g2 s2 s3 gN n c gt ct g : Nat} {V : Nat → Value}
/-- One block is spoiled. -/
theorem Sx.spoil {M t : Nat} {f f' : Nat → Value} (h : Sx W9 g1 g2 s2 s3 gN n c gt ct V W) (hg : W.grownBy W' (some g)) (h0 : W.rowIs g t M f) (h1 : W'.rowIs g t M f') (hne : g = g1 ∨ g = g2 ∨ (s2 ≤ g ∧ g < s3 ∧ g ≠ gN)) : Sx W9 g1 g2 s2 s3 gN n c gt ct V W' := by
  have mv : ∀ {b tt q : Nat}, (∃ F, W.rowIs b tt q F) → ∃ F, W'.rowIs b tt q F := fun {b tt q} ⟨F, hF⟩ => by
    by_cases e : b = g
    · subst e
      obtain ⟨c1, k1, k2, k3⟩ := hF
      obtain ⟨c2, k4, k5, k6⟩ := h0
      rw [k1] at k4
      cases k4
      exact ⟨f', by rw [← k2, k5]; exact h1⟩
    · exact ⟨F, hF.of_block (hg.block _ hF.lt (by simp; exact e))⟩
  refine ⟨hg.os.trans h.os, hg.tape.trans h.tape, hg.output.trans h.output, Nat.le_trans h.size hg.size, fun k hk a1 a2 a3 => (hg.block k (Nat.lt_of_lt_of_le hk h.size) (by simp; omega)).trans (h.blk k hk a1 a2 a3), fun i hi => ?_, mv h.tg, mv h.o1, mv h.o2⟩
  obtain ⟨g', cap, f2, k1, k2, k3, k4, k5, k6, k7⟩ := h.pv i hi
  obtain ⟨f3, k8⟩ := mv ⟨f2, k7⟩
  exact ⟨g', cap, f3, k1, k2, k3, k4, k5, k6, k8⟩
theorem Sx.box {g : Nat} {u v : Value} (h : Sx W9 g1 g2 s2 s3 gN n c gt ct V W) (hb : Bb g u v W9) (h1 : g ≠ g1) (h2 : g ≠ g2) (h3 : g < s2 ∨ s3 ≤ g) : Bb g u v W := by
  have e := h.blk g hb.lt h1 h2 (h3.imp id Or.inl)
  exact ⟨(cell_as e 0).trans hb.c0, (cell_as e 1).trans hb.c1, Nat.lt_of_lt_of_le hb.lt h.size⟩
theorem Sx.below {w : World} (h : Sx W9 g1 g2 s2 s3 gN n c gt ct V W) (hb : Below w.heap.size w W9) (h1 : w.heap.size ≤ g1) (h2 : w.heap.size ≤ g2) (h3 : w.heap.size ≤ s2) : Below w.heap.size w W :=
  ⟨h.os.trans hb.os, h.tape.trans hb.tape, h.output.trans hb.output, Nat.le_trans hb.size h.size, fun k hk => (h.blk k (Nat.lt_of_lt_of_le hk hb.size) (by omega) (by omega) (Or.inl (by omega))).trans (hb.block k hk)⟩
end
theorem rw_own {W : World} {base g n cap : Nat} {R : Nat → Nat → Int} (h : W.ownsRow base 42 256 (.slice (some ⟨g, 0, none⟩) n cap) n (rcl (fun j => j) R n)) (hm : n ≤ 9223372036854775807) (hR : ∀ i j, -32768 ≤ R i j ∧ R i j ≤ 32767) : Rw W (.slice (some ⟨g, 0, none⟩) n cap) n R := by
  refine ⟨_, _, rfl, hm, hR, Or.inr ⟨g, 0, rfl, (h.lt g rfl).2, fun i hi j hj => ?_⟩⟩
  have hq : i * 256 + j < n * 256 := by omega
  have := own_cell h (i * 256 + j) (.int .i16 (R i j)) (by rw [rcl_at _ _ _ _ hq, show (i * 256 + j) / 256 = i by omega, show (i * 256 + j) % 256 = j by omega])
  rw [show 0 + i * 256 + j = i * 256 + j by omega]
  exact this
theorem ts_own {W : World} {base g n cap : Nat} {T : Nat → Int} (h : W.ownsRow base 3 1 (.slice (some ⟨g, 0, none⟩) n cap) n (tl n T)) (hm : n ≤ 9223372036854775807) (hT : ∀ i, -9223372036854775808 ≤ T i ∧ T i ≤ 9223372036854775807) : Ts W (.slice (some ⟨g, 0, none⟩) n cap) n T := by
  refine ⟨_, _, rfl, hm, hT, Or.inr ⟨g, 0, rfl, (h.lt g rfl).2, fun i hi => ?_⟩⟩
  rw [Nat.zero_add]
  exact own_cell h i (.int .i64 (T i)) (tl_at n T i hi)
/-- What else is held: the smallest one 'm', what is packed 'p'. -/
structure OB (n N c : Nat) (F : Nat → Nat → Int) (U : Nat → Int) (X : Nat → Nat → Int) (T2 : Nat → Int) (gM gN gt ct gP B : Nat) (mr mt : Value) (V : Nat → Value) (l : List Value) (W : World) : Prop where
  bm : Bb gM mr mt W
  rm : Rw W mr N F
  tm : Ts W mt N U
  pg : Rg gP l W
  tn : Tn B gN n (fun _ => c) X V W
  tg : Tg gt ct n T2 W
theorem OB.next {n N c : Nat} {F : Nat → Nat → Int} {U : Nat → Int} {X : Nat → Nat → Int} {T2 : Nat → Int} {gM gN gt ct gP B : Nat} {mr mt : Value} {V : Nat → Value} {l : List Value} {W W' : World} (h : OB n N c F U X T2 gM gN gt ct gP B mr mt V l W) (hb : Below W.heap.size W W') : OB n N c F U X T2 gM gN gt ct gP B mr mt V l W' :=
  ⟨h.bm.next hb, h.rm.below hb (Nat.le_refl _), h.tm.below hb (Nat.le_refl _), h.pg.next hb, h.tn.next hb, h.tg.same (hb.block _ (by obtain ⟨f, hf⟩ := h.tg.2.1; exact hf.lt))⟩
/-- .. and what is unpacked 'u'. -/
structure OU (n : Nat) (RX : Nat → Nat → Int) (T : Nat → Int) (gU : Nat) (ur ut : Value) (W : World) : Prop where
  bu : Bb gU ur ut W
  ru : Rw W ur n RX
  tu : Ts W ut n T
theorem OU.next {n : Nat} {RX : Nat → Nat → Int} {T : Nat → Int} {gU : Nat} {ur ut : Value} {W W' : World} (h : OU n RX T gU ur ut W) (hb : Below W.heap.size W W') : OU n RX T gU ur ut W' :=
  ⟨h.bu.next hb, h.ru.below hb (Nat.le_refl _), h.tu.below hb (Nat.le_refl _)⟩
theorem Sx.start {W9 : World} {n N c s2 s3 : Nat} {F : Nat → Nat → Int} {U : Nat → Int} {X : Nat → Nat → Int} {T2 : Nat → Int} {gM gN gt ct gP B : Nat} {mr mt : Value} {V : Nat → Value} {l : List Value} {w : World} {R : Nat → Nat → Int} {T : Nat → Int} {rv tv : Value} {l3 : List Value} {g1 g2 gi : Nat}
    (ha : OA w n n R T rv tv l3 g1 g2 gi W9) (h : OB n N c F U X T2 gM gN gt ct gP B mr mt V l W9) (hc : 0 < c) (h2 : s2 ≤ gN) (h3 : ∀ i q, i < n → (V i).ownBlock = some q → q < s3) : Sx W9 g1 g2 s2 s3 gN n c gt ct V W9 := by
  refine ⟨rfl, rfl, rfl, Nat.le_refl _, fun _ _ _ _ _ => rfl, fun i hi => ?_, h.tg.2.1, (own_row ha.o1).1, ?_⟩
  · have ho := h.tn.own i hi
    obtain ⟨g, cap, e, -⟩ := World.ownsRow.form ho hc
    have h4 := h3 i g hi (by rw [e]; rfl)
    rw [e] at ho
    obtain ⟨⟨f, k1⟩, k2, k3⟩ := own_row ho
    have h5 := (ho.lt g rfl).1
    have h6 := h.tn.lt
    exact ⟨g, cap, f, e, k2, k3, by omega, by omega, h4, by rw [Nat.mul_one] at k1; exact k1⟩
  · obtain ⟨f, k⟩ := (own_row ha.o2).1
    rw [Nat.mul_one] at k
    exact ⟨f, k⟩
end Go.Proofs.Ytlgcggfenljdnaa
