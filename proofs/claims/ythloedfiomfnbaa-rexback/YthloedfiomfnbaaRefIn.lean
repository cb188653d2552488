/-
  The contract of the document's own answer pushref.RexText: how a right tree is written.
-/
import Derived.Test.YthloedfiomfnbaaKids
import Derived.Test.YthloedfiomfnbaaRefRuns
namespace Go.Proofs.Ythloedfiomfnbaa
open Go.RowKit
open Cls Rex Txt

set_option maxHeartbeats 2000000 in
set_option maxRecDepth 20000 in
theorem clos23 (x : Nat) (hx : x < 256) (k : Int) (c : Cl) (sv : Value) (g : Nat) (W : World) (hb : W.heap[g]? = some (.cells #[.int .i64 k, .int .u64 (c.1.toNat : Int), .int .u64 (c.2.1.toNat : Int), .int .u64 (c.2.2.1.toNat : Int), .int .u64 (c.2.2.2.toNat : Int), sv] 27)) :
    Calls Try.prog 23 (#[.int .i64 (x : Int)] ++ #[.pointer (some ⟨g, 0, none⟩)]) W fun e w' => e = .returned (.bool (!mem c x)) ∧ Below W.heap.size W w' := by
  show Calls Try.prog 23 #[.int .i64 (x : Int), .pointer (some ⟨g, 0, none⟩)] W _
  have y0 : W.cell? ⟨g, 0, none⟩ = some (.int .i64 k) := by simp [World.cell?, hb]
  have y1 : W.cell? ⟨g, 1, none⟩ = some (.int .u64 (c.1.toNat : Int)) := by simp [World.cell?, hb]
  have y2 : W.cell? ⟨g, 2, none⟩ = some (.int .u64 (c.2.1.toNat : Int)) := by simp [World.cell?, hb]
  have y3 : W.cell? ⟨g, 3, none⟩ = some (.int .u64 (c.2.2.1.toNat : Int)) := by simp [World.cell?, hb]
  have y4 : W.cell? ⟨g, 4, none⟩ = some (.int .u64 (c.2.2.2.toNat : Int)) := by simp [World.cell?, hb]
  have y5 : W.cell? ⟨g, 5, none⟩ = some (sv) := by simp [World.cell?, hb]
  clear hb
  go_enter Try.func23, Try.ntmps23
  go_wp2_with (go_at_call 21; refine (rhas_any c _ x rfl hx _).mono ?_; rintro e W1 ⟨rfl, hl⟩)
  go_ret
  exact ⟨rfl, hl.below⟩

/-- What RexText is to do at a tree. -/
def RT (x : E) : Prop := ∀ (t : T) (v : Value) (B : Nat) (w : World), Is t x → Rx w B v t → B ≤ w.heap.size →
    Calls Try.prog 8 #[v] w fun e w' => e = .returned (.string (S (text x))) ∧ Below w.heap.size w w'

set_option maxHeartbeats 2000000 in
set_option maxRecDepth 20000 in
theorem in_any {x : E} (hw : RT x) (hn : x.nodes ≤ 100) (s : T) (his : Is s x) (i n cap b o g B : Nat) (k : Int) (c : Cl) (kv : Value) (ks : List Int) (p0 p1 p2 p3 p4 p5 : Value) (W : World) (hblk : W.heap[g]? = some (.cells #[.int .i64 k, .int .u64 (c.1.toNat : Int), .int .u64 (c.2.1.toNat : Int), .int .u64 (c.2.2.1.toNat : Int), .int .u64 (c.2.2.2.toNat : Int), .slice (some ⟨b, o, none⟩) n cap] 27)) (hi : i < n)
    (hx : Rx W B (.agg #[p0, p1, p2, p3, p4, p5]) s) (q0 : W.cell? ⟨b, o + i * 6, none⟩ = some p0) (q1 : W.cell? ⟨b, o + i * 6 + 1, none⟩ = some p1) (q2 : W.cell? ⟨b, o + i * 6 + 2, none⟩ = some p2) (q3 : W.cell? ⟨b, o + i * 6 + 3, none⟩ = some p3) (q4 : W.cell? ⟨b, o + i * 6 + 4, none⟩ = some p4) (q5 : W.cell? ⟨b, o + i * 6 + 5, none⟩ = some p5) (hB : B ≤ W.heap.size) (hk : Ints W kv ks) :
    Calls Try.prog 18 #[.int .i64 (i : Int), kv, .pointer (some ⟨g, 0, none⟩)] W fun e w' => e = .returned (.string (S (inBr ks (kindOf x) (text x)))) ∧ Below W.heap.size W w' := by
  have hlen : (text x).length ≤ 232000 := by have := text_length x; omega
  have HW : Hid (∀ W', Rx W' B (.agg #[p0, p1, p2, p3, p4, p5]) s → B ≤ W'.heap.size → Calls Try.prog 8 #[.agg #[p0, p1, p2, p3, p4, p5]] W' fun e w' => e = .returned (.string (S (text x))) ∧ Below W'.heap.size W' w') := fun W' h1 h2 => hw s _ B W' his h1 h2
  have HK : Hid (s.kind = kindOf x) := is_kind his
  obtain ⟨L, HL⟩ : ∃ L, Hid (text x = L) := ⟨_, (rfl : text x = text x)⟩
  rw [HL.out] at HW hlen ⊢
  have hsl : (S L).size ≤ 232000 := by rw [S_size]; exact hlen
  have HX : Hid (Rx W B (.agg #[p0, p1, p2, p3, p4, p5]) s) := hx
  have y5 : W.cell? ⟨g, 5, none⟩ = some (.slice (some ⟨b, o, none⟩) n cap) := by simp [World.cell?, hblk]
  obtain ⟨k', c', ao', cap', kids', vals', hv, rfl, -⟩ := hx.shape
  simp only [Value.agg.injEq, Array.mk.injEq, List.cons.injEq, and_true] at hv
  obtain ⟨rfl, rfl, rfl, rfl, rfl, rfl⟩ := hv
  have HKK : Hid (k' = kindOf x) := HK.out
  obtain ⟨akv, ckv, rfl, hml, hcs⟩ := hk
  have HCS : Hid (ks = [] ∨ ∃ b o, akv = some ⟨b, o, none⟩ ∧ b < W.heap.size ∧ ∀ i (hi : i < ks.length), W.cell? ⟨b, o + i, none⟩ = some (.int .i64 ks[i])) := hcs
  have hii : (i : Int) < (n : Int) := by omega
  clear hw his hblk hx hcs HK
  go_enter Try.func18, Try.ntmps18
  go_wp2_with fail
  go_loopw [7] (fun z wr => ∃ j : Nat, j ≤ ks.length ∧ z = .int .i64 (j : Int) ∧ Hid (∀ i (hi : i < ks.length), i < j → ks[i] ≠ k') ∧ Hid (Below (W.heap.size + 1) (W.alloc (.cells #[.int .i64 k', .int .u64 (c'.1.toNat : Int), .int .u64 (c'.2.1.toNat : Int), .int .u64 (c'.2.2.1.toNat : Int), .int .u64 (c'.2.2.2.toNat : Int), .slice ao' kids'.length cap'] 27)) wr)) (fun z _ => ks.length - (intOf z).toNat)
  case atStart => exact ⟨0, by omega, rfl, fun i _ hi => by omega, Below.refl _ _⟩
  case round =>
    clear y5 q0 q1 q2 q3 q4 q5
    obtain ⟨j, hj, rfl, HJ, HB⟩ := hrel
    have hblk : wr.heap[W.heap.size]? = some (.cells #[.int .i64 k', .int .u64 (c'.1.toNat : Int), .int .u64 (c'.2.1.toNat : Int), .int .u64 (c'.2.2.1.toNat : Int), .int .u64 (c'.2.2.2.toNat : Int), .slice ao' kids'.length cap'] 27) := (HB.out.block _ (Nat.lt_succ_self _)).trans (block_new W _)
    have y0 : wr.cell? ⟨W.heap.size, 0, none⟩ = some (.int .i64 k') := by simp [World.cell?, hblk]
    have y1 : wr.cell? ⟨W.heap.size, 1, none⟩ = some (.int .u64 (c'.1.toNat : Int)) := by simp [World.cell?, hblk]
    have y2 : wr.cell? ⟨W.heap.size, 2, none⟩ = some (.int .u64 (c'.2.1.toNat : Int)) := by simp [World.cell?, hblk]
    have y3 : wr.cell? ⟨W.heap.size, 3, none⟩ = some (.int .u64 (c'.2.2.1.toNat : Int)) := by simp [World.cell?, hblk]
    have y4 : wr.cell? ⟨W.heap.size, 4, none⟩ = some (.int .u64 (c'.2.2.2.toNat : Int)) := by simp [World.cell?, hblk]
    have y5 : wr.cell? ⟨W.heap.size, 5, none⟩ = some (.slice ao' kids'.length cap') := by simp [World.cell?, hblk]
    clear hblk
    have HBW : Hid (Below W.heap.size W wr) := ((Below.refl _ _).alloc (Nat.le_refl _) _).trans (HB.out.mono (Nat.le_succ _))
    have hcall := HW.out wr (HX.out.next (HBW.out.mono hB)) (Nat.le_trans hB HBW.out.size)
    by_cases hjt : j < ks.length
    · obtain ⟨bk, ok, rfl, hbk, hck⟩ := HCS.out.resolve_left (by intro e; subst e; simp at hjt)
      have z0 : wr.cell? ⟨bk, ok + j, none⟩ = some (.int .i64 ks[j]) := (HBW.out.cell (p := ⟨bk, ok + j, none⟩) hbk).trans (hck j hjt)
      obtain ⟨e, HE⟩ : ∃ e, Hid (ks[j] = e) := ⟨_, (rfl : ks[j] = ks[j])⟩
      rw [HE.out] at z0
      have hji : (j : Int) < (ks.length : Int) := by omega
      clear hck
      by_cases hke : k' = e
      · have hb1 : (k' == e) = true := by simp; exact hke
        have HT : Hid (inBr ks (kindOf x) L = [40] ++ L ++ [41]) := by
          show _ = _
          unfold inBr
          rw [if_pos]
          rw [← HKK.out, hke, ← HE.out]
          simp
        have HKE : Hid (k' = e) := hke
        clear hke
        go_wp2_with (go_quiet (fail))
        have HQ : Hid (Below wr.heap.size wr (wr.drewN nq)) := ⟨rfl, rfl, rfl, Nat.le_refl _, fun _ _ => rfl⟩
        generalize wr.drewN nq = w2 at HQ ⊢
        have hcall2 := HW.out w2 (HX.out.next ((HBW.out.trans (HQ.out.mono HBW.out.size)).mono hB)) (Nat.le_trans hB (HBW.out.trans (HQ.out.mono HBW.out.size)).size)
        clear hcall
        refine hcall2.mono ?_
        rintro _ w3 ⟨rfl, hb3⟩
        have HB3 : Hid (Below W.heap.size W w3) := (HBW.out.trans (HQ.out.mono HBW.out.size)).trans (hb3.mono (HBW.out.trans (HQ.out.mono HBW.out.size)).size)
        clear hb3 hcall2
        go_wp2_with fail
        go_ret
        exact ⟨ret_str (by rw [HT.out]; simp), HB3.out⟩
      · have hb1 : (k' == e) = false := by simp; exact hke
        go_wp2_with (go_quiet (fail))
        go_roundw
        case rel =>
          refine ⟨j + 1, by omega, by go_num, fun i hi h2 => ?_, below_drewN HB.out nq⟩
          by_cases e' : i = j
          · subst e'; rw [HE.out]; exact fun h => hke h.symm
          · exact HJ.out i hi (by omega)
        case measure => simp [intOf]; omega
    · have HT : Hid (inBr ks (kindOf x) L = L) := by
        show _ = _
        unfold inBr
        rw [if_neg]
        rw [← HKK.out]
        intro h
        simp at h
        obtain ⟨i, hi, e⟩ := List.getElem_of_mem h
        exact HJ.out i hi (by omega) e
      go_wp2_with fail
      refine hcall.mono ?_
      rintro _ w3 ⟨rfl, hb3⟩
      have HB3 : Hid (Below W.heap.size W w3) := HBW.out.trans (hb3.mono HBW.out.size)
      clear hb3 hcall
      go_wp2_with fail
      go_ret
      exact ⟨by rw [HT.out]; rfl, HB3.out⟩
end Go.Proofs.Ythloedfiomfnbaa
