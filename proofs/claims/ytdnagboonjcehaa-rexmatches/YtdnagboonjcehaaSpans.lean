/-
  The contracts of pushref's spans, of every right tree, and of its Matches.
-/
import Derived.Test.YtdnagboonjcehaaSpanB
import Derived.Test.YtdnagboonjcehaaSpanS
import Derived.Test.YtdnagboonjcehaaSpanK
import Derived.Test.YtdnagboonjcehaaSpanA
namespace Go.Proofs.Ytdnagboonjcehaa
open Go.RowKit
open Cls Rex
theorem spans_any {t : T} {x : E} (h : Is t x) : SC t x := by
  induction h with
  | none => exact spans_none
  | emp => exact spans_emp
  | @byte c _ => exact spans_byte c
  | cat _ _ i1 i2 => exact spans_cat _ _ _ _ i1 i2
  | alt _ _ i1 i2 => exact spans_alt _ _ _ _ i1 i2
  | star _ i1 => exact spans_star _ _ i1
set_option maxHeartbeats 4000000 in
set_option maxRecDepth 20000 in
theorem refMatches_any (t : T) (x : E) (hi : Is t x) (v : Value) (B : Nat) (s : ByteArray) (w : World) (hs : s.size ≤ 60) (hx : Rx w B v t) (hBw : B ≤ w.heap.size) :
    Calls Try.prog 10 #[v, .string s] w fun e w' => ∃ b, e = .returned (.bool b) ∧ (b = true ↔ M x s.data.toList) ∧ Below w.heap.size w w' := by
  obtain ⟨k, c, ao, cap, kids, vals, rfl, -⟩ := hx.shape
  obtain ⟨n, HN⟩ : ∃ n, Hid (kids.length = n) := ⟨_, (rfl : kids.length = kids.length)⟩
  rw [HN.out] at hx ⊢
  have hb1 := box_keep w (.cells #[.int .i64 k, .int .u64 (c.1.toNat : Int), .int .u64 (c.2.1.toNat : Int), .int .u64 (c.2.2.1.toNat : Int), .int .u64 (c.2.2.2.toNat : Int), .slice ao n cap] 27)
  have hcall := spans_any hi _ B s _ hs (hx.next (hb1.mono hBw)) (Nat.le_trans hBw hb1.size)
  have HB1 : Hid (Below w.heap.size w (w.alloc (.cells #[.int .i64 k, .int .u64 (c.1.toNat : Int), .int .u64 (c.2.1.toNat : Int), .int .u64 (c.2.2.1.toNat : Int), .int .u64 (c.2.2.2.toNat : Int), .slice ao n cap] 27))) := hb1
  clear hx hb1
  go_enter Try.func10, Try.ntmps10
  go_wp2_with fail
  refine hcall.mono ?_
  rintro _ W2 ⟨g, rfl, hg, ⟨F, hT, hF⟩, hB2⟩
  have HB2 : Hid (Below w.heap.size w W2) := HB1.out.trans (hB2.mono HB1.out.size)
  obtain ⟨bv, HBV⟩ : ∃ bv, Hid (F 0 s.size = bv) := ⟨_, (rfl : F 0 s.size = F 0 s.size)⟩
  have c1 := hT.top.cell (i := 0) (by omega)
  have c2 := (hT.rows 0 (by omega)).cell (i := s.size) (by omega)
  rw [HBV.out] at c2
  simp only [Nat.add_zero] at c1 c2
  have HM : Hid (bv = true ↔ M x s.data.toList) := by
    show _ ↔ _
    rw [← HBV.out, hF 0 s.size (by omega) (by omega)]
    unfold Sp
    rw [← len_of, cut_whole]
    exact ⟨fun h => h.2, fun h => ⟨Nat.zero_le _, h⟩⟩
  clear hcall hT hF hB2 hg HBV
  go_wp2_with fail
  go_ret
  exact ⟨bv, rfl, HM.out, HB2.out⟩
end Go.Proofs.Ytdnagboonjcehaa
