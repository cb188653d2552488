/-
  The contract of pushkeep.filled at rows: is the room behind a list as it was filled?
-/
import Derived.Test.YtlgcggfenljdnaaOwRows
import Derived.BigQuiet
namespace Go.Proofs.Ytlgcggfenljdnaa
open Go.RowKit
open Dfa

/-- The load of a row, whichever of its worlds it is. -/
theorem quiet_load_mid {P : Program} {op : Oper} {a : Act} {C : World → Prop} {K : Act → Prop} (ty : TypeId) (x : Operand) (ho : op.op = .load ty x)
    (b o : Nat) (hx : a.eval x = .pointer (some ⟨b, o, none⟩)) (cs : List Value) (d : TypeDesc) (hc : ∀ w, C w → w.rangeAt b o cs)
    (hu : P.underlying ty = some d) (hd : d.isRow = true) (hi : (P.info? ty).map (·.size) = some cs.length)
    (h : K (a.put op.dst (.agg cs.toArray))) : op.quiet P a C K :=
  ⟨_, fun w hw => by
    unfold Oper.quietAt execOp
    simp only [ho, hx, Instr.loadAt, Instr.sureAddr, Sem.run_bind, Sem.run_pure, Result.andThen_ok, run_loadVar_mid w b o ty cs d (hc w hw) hu hd hi]
    exact ⟨rfl, rfl⟩, h⟩
def SFR (w : World) (g n : Nat) (l : List Value) (W : World) : Prop := Below w.heap.size w W ∧ W.rangeAt w.heap.size 0 l ∧ W.rangeAt g (n * 256) l ∧ W.rangeAt g ((n + 1) * 256) l
theorem eql42 (f : Nat → Int) (w : World) : (binOp .eql 42 (.agg (rl f).toArray) (.agg (rl f).toArray)).run Try.prog w = .ok (.bool true) w := by
  obtain ⟨i, hi, _, _, _⟩ := info_parts info40
  rw [run_eql_struct, show (10000 : Nat) = 9999 + 1 from rfl, run_equalIn_array w 9999 _ _ Try.underlying42 hi]
  simp only [cells40]
  rw [run_eqItems_row 9998 f f w (List.range 256) (fun i hi => by simpa using hi)]
  simp [Result.andThen_ok]
set_option maxHeartbeats 2000000 in
set_option maxRecDepth 20000 in
theorem filledR_any (g n cap : Nat) (f : Nat → Int) (w : World) (hcap : n + 2 ≤ cap) (hm : n ≤ 274877906944) (hg : g < w.heap.size) (h0 : w.rangeAt g (n * 256) (rl f)) (h1 : w.rangeAt g ((n + 1) * 256) (rl f)) :
    Calls Try.prog 23 #[.slice (some ⟨g, 0, none⟩) n cap, .agg (rl f).toArray] w fun e w' => e = .returned (.bool true) ∧ Below w.heap.size w w' := by
  have hq : ∀ W, (binOp .eql 42 (.agg (rl f).toArray) (.agg (rl f).toArray)).run Try.prog W = .ok (.bool true) W := eql42 f
  have HL : Hid ((rl f).length = 256) := rl_length _
  have HO : Hid ((rl f).toArray.all (·.oneCell') = true) := rl_one _
  have HA : Hid (w.rangeAt g (n * 256) (rl f) ∧ w.rangeAt g ((n + 1) * 256) (rl f)) := ⟨h0, h1⟩
  obtain ⟨l, HLN⟩ : ∃ q, Hid (rl f = q) := ⟨_, (rfl : _ = _)⟩
  rw [HLN.out] at hq HL HO HA
  rw [HLN.out]
  have HLS : Hid ((Try.prog.info? 42).map (·.size) = some l.length) := by show _ = _; rw [HL.out]; exact size42
  have HSZ : Hid (l.toArray.size = 256) := by show _ = _; rw [List.size_toArray]; exact HL.out
  obtain ⟨zs, hz42, hzsz⟩ := zero42
  have HZ : Hid (zs.size = 256) := hzsz
  clear h0 h1 hzsz
  have hw2 : IntKind.i64.wrap ((n : Int) + 1) = ((n + 1 : Nat) : Int) := by simp only [IntKind.wrap, IntKind.bits, IntKind.signed]; simp; omega
  have hw3 : IntKind.i64.wrap ((n : Int) + 2) = ((n + 2 : Nat) : Int) := by simp only [IntKind.wrap, IntKind.bits, IntKind.signed]; simp; omega
  have hb1 : ((n + 2 : Nat) : Int) ≤ (cap : Int) := by omega
  have S1 : SFR w g n l (w.alloc (Obj.cells l.toArray 42)).drew := by
    have hB : Below w.heap.size w (w.alloc (Obj.cells l.toArray 42)) := (Below.refl _ _).alloc (Nat.le_refl _) _
    exact ⟨hB.drew, fun j v hv => by rw [Nat.zero_add]; show (w.alloc (Obj.cells l.toArray 42)).cell? _ = _; simpa [cell_of_block] using hv, fun j v hv => (hB.drew.cell (p := ⟨g, n * 256 + j, none⟩) hg).trans (HA.out.1 j v hv), fun j v hv => (hB.drew.cell (p := ⟨g, (n + 1) * 256 + j, none⟩) hg).trans (HA.out.2 j v hv)⟩
  have HS1 : Hid (SFR w g n l (w.alloc (Obj.cells l.toArray 42)).drew) := S1
  clear S1
  go_enter Try.func23, Try.ntmps23
  go_wp2_with (refine wpList_store_new rfl _ _ rfl _ l.toArray rfl rfl HZ.out HSZ.out HO.out ?_)
  have P0 : Hid (∀ W, (∃ p : Kp (SFR w g n l), W = p.W) → W.rangeAt w.heap.size 0 l) := fun W h => by obtain ⟨p, rfl⟩ := h; exact p.h.2.1
  have P1 : Hid (∀ W, (∃ p : Kp (SFR w g n l), W = p.W) → W.rangeAt g (n * 256) l) := fun W h => by obtain ⟨p, rfl⟩ := h; exact p.h.2.2.1
  have P2 : Hid (∀ W, (∃ p : Kp (SFR w g n l), W = p.W) → W.rangeAt g ((n + 1) * 256) l) := fun W h => by obtain ⟨p, rfl⟩ := h; exact p.h.2.2.2
  have hne : Nonempty (Kp (SFR w g n l)) := ⟨⟨_, HS1.out⟩⟩
  have hi1 : (n : Int) < ((n + 2 : Nat) : Int) := by omega
  have hi2 : ((n + 1 : Nat) : Int) < ((n + 2 : Nat) : Int) := by omega
  refine wp_region_kept mixed (by kernel_rfl) HS1.out ?_
  repeat (first | (go_big_quiet_want; (first | refine quiet_load_mid 42 _ rfl w.heap.size 0 rfl l _ P0.out Try.underlying42 rfl HLS.out ?_ | refine quiet_load_mid 42 _ rfl g (n * 256) rfl l _ P1.out Try.underlying42 rfl HLS.out ?_ | refine quiet_load_mid 42 _ rfl g ((n + 1) * 256) rfl l _ P2.out Try.underlying42 rfl HLS.out ?_); simp only [Act.put, List.setIfInBounds_toArray, List.set_cons_zero, List.set_cons_succ]; go_big_quiet_on) | go_big_quiet_step (fail))
  refine wpQuiet_nil ?_
  intro W1 hw1
  obtain ⟨⟨W1, HS⟩, rfl⟩ := hw1
  have HB := HS.1
  clear hne HS hw2 P0 P1 P2
  go_wp2_with fail
  go_ret
  exact ⟨rfl, HB⟩
end Go.Proofs.Ytlgcggfenljdnaa
