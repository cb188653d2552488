/-
  Whatever inbox and text are handed in (together of bulk at most 1048576), the call of pushlaw.FrameFeeds returns true: Feed answers what the document says. Conditions: the bulk of the arguments.
-/
import Derived.Test.YtnheaafepejaoaaRows
import Derived.WalkKit
import Derived.ProofKit
import Derived.OpenShut
import Derived.ShutString
import Derived.SizedLaws
import Derived.ChangeOld
import Derived.Below
import Derived.Carry
import Derived.WalkLawsBesides
import Derived.WalkSpells
import Derived.Test.YtnheaafepejaoaaOpens
import Derived.JoinedCond
import Derived.Test.YtnheaafepejaoaaEquals
import Derived.Test.YtnheaafepejaoaaRefFeeds
namespace Go.Proofs.Ytnheaafepejaoaa.frameFeeds
open Go.ChangeShapes Go.WideShapes Go.ChangeAt Go.RowKit
open Go.ChangeMaps (open_string shut_string)
open Frm
set_option linter.unusedVariables false

theorem own : ownKnob Try.prog.godebug = none := by kernel_rfl
theorem laidOut : laidOutB Try.prog = true := by kernel_rfl

/-! ### The walk: the Go text returns true. -/
set_option maxHeartbeats 1600000 in
set_option maxRecDepth 20000 in
theorem walk (a0b : ByteArray) (a0k : Int) (a1 : ByteArray) (w : World) (w0z : a0b.size ≤ 1048576) (w1 : a1.size ≤ 1048576) :
    Calls Try.prog 4 #[.agg #[.string a0b, .int .i64 a0k], .string a1] w fun e w' => e = .returned (.bool true) ∧ Below w.heap.size w w' := by
  by_cases hd : a0k = 0
  · subst hd
    have hsz : a0b.size + a1.size ≤ 17592186044416 := by omega
    have hadd : a0b.size + a1.size ≤ 9223372036854775807 := by omega
    obtain ⟨L, HL⟩ : ∃ L, Hid (a0b.data.toList ++ a1.data.toList = L) := ⟨_, rfl⟩
    have HA : Hid ((a0b ++ a1).data.toList = L) := by show _ = _; rw [← HL.out]; simp
    have has : (a0b ++ a1).size ≤ 17592186044416 := by simp; omega
    go_enter Try.func4, Try.ntmps4
    go_wp2_with fail
    refine (feed_live a0b a1 hsz _).mono ?_
    rintro e w1 ⟨v1, rfl, hown1, hb1⟩
    rw [HL.out] at hown1 ⊢
    generalize hF : ff L = F at hown1 ⊢
    obtain ⟨fs, rest, er⟩ := F
    simp only at hown1 ⊢
    have s1 := hb1.size
    rw [World.size_alloc] at s1
    have hlt : w.heap.size < w1.heap.size := by omega
    have B1 : Below w.heap.size w w1 := ((Below.refl _ w).alloc (Nat.le_refl _) _).trans (hb1.mono (by simp))
    have c0 : w1.cell? ⟨w.heap.size, 0, none⟩ = some (.string a0b) := by rw [hb1.cell (by simp)]; simp
    have c1 : w1.cell? ⟨w.heap.size, 1, none⟩ = some (.int .i64 0) := by rw [hb1.cell (by simp)]; simp
    clear hb1
    have hfl : fs.length ≤ 9223372036854775807 := by
      have := ff_size _ L (Nat.le_refl _)
      rw [hF] at this
      have hL : L.length = a0b.size + a1.size := by rw [← HL.out]; simp
      simp only at this
      omega
    have F1 : Frs w1 v1 fs := frs_of_own hown1 hfl
    clear hown1
    go_wp2_with fail
    refine (refeed_any (a0b ++ a1) has _).mono ?_
    rintro e w2 ⟨v2, rfl, hown2, hb2⟩
    rw [HA.out, hF] at hown2 ⊢
    simp only at hown2 ⊢
    have F2 : Frs w2 v2 fs := frs_of_own hown2 hfl
    have F3 : Frs w2 v1 fs := (F1.below ((Below.refl w1.heap.size w1).alloc (Nat.le_refl _) (Obj.cells #[.string ⟨rest.toArray⟩, .int .i64 (er : Int)] 31)) (Nat.le_refl _)).below hb2 (Nat.le_refl _)
    have hbk : w2.heap[w1.heap.size]? = some (Obj.cells #[.string ⟨rest.toArray⟩, .int .i64 (er : Int)] 31) := (hb2.block w1.heap.size (by simp)).trans (heap_alloc_new w1 _)
    have d0 : w2.cell? ⟨w1.heap.size, 0, none⟩ = some (.string ⟨rest.toArray⟩) := block_cell hbk 0
    have d1 : w2.cell? ⟨w1.heap.size, 1, none⟩ = some (.int .i64 (er : Int)) := block_cell hbk 1
    have s2 := hb2.size
    rw [World.size_alloc] at s2
    have B2 : Below w.heap.size w w2 := (B1.alloc (by omega) _).trans (hb2.mono (by simp; omega))
    clear hown2 hb2 hbk F1 B1 hF
    go_wp2_with fail
    refine (equal_true _ v1 v2 fs F3 F2).mono ?_
    rintro e w3 ⟨rfl, hb3⟩
    go_wp2_with fail
    go_ret
    exact ⟨rfl, B2.trans (hb3.mono (by omega))⟩
  · have hd0 : (a0k == 0) = false := by simpa using hd
    go_enter Try.func4, Try.ntmps4
    go_wp2_with fail
    refine (feed_dead a0b a1 a0k hd (by omega) _).mono ?_
    rintro e w1 ⟨rfl, hb1⟩
    have s1 := hb1.size
    rw [World.size_alloc] at s1
    have hlt : w.heap.size < w1.heap.size := by omega
    have B1 : Below w.heap.size w w1 := ((Below.refl _ w).alloc (Nat.le_refl _) _).trans (hb1.mono (by simp))
    have c0 : w1.cell? ⟨w.heap.size, 0, none⟩ = some (.string a0b) := by rw [hb1.cell (by simp)]; simp
    have c1 : w1.cell? ⟨w.heap.size, 1, none⟩ = some (.int .i64 a0k) := by rw [hb1.cell (by simp)]; simp
    clear hb1
    go_wp2_with fail
    go_ret
    exact ⟨rfl, B1.alloc (by omega) _⟩

/-! ### What the walk gives, for every argument -/
set_option maxRecDepth 100000 in
theorem contract (H : Type) (enc : TypeId × Value → H) (W : World) (base : Nat) (args : Array Value) (ds gs : List (DataW H)) (before : List MemPlace)
    (hval : ∀ (j : Nat) t v, Try.f4.params[j]? = some t → args[j]? = some v → Value.okWide Try.prog W .any base t v)
    (hW : DataW.Whole enc Try.prog Try.f4.params.toList Rows.frameFeedsSpec.vars false W args.toList ds gs before) (hk : Rows.uptoSmall H (ds ++ gs) = true) :
    Calls Try.prog 4 args W fun e W' => ∃ v, e = .returned v ∧ Rows.frameFeedsSpec.post enc Try.prog Try.f4 false true false false W args v W' := by
  have hW' := hW
  obtain ⟨p, q, hA0, hV, rfl, hfz, hnd⟩ := hW
  have hA : DataW.TrodAll enc Try.prog W 0 (fun _ => true) true Try.f4.params.toList args.toList ds p := hA0
  rw [Try.params4] at hA hval
  obtain ⟨v0, vs0, d0, ds0, p0, q0, hargs, rfl, rfl, h0, r0⟩ := trodAll_cons hA
  obtain ⟨v1, vs1, d1, ds1, p1, q1, rfl, rfl, rfl, h1, r1⟩ := trodAll_cons r0
  obtain ⟨rfl, rfl, rfl⟩ := trodAll_nil r1
  obtain rfl : args = #[v0, v1] := by cases args; simp_all
  obtain ⟨rfl, rfl⟩ := trodVars_none hV
  have k0 := h0
  have lt0 : ∀ x ∈ p0, x.block < W.heap.size := by obtain ⟨m, hm⟩ := k0; exact DataW.trod_lt m _ _ _ hm
  obtain ⟨a0b, a0k, rfl, w0z⟩ := open_inbox (hval 0 31 v0 rfl rfl) h0
  obtain ⟨a1, rfl, rfl, rfl, w1⟩ := open_string Try.underlying9 (hval 1 9 v1 rfl rfl) h1
  have hB := of_decide_eq_true hk
  simp only [List.append_nil, Rows.uptoBulkAll, Rows.uptoBulk] at hB
  have r0z : a0b.size ≤ 1048576 := by omega
  have r1z : a1.size ≤ 1048576 := by have e : a1.data.toList.length = a1.size := by { rw [Array.length_toList]; rfl }; omega
  clear hA0
  refine (walk a0b a0k a1 W r0z r1z).mono fun e W' ⟨he, bel⟩ => ?_
  subst he
  exact ⟨_, rfl, _, _, _, [], _, [], hW', trodAll_mk1 (shut_bool Try.underlying4 _), (trodAll_cons_mk (Below.trod laidOut (by kernel_rfl) (of_decide_eq_true (by kernel_rfl)) k0 bel lt0) (trodAll_cons_mk (shut_string Try.underlying9 w1) trodAll_mk0)), rfl, bel.frame _, fun h => by cases h⟩

/-! ### The row's step -/
set_option maxRecDepth 100000 in
theorem lifted (os : Os) (started : os.Started) (H : Type) (enc : TypeId × Value → H) (F : Stop.Interp) :
    ReturnsInHanded {} Try.checked os 4 .any ((Rows.OpenSpec.upto Rows.frameFeedsSpec).pre6 enc Try.prog Try.f4 Rows.frameFeedsUptoRow.domain false) (((Rows.OpenSpec.upto Rows.frameFeedsSpec).at F).post enc Try.prog Try.f4 false true false false) := by
  refine returnsInHanded_of_cond (C := Try.checked) (s := Rows.OpenSpec.upto Rows.frameFeedsSpec) (k := Rows.uptoSmall) rfl own started (by kernel_rfl) Try.func4
    (OpenSpec.witness (enc := enc) (C := Try.checked) (s := Rows.OpenSpec.upto Rows.frameFeedsSpec) (k := Rows.uptoSmall) rfl false ⟨#[], #[.agg #[.string .empty, .int .i64 0], .string .empty], []⟩ 8 (by kernel_rfl) (by kernel_rfl) (by kernel_rfl)
      (x := ([.agg [.lit (.string []), .lit (.int .i64 0)], .lit (.string [])], [], [])) (by kernel_rfl) rfl (by kernel_rfl)) ?_
  intro W base args ds gs before hval hW _ hk _
  exact contract H enc W base args ds gs before hval hW hk

theorem over : Rows.frameFeedsUptoRow.holds Try.pinned (Rows.OpenSpec.upto Rows.frameFeedsSpec) :=
  OpenClaim.holds_of_cond 4 Try.f4 rfl rfl rfl rfl rfl rfl rfl ⟨rfl, rfl, rfl, rfl, rfl⟩ rfl rfl rfl rfl rfl (by kernel_rfl) Try.func4 (by kernel_rfl)
    (of_decide_eq_true (by kernel_rfl)) (by unfold Func.isWrapper; first | (rw [if_pos (by decide +kernel)]; kernel_rfl) | (rw [if_neg (by decide +kernel)]; exact ⟨rfl, rfl⟩))
    (fun os started H enc _ F => lifted os started H enc F)

end Go.Proofs.Ytnheaafepejaoaa.frameFeeds
namespace Go.Proofs.Ytnheaafepejaoaa
/-- The given statement. -/
theorem frameFeeds_upto : Rows.FrameFeedsUptoSaid := frameFeeds.over
#print axioms frameFeeds_upto
end Go.Proofs.Ytnheaafepejaoaa
