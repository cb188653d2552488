/-
  The contract of pushkeep.roomy at numbers: a list with room behind it that is filled.
-/
import Derived.Test.YtlgcggfenljdnaaOwSpoil
import Derived.Laws.OwnMore
import Derived.Laws.MakeOwn
namespace Go.Proofs.Ytlgcggfenljdnaa
open Go.RowKit
open Dfa

theorem below_of_grown {W W1 : World} (h : W.grownBy W1 none) : Below W.heap.size W W1 := ⟨h.os, h.tape, h.output, h.size, fun k hk => h.block k hk (by simp)⟩
/-- 'append(x, l...)' of a row of numbers with room. -/
theorem appT (W : World) (base gm n : Nat) (T : Nat → Int) (v : Value) (hv : Ts W v n T) (hao : v = .slice none 0 0 ∨ ∃ ad n c, v = .slice (some ad) n c) (hown : W.ownsRow base 3 1 (.slice (some ⟨gm, 0, none⟩) 0 (n + 3)) 0 []) :
    ∃ W1, (Builtin.append_ #[23, 23] 23 #[.slice (some ⟨gm, 0, none⟩) 0 (n + 3), v]).run Try.prog W = .ok (.slice (some ⟨gm, 0, none⟩) n (n + 3)) W1 ∧ W1.ownsRow base 3 1 (.slice (some ⟨gm, 0, none⟩) n (n + 3)) n (tl n T) ∧ W.grownBy W1 (some gm) := by
  obtain ⟨i0, hi, hz0, hz1, hz2⟩ := info_parts info3
  obtain ⟨ao, cap, rfl, hm, -, hc⟩ := hv
  rcases hao with h | ⟨ad, n', c, h⟩
  · simp only [Value.slice.injEq] at h
    obtain ⟨rfl, rfl, rfl⟩ := h
    exact ⟨W, run_append_owned_none W base 23 23 3 i0 1 Try.underlying23 hi _ _ _ hown, hown, World.grownBy.refl W _⟩
  · simp only [Value.slice.injEq] at h
    obtain ⟨rfl, rfl, rfl⟩ := h
    have := run_append_fits (P := Try.prog) W base 23 23 3 i0 1 Try.underlying23 hi hz1 gm 0 (n + 3) [] hown ad n cap (tl n T) (by simp [tl]) (fun j u hj => by
      have hjl : j < n := by have := (List.getElem?_eq_some_iff.1 hj).1; simpa [tl] using this
      obtain ⟨b, o, e, _, h3⟩ := hc.resolve_left (by omega)
      simp only [Option.some.injEq] at e
      subst e
      rw [tl_at n T j hjl] at hj
      rw [Addr.add_lit, h3 j hjl, hj]) (fun u hu => by
      simp only [tl, List.mem_map] at hu
      obtain ⟨j, _, rfl⟩ := hu
      rfl) (by omega)
    simpa using this
/-- 'append(x, v, v)' of a row of numbers with room. -/
theorem appT2 (W : World) (base gm n gb : Nat) (v : Int) (xs : List Value) (hown : W.ownsRow base 3 1 (.slice (some ⟨gm, 0, none⟩) n (n + 3)) n xs) (h0 : W.cell? ⟨gb, 0, none⟩ = some (.int .i64 v)) (h1 : W.cell? ⟨gb, 1, none⟩ = some (.int .i64 v)) :
    ∃ W1, (Builtin.append_ #[23, 23] 23 #[.slice (some ⟨gm, 0, none⟩) n (n + 3), .slice (some ⟨gb, 0, none⟩) 2 2]).run Try.prog W = .ok (.slice (some ⟨gm, 0, none⟩) (n + 2) (n + 3)) W1 ∧ W1.ownsRow base 3 1 (.slice (some ⟨gm, 0, none⟩) (n + 2) (n + 3)) (n + 2) (xs ++ [.int .i64 v, .int .i64 v]) ∧ W.grownBy W1 (some gm) := by
  obtain ⟨i0, hi, hz0, hz1, hz2⟩ := info_parts info3
  exact run_append_fits (P := Try.prog) W base 23 23 3 i0 1 Try.underlying23 hi hz1 gm n (n + 3) xs hown ⟨gb, 0, none⟩ 2 2 [.int .i64 v, .int .i64 v] (by simp) (fun j u hj => by
    match j, hj with
    | 0, hj => simp at hj; rw [Addr.add_lit, ← hj]; exact h0
    | 1, hj => simp at hj; rw [Addr.add_lit, ← hj]; exact h1
    | j + 2, hj => simp at hj) (fun u hu => by simp at hu; subst hu; rfl) (by omega)
/-- An append by its run. -/
theorem wpList_append_run {P : Program} {ops : Array Oper} {rest : List Oper} {o : Oper} {a : Act} {Q : Exit → Act → World → Prop} {W W1 : World} {v : Value} (hgd : o.guard = none) (s x : Operand) (t : TypeId)
    (ho : o.op = .call { callee := .builtin .append, args := #[s, x], argTypes := #[t, t] }) (sv xv : Value)
    (hs : a.eval s = sv) (hx : a.eval x = xv) (hr : (Builtin.append_ #[t, t] o.type #[sv, xv]).run P W = .ok v W1) (h : wpList P ops Q rest (a.put o.dst v) W1) : wpList P ops Q (o :: rest) a W :=
  wpList_plain hgd fun _ hK => by
    unfold Oper.wp execOp
    simp only [ho, resolve, invoke, builtin, Sem.run_bind, Sem.run_pure, Result.andThen_ok, List.map_toArray, List.map_cons, List.map_nil, hs, hx, hr]
    exact hK _ _ h
set_option maxHeartbeats 1600000 in
set_option maxRecDepth 20000 in
theorem roomyT_any (tv : Value) (n : Nat) (T : Nat → Int) (v : Int) (w : World) (ht : Ts w tv n T) (hao : tv = .slice none 0 0 ∨ ∃ ad n c, tv = .slice (some ad) n c) (hn : n ≤ 17592186043904) :
    Calls Try.prog 22 #[tv, .int .i64 v] w fun e w' => ∃ gm, e = .returned (.slice (some ⟨gm, 0, none⟩) n (n + 3)) ∧ w'.ownsRow w.heap.size 3 1 (.slice (some ⟨gm, 0, none⟩) (n + 2) (n + 3)) (n + 2) (tl n T ++ [.int .i64 v, .int .i64 v]) ∧ Below w.heap.size w w' := by
  obtain ⟨i0, hi, hz0, hz1, hz2⟩ := info_parts info3
  obtain ⟨W1, hm1, hm2, hm3⟩ := run_make_own (P := Try.prog) w w.heap.size 23 3 i0 _ 1 Try.underlying23 hi hz0 hz1 .i64 .i64 (n + 3) (by rw [hz2]; omega) (by unfold maxLen; omega) (Nat.le_refl _)
  have B1 : Below w.heap.size w W1 := below_of_grown hm3
  obtain ⟨W2, ha1, ha2, ha3⟩ := appT W1 w.heap.size w.heap.size n T tv (ht.below B1 (Nat.le_refl _)) hao hm2
  have B2 : Below w.heap.size w W2 := B1.grown ha3 B1.size (fun k hk => by simp at hk; omega)
  have ho3 : (W2.alloc (Obj.cells #[.int .i64 v, .int .i64 v] 3)).ownsRow w.heap.size 3 1 (.slice (some ⟨w.heap.size, 0, none⟩) n (n + 3)) n (tl n T) := own_same ha2 fun k hk => Below.heap_alloc _ _ _ ((ha2.lt k hk).2)
  obtain ⟨W3, hb1, hb2, hb3⟩ := appT2 (W2.alloc (Obj.cells #[.int .i64 v, .int .i64 v] 3)) w.heap.size w.heap.size n W2.heap.size v (tl n T) ho3 (by simp) (by simp)
  have B3 : Below w.heap.size w W3 := (B2.alloc B2.size _).grown hb3 (by have := B2.size; simp; omega) (fun k hk => by simp at hk; omega)
  have HE : Hid (W3.ownsRow w.heap.size 3 1 (.slice (some ⟨w.heap.size, 0, none⟩) (n + 2) (n + 3)) (n + 2) (tl n T ++ [.int .i64 v, .int .i64 v]) ∧ Below w.heap.size w W3) := ⟨hb2, B3⟩
  obtain ⟨ao, cap, rfl, -⟩ := ht
  have hw : IntKind.i64.wrap ((n : Int) + 3) = (n : Int) + 3 := by simp only [IntKind.wrap, IntKind.bits, IntKind.signed]; simp; omega
  rw [show ((n + 3 : Nat) : Int) = (n : Int) + 3 from rfl] at hm1
  have HA1 : Hid ((Builtin.append_ #[23, 23] 23 #[.slice (some ⟨w.heap.size, 0, none⟩) 0 (n + 3), .slice ao n cap]).run Try.prog W1 = .ok (.slice (some ⟨w.heap.size, 0, none⟩) n (n + 3)) W2) := ha1
  have HB1 : Hid ((Builtin.append_ #[23, 23] 23 #[.slice (some ⟨w.heap.size, 0, none⟩) n (n + 3), .slice (some ⟨W2.heap.size, 0, none⟩) 2 2]).run Try.prog (W2.alloc (Obj.cells #[.int .i64 v, .int .i64 v] 3)) = .ok (.slice (some ⟨w.heap.size, 0, none⟩) (n + 2) (n + 3)) W3) := hb1
  clear ha1 hb1
  have h2 : (n : Int) ≤ ((n + 3 : Nat) : Int) := by omega
  have h3 : n ≤ n + 3 := by omega
  clear hm2 hm3 ha2 ha3 hb2 hb3 B1 B2 B3 ho3 hao hi hz0 hz1 hz2
  go_enter Try.func22, Try.ntmps22
  go_wp2_with (at_builtin; first | refine wpList_append_run rfl _ _ 23 rfl _ _ rfl rfl HA1.out ?_ | refine wpList_append_run rfl _ _ 23 rfl _ _ rfl rfl HB1.out ?_)
  go_ret
  exact ⟨_, rfl, HE.out⟩
end Go.Proofs.Ytlgcggfenljdnaa
