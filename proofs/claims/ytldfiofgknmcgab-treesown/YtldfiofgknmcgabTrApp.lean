/-
  append of a row of one's own and another row: the row of both. No function is walked here.
-/
import Derived.Test.YtldfiofgknmcgabTrDown
import Derived.Maps.AppendAt
import Derived.Laws.AppendOwnNone
namespace Go.Proofs.Ytldfiofgknmcgab
open Go.RowKit
open Cg

theorem wpList_append_run {P : Program} {ops : Array Oper} {rest : List Oper} {o : Oper} {a : Act} {Q : Exit → Act → World → Prop} {W W1 : World} {v : Value} (hgd : o.guard = none) (s x : Operand) (t : TypeId)
    (ho : o.op = .call { callee := .builtin .append, args := #[s, x], argTypes := #[t, t] }) (sv xv : Value)
    (hs : a.eval s = sv) (hx : a.eval x = xv) (hr : (Builtin.append_ #[t, t] o.type #[sv, xv]).run P W = .ok v W1) (h : wpList P ops Q rest (a.put o.dst v) W1) : wpList P ops Q (o :: rest) a W :=
  wpList_plain hgd fun _ hK => by
    unfold Oper.wp execOp
    simp only [ho, resolve, invoke, builtin, Sem.run_bind, Sem.run_pure, Result.andThen_ok, List.map_toArray, List.map_cons, List.map_nil, hs, hx, hr]
    exact hK _ _ h
/-- The cells of another slice: none, or these. -/
def Oth (W : World) (xo : Option Addr) (m mc : Nat) (ys : List Value) : Prop := (xo = none → m = 0 ∧ mc = 0) ∧ (ys ≠ [] → ∃ b o, xo = some ⟨b, o, none⟩ ∧ ∀ j u, ys[j]? = some u → W.cell? ⟨b, o + j, none⟩ = some u)
theorem grown_refl (W : World) (q : Option Nat) : W.grownBy W q := ⟨rfl, rfl, rfl, Nat.le_refl _, fun _ _ _ => rfl⟩
theorem append_any {W : World} {base : Nat} (t e : TypeId) (i : TypeInfo) (z : Value) (size bytes : Nat) (ht : Try.prog.underlying t = some (.slice e)) (hi : Try.prog.info? e = some i) (hz : i.zero = some z) (hsize : i.size = size) (hby : i.bytes = bytes) (hzs : z.cells.size = size) (hsz : 0 < size)
    (v : Value) (n : Nat) (xs : List Value) (hown : W.ownsRow base e size v n xs) (xo : Option Addr) (m mc : Nat) (ys : List Value) (hl : ys.length = m * size) (hoth : Oth W xo m mc ys) (h1 : ∀ u ∈ ys, u.oneCell' = true) (hsm : n + m ≤ 9223372036854775807) (hbytes : (n + m) * bytes ≤ 140737488355328) (hb : base ≤ W.heap.size) :
    ∃ ra rc W', (Builtin.append_ #[t, t] t #[v, .slice xo m mc]).run Try.prog W = .ok (.slice ra (n + m) rc) W' ∧ W'.ownsRow base e size (.slice ra (n + m) rc) (n + m) (xs ++ ys) ∧ W.grownBy W' v.ownBlock ∧ (Value.ownBlock (.slice ra (n + m) rc) = v.ownBlock ∨ Value.ownBlock (.slice ra (n + m) rc) = some W.heap.size) := by
  have shape : ∀ {v' : Value} {W' : World} {k : Nat} {us : List Value}, W'.ownsRow base e size v' k us → ∃ ra rc, v' = .slice ra k rc := fun {v' W' k us} h => by
    rcases h.2 with ⟨rfl, rfl⟩ | ⟨g, cap, cur, rfl, -⟩
    · exact ⟨_, _, rfl⟩
    · exact ⟨_, _, rfl⟩
  cases xo with
  | none =>
    obtain ⟨rfl, rfl⟩ := hoth.1 rfl
    obtain ⟨ra, rc, rfl⟩ := shape hown
    have hy : ys = [] := List.length_eq_zero_iff.1 (by rw [hl]; simp)
    subst hy
    exact ⟨ra, rc, W, run_append_owned_none (P := Try.prog) (w := W) base t t e i size ht hi _ n xs hown, by simpa using hown, grown_refl _ _, Or.inl rfl⟩
  | some ad =>
    obtain ⟨v', W', k1, k2, k3, -, k5⟩ := run_append_own_at (P := Try.prog) W base t t e i z size bytes ht hi hz hsize hby hzs hsz v n xs hown ad m mc ys hl (fun j u hu => by
      have hne : ys ≠ [] := fun e => by subst e; simp at hu
      obtain ⟨b, o, e1, e2⟩ := hoth.2 hne
      simp only [Option.some.injEq] at e1
      subst e1
      rw [Addr.add_lit]; exact e2 j u hu) h1 (by unfold maxLen; omega) hbytes hb
    obtain ⟨ra, rc, rfl⟩ := shape k2
    exact ⟨ra, rc, W', k1, k2, k3, k5⟩
theorem Oth.own {W : World} {base : Nat} {e : TypeId} {size : Nat} {xo : Option Addr} {m mc : Nat} {ys : List Value} (h : W.ownsRow base e size (.slice xo m mc) m ys) : Oth W xo m mc ys := by
  obtain ⟨hl, ⟨h1, h2⟩ | ⟨g, cap, cur, hv, hg, hh, hn, hc, hs, ht⟩⟩ := h
  · simp only [Value.slice.injEq] at h1
    refine ⟨fun _ => ⟨h1.2.1, h1.2.2⟩, fun hne => absurd (List.length_eq_zero_iff.1 (by rw [hl, h2]; simp)) hne⟩
  · simp only [Value.slice.injEq] at hv
    obtain ⟨rfl, -, rfl⟩ := hv
    refine ⟨fun h => (by cases h), fun _ => ⟨g, 0, rfl, fun j u hu => ?_⟩⟩
    have e1 : W.cell? ⟨g, 0 + j, none⟩ = cur[j]? := by simp [World.cell?, hh]
    have hj : j < m * size := by rw [← hl]; exact (List.getElem?_eq_some_iff.1 hu).1
    rw [e1, ← hu, ← ht, List.getElem?_take_of_lt hj]; simp
theorem ecs_one (l : List Ev) : ∀ u ∈ ecs l, u.oneCell' = true := by
  intro u hu
  simp only [ecs, List.mem_flatMap, List.mem_cons, List.not_mem_nil, or_false] at hu
  obtain ⟨e, -, rfl | rfl⟩ := hu <;> rfl
/-- Events behind events. -/
theorem Dn.app {w0 w1 : World} {la ma : Option Addr} {ln lc mn mc : Nat} {l m : List Ev} {W : World} (h : Dn w0 (.slice la ln lc) l W) (k : W.ownsRow w1.heap.size 46 2 (.slice ma mn mc) m.length (ecs m)) (hlen : l.length + m.length ≤ 1000000) :
    ∃ ra rn rc V, (Builtin.append_ #[41, 41] 41 #[.slice la ln lc, .slice ma mn mc]).run Try.prog W = .ok (.slice ra rn rc) V ∧ Dn w0 (.slice ra rn rc) (l ++ m) V ∧ Fy Z41 W V := by
  obtain ⟨i1, hi1, hy0, hy1, hy2⟩ := info_parts info46
  obtain ⟨_, _, e⟩ := own_len k
  simp only [Value.slice.injEq] at e
  obtain ⟨-, rfl, -⟩ := e
  obtain ⟨ra, rc, V, k1, k2, k3, k4⟩ := append_any (W := W) (base := w0.heap.size) 41 46 i1 _ 2 16 Try.underlying41 hi1 hy0 hy1 hy2 rfl (by decide) (.slice la ln lc) l.length (ecs l) h.own ma m.length mc (ecs m) (ecs_length m) (Oth.own k) (ecs_one m) (by omega) (by omega) h.bel.size
  refine ⟨ra, _, rc, V, k1, ⟨by rw [List.length_append, ecs_append]; exact k2, ?_⟩, Fy.grown h.own rfl k3⟩
  exact h.bel.trans ⟨k3.os, k3.tape, k3.output, k3.size, fun j hj => k3.block j (by have := h.bel.size; omega) fun e => by have := own_ge h.own j e.symm; omega⟩
def Zi (t : Nat) : Prop := t = 3
/-- A row of numbers of one's own. -/
structure Dw (w0 : World) (lv : Value) (l : List Int) (W : World) : Prop where
  own : W.ownsRow w0.heap.size 3 1 lv l.length (l.map (Value.int .i64))
  bel : Below w0.heap.size w0 W
theorem Dw.next {w0 : World} {lv : Value} {l : List Int} {W W' : World} (h : Dw w0 lv l W) (hb : Below W.heap.size W W') : Dw w0 lv l W' := ⟨own_below h.own hb, h.bel.trans (hb.mono h.bel.size)⟩
theorem Dw.nil (w0 : World) {W : World} (h : Below w0.heap.size w0 W) : Dw w0 (.slice none 0 0) [] W := ⟨World.ownsRow_nil _ _ _ _, h⟩
theorem Dw.app {w0 : World} {la ma : Option Addr} {ln lc mc : Nat} {l m : List Int} {W : World} (h : Dw w0 (.slice la ln lc) l W) (k : Oth W ma m.length mc (m.map (Value.int .i64))) (hlen : l.length + m.length ≤ 1000000) :
    ∃ ra rn rc V, (Builtin.append_ #[28, 28] 28 #[.slice la ln lc, .slice ma m.length mc]).run Try.prog W = .ok (.slice ra rn rc) V ∧ Dw w0 (.slice ra rn rc) (l ++ m) V ∧ Fy Zi W V := by
  obtain ⟨i1, hi1, hy0, hy1, hy2⟩ := info_parts info3
  obtain ⟨ra, rc, V, k1, k2, k3, k4⟩ := append_any (W := W) (base := w0.heap.size) 28 3 i1 _ 1 8 Try.underlying28 hi1 hy0 hy1 hy2 rfl (by decide) (.slice la ln lc) l.length _ h.own ma m.length mc (m.map (Value.int .i64)) (by simp) k (by intro u hu; simp at hu; obtain ⟨a, -, rfl⟩ := hu; rfl) (by omega) (by omega) h.bel.size
  refine ⟨ra, _, rc, V, k1, ⟨by rw [List.length_append, List.map_append]; exact k2, ?_⟩, Fy.grown h.own rfl k3⟩
  exact h.bel.trans ⟨k3.os, k3.tape, k3.output, k3.size, fun j hj => k3.block j (by have := h.bel.size; omega) fun e => by have := own_ge h.own j e.symm; omega⟩
end Go.Proofs.Ytldfiofgknmcgab
