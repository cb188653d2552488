/-
  append of a row of one's own and one element that was just laid.
-/
import Derived.Test.YtmcmidfpglhnmabBrCnt
import Derived.Test.YtmcmidfpglhnmabChClone
import Derived.Maps.AppendAt
import Derived.Laws.AppendOwnNone
namespace Go.Proofs.Ytmcmidfpglhnmab
open Go.RowKit
open Cg

theorem wpList_append_run {P : Program} {ops : Array Oper} {rest : List Oper} {o : Oper} {a : Act} {Q : Exit → Act → World → Prop} {W W1 : World} {v : Value} (hgd : o.guard = none) (s x : Operand) (t : TypeId)
    (ho : o.op = .call { callee := .builtin .append, args := #[s, x], argTypes := #[t, t] }) (sv xv : Value)
    (hs : a.eval s = sv) (hx : a.eval x = xv) (hr : (Builtin.append_ #[t, t] o.type #[sv, xv]).run P W = .ok v W1) (h : wpList P ops Q rest (a.put o.dst v) W1) : wpList P ops Q (o :: rest) a W :=
  wpList_plain hgd fun _ hK => by
    unfold Oper.wp execOp
    simp only [ho, resolve, invoke, builtin, Sem.run_bind, Sem.run_pure, Result.andThen_ok, List.map_toArray, List.map_cons, List.map_nil, hs, hx, hr]
    exact hK _ _ h
/-- The cells of another slice: none, or these. -/
def Oth (W : World) (xo : Option Addr) (m mc : Nat) (ys : List Value) : Prop := (xo = none → m = 0 ∧ mc = 0) ∧ (ys ≠ [] → ∃ b o, xo = some ⟨b, o, none⟩ ∧ ∀ j u, ys[j]? = some u → W.cell? ⟨b, o + j, none⟩ = some u)
theorem grown_refl (W : World) (q : Option Nat) : W.grownBy W q := ⟨rfl, rfl, rfl, Nat.le_refl _, fun _ _ _ => rfl⟩
theorem append_any {W : World} {base : Nat} (t e : TypeId) (i : TypeInfo) (z : Value) (size bytes : Nat) (ht : Try.prog.underlying t = some (.slice e)) (hi : Try.prog.info? e = some i) (hz : i.zero = some z) (hsize : i.size = size) (hby : i.bytes = bytes) (hzs : z.cells.size = size) (hsz : 0 < size)
    (v : Value) (n : Nat) (xs : List Value) (hown : W.ownsRow base e size v n xs) (xo : Option Addr) (m mc : Nat) (ys : List Value) (hl : ys.length = m * size) (hoth : Oth W xo m mc ys) (h1 : ∀ u ∈ ys, u.oneCell' = true) (hsm : n + m ≤ 9223372036854775807) (hbytes : (n + m) * bytes ≤ 140737488355328) (hb : base ≤ W.heap.size) :
    ∃ ra rc W', (Builtin.append_ #[t, t] t #[v, .slice xo m mc]).run Try.prog W = .ok (.slice ra (n + m) rc) W' ∧ W'.ownsRow base e size (.slice ra (n + m) rc) (n + m) (xs ++ ys) ∧ W.grownBy W' v.ownBlock ∧ (Value.ownBlock (.slice ra (n + m) rc) = v.ownBlock ∨ Value.ownBlock (.slice ra (n + m) rc) = some W.heap.size) := by
  have shape : ∀ {v' : Value} {W' : World} {k : Nat} {us : List Value}, W'.ownsRow base e size v' k us → ∃ ra rc, v' = .slice ra k rc := fun {v' W' k us} h => by
    rcases h.2 with ⟨rfl, rfl⟩ | ⟨g, cap, cur, rfl, -⟩
    · exact ⟨_, _, rfl⟩
    · exact ⟨_, _, rfl⟩
  cases xo with
  | none =>
    obtain ⟨rfl, rfl⟩ := hoth.1 rfl
    obtain ⟨ra, rc, rfl⟩ := shape hown
    have hy : ys = [] := List.length_eq_zero_iff.1 (by rw [hl]; simp)
    subst hy
    exact ⟨ra, rc, W, run_append_owned_none (P := Try.prog) (w := W) base t t e i size ht hi _ n xs hown, by simpa using hown, grown_refl _ _, Or.inl rfl⟩
  | some ad =>
    obtain ⟨v', W', k1, k2, k3, -, k5⟩ := run_append_own_at (P := Try.prog) W base t t e i z size bytes ht hi hz hsize hby hzs hsz v n xs hown ad m mc ys hl (fun j u hu => by
      have hne : ys ≠ [] := fun e => by subst e; simp at hu
      obtain ⟨b, o, e1, e2⟩ := hoth.2 hne
      simp only [Option.some.injEq] at e1
      subst e1
      rw [Addr.add_lit]; exact e2 j u hu) h1 (by unfold maxLen; omega) hbytes hb
    obtain ⟨ra, rc, rfl⟩ := shape k2
    exact ⟨ra, rc, W', k1, k2, k3, k5⟩
theorem tstep_call_append {P : Program} {ops : Array Oper} {o : Oper} {a : Act} {K : Act → World → Prop} {Q : Exit → Act → World → Prop} {E : Prop} {W W1 : World} {v sv xv : Value} (hgd : o.guard = none) (s x : Operand) (t : TypeId) (ho : o.op = .call { callee := .builtin .append, args := #[s, x], argTypes := #[t, t] })
    (hs : a.eval s = sv) (hx : a.eval x = xv) (hr : (Builtin.append_ #[t, t] o.type #[sv, xv]).run P W = .ok v W1) (h : K (a.put o.dst v) W1) : if Region.wanted o (yielded ops a.tmps) = true then Oper.wp P o a W K Q else E := by
  have hw : Region.wanted o (yielded ops a.tmps) = true := by simp [Region.wanted, hgd]
  rw [if_pos hw]
  unfold Oper.wp
  simp [execOp, ho, resolve, invoke, builtin, hs, hx, hr, Result.andThen]
  exact h
theorem own_less {w : World} {B B' : Nat} {e : TypeId} {size : Nat} {v : Value} {n : Nat} {xs : List Value} (h : w.ownsRow B e size v n xs) (hb : B' ≤ B) : w.ownsRow B' e size v n xs := by
  obtain ⟨hl, ⟨h1, h2⟩ | ⟨g, cap, cur, hv, hg, hr⟩⟩ := h
  · exact ⟨hl, Or.inl ⟨h1, h2⟩⟩
  · exact ⟨hl, Or.inr ⟨g, cap, cur, hv, Nat.le_trans hb hg, hr⟩⟩
theorem app_ints {wb W : World} {a : Option Addr} {c gb : Nat} {ws : List Int} {x : Int} (hown : W.ownsRow wb.heap.size 3 1 (.slice a ws.length c) ws.length (ws.map (Value.int .i64))) (hbl : Below wb.heap.size wb W) (hb : W.heap[gb]? = some (Obj.cells #[.int .i64 x] 3)) (hl : ws.length ≤ 1000) :
    ∃ ra rc V, (Builtin.append_ #[25, 25] 25 #[.slice a ws.length c, .slice (some ⟨gb, 0, none⟩) 1 1]).run Try.prog W = .ok (.slice ra (ws.length + 1) rc) V ∧ Ints V (.slice ra (ws.length + 1) rc) (ws ++ [x]) ∧ Below wb.heap.size wb V := by
  obtain ⟨i1, hi1, hy0, hy1, hy2⟩ := info_parts info3
  have hoth : Oth W (some ⟨gb, 0, none⟩) 1 1 [.int .i64 x] := ⟨fun h => (by cases h), fun _ => ⟨gb, 0, rfl, fun j u hu => by
    rw [Nat.zero_add, tcell_blk hb j]
    simpa using hu⟩⟩
  obtain ⟨ra, rc, V, k1, k2, k3, k4⟩ := append_any (W := W) (base := wb.heap.size) 25 3 i1 _ 1 8 Try.underlying25 hi1 hy0 hy1 hy2 rfl (by decide) (.slice a ws.length c) ws.length _ hown (some ⟨gb, 0, none⟩) 1 1 [.int .i64 x] (by simp) hoth (by intro u hu; simp at hu; subst hu; rfl) (by omega) (by omega) hbl.size
  refine ⟨ra, rc, V, k1, ?_, ?_⟩
  · have e : ws.map (Value.int .i64) ++ [.int .i64 x] = (ws ++ [x]).map (Value.int .i64) := by simp
    rw [e] at k2
    have := ints_of_own (l := ws ++ [x]) (w := V) (base := wb.heap.size) (v := .slice ra (ws.length + 1) rc) (by rw [List.length_append]; exact k2) (by simp; omega)
    exact this
  · exact hbl.trans ⟨k3.os, k3.tape, k3.output, k3.size, fun j hj => k3.block j (by have := hbl.size; omega) fun e => by have := own_ge hown j e.symm; omega⟩
end Go.Proofs.Ytmcmidfpglhnmab
