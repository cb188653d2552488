/-
  What is held while the document's facts are being made; a copy of a row of sets. No function is walked here.
-/
import Derived.Test.YtdclhkjhbippdaaFcRefMath
import Derived.Maps.AppendAt
namespace Go.Proofs.Ytdclhkjhbippdaa
open Go.RowKit
open Cg

structure AF (w : World) (g rc : Nat) (t : Int) (n : Nat) (pv : Value) (ps : List Pd) (be bf bw br bm cf : Nat) (E : Nat → Bool) (F V : Nat → Wd) (R M : Nat → Bool) (W : World) : Prop where
  bl : Below w.heap.size w W
  gr : W.rowIs g 24 3 (fun i => if i = 0 then .int .i64 t else if i = 1 then .int .i64 (n : Int) else pv)
  rr : W.rowIs rc 55 5 (fun _ => .slice none 0 0)
  f : W.rowIs cf 55 5 (fv (.slice (some ⟨be, 0, none⟩) n n) (.slice (some ⟨bf, 0, none⟩) n n) (.slice (some ⟨bw, 0, none⟩) n n) (.slice (some ⟨br, 0, none⟩) n n) (.slice (some ⟨bm, 0, none⟩) n n))
  e : Rb W be n E
  fi : Rw W bf n F
  v : Rw W bw n V
  r : Rb W br n R
  m : Rb W bm n M
  ne : be ≠ br ∧ be ≠ bm ∧ br ≠ bm ∧ bf ≠ bw
  ge : w.heap.size ≤ be ∧ w.heap.size ≤ bf ∧ w.heap.size ≤ bw ∧ w.heap.size ≤ br ∧ w.heap.size ≤ bm
  pd : Pds w pv ps
theorem AF.next {w : World} {g rc : Nat} {t : Int} {n : Nat} {pv : Value} {ps : List Pd} {be bf bw br bm cf : Nat} {E : Nat → Bool} {F V : Nat → Wd} {R M : Nat → Bool} {W W' : World} (h : AF w g rc t n pv ps be bf bw br bm cf E F V R M W) (hb : Below W.heap.size W W') : AF w g rc t n pv ps be bf bw br bm cf E F V R M W' :=
  ⟨h.bl.trans (hb.mono h.bl.size), h.gr.of_block (hb.block _ h.gr.lt), h.rr.of_block (hb.block _ h.rr.lt), h.f.of_block (hb.block _ h.f.lt), h.e.next hb, h.fi.next hb, h.v.next hb, h.r.next hb, h.m.next hb, h.ne, h.ge, h.pd⟩
theorem AF.putE {w : World} {g rc : Nat} {t : Int} {n : Nat} {pv : Value} {ps : List Pd} {be bf bw br bm cf : Nat} {E : Nat → Bool} {F V : Nat → Wd} {R M : Nat → Bool} {W W' : World} {E' : Nat → Bool} (h : AF w g rc t n pv ps be bf bw br bm cf E F V R M W) (hf : Fm (fun k => k = be) W W') (hr : Rb W' be n E') : AF w g rc t n pv ps be bf bw br bm cf E' F V R M W' :=
  ⟨h.bl.trans (hf.below h.bl.size fun k hk => by have := h.ge; omega), h.gr.of_block (hf.block _ h.gr.lt (row_ne h.gr h.e (by decide))), h.rr.of_block (hf.block _ h.rr.lt (row_ne h.rr h.e (by decide))), h.f.of_block (hf.block _ h.f.lt (row_ne h.f h.e (by decide))), hr, h.fi.of (hf.block _ h.fi.lt (row_ne h.fi h.e (by decide))), h.v.of (hf.block _ h.v.lt (row_ne h.v h.e (by decide))), h.r.of (hf.block _ h.r.lt (by have := h.ne; omega)), h.m.of (hf.block _ h.m.lt (by have := h.ne; omega)), h.ne, h.ge, h.pd⟩
theorem AF.putF {w : World} {g rc : Nat} {t : Int} {n : Nat} {pv : Value} {ps : List Pd} {be bf bw br bm cf : Nat} {E : Nat → Bool} {F V : Nat → Wd} {R M : Nat → Bool} {W W' : World} {F' : Nat → Wd} (h : AF w g rc t n pv ps be bf bw br bm cf E F V R M W) (hf : Fm (fun k => k = bf) W W') (hr : Rw W' bf n F') : AF w g rc t n pv ps be bf bw br bm cf E F' V R M W' :=
  ⟨h.bl.trans (hf.below h.bl.size fun k hk => by have := h.ge; omega), h.gr.of_block (hf.block _ h.gr.lt (row_ne h.gr h.fi (by decide))), h.rr.of_block (hf.block _ h.rr.lt (row_ne h.rr h.fi (by decide))), h.f.of_block (hf.block _ h.f.lt (row_ne h.f h.fi (by decide))), h.e.of (hf.block _ h.e.lt (row_ne h.e h.fi (by decide))), hr, h.v.of (hf.block _ h.v.lt (by have := h.ne; omega)), h.r.of (hf.block _ h.r.lt (row_ne h.r h.fi (by decide))), h.m.of (hf.block _ h.m.lt (row_ne h.m h.fi (by decide))), h.ne, h.ge, h.pd⟩
theorem AF.putV {w : World} {g rc : Nat} {t : Int} {n : Nat} {pv : Value} {ps : List Pd} {be bf bw br bm cf : Nat} {E : Nat → Bool} {F V : Nat → Wd} {R M : Nat → Bool} {W W' : World} {V' : Nat → Wd} (h : AF w g rc t n pv ps be bf bw br bm cf E F V R M W) (hf : Fm (fun k => k = bw) W W') (hr : Rw W' bw n V') : AF w g rc t n pv ps be bf bw br bm cf E F V' R M W' :=
  ⟨h.bl.trans (hf.below h.bl.size fun k hk => by have := h.ge; omega), h.gr.of_block (hf.block _ h.gr.lt (row_ne h.gr h.v (by decide))), h.rr.of_block (hf.block _ h.rr.lt (row_ne h.rr h.v (by decide))), h.f.of_block (hf.block _ h.f.lt (row_ne h.f h.v (by decide))), h.e.of (hf.block _ h.e.lt (row_ne h.e h.v (by decide))), h.fi.of (hf.block _ h.fi.lt (by have := h.ne; omega)), hr, h.r.of (hf.block _ h.r.lt (row_ne h.r h.v (by decide))), h.m.of (hf.block _ h.m.lt (row_ne h.m h.v (by decide))), h.ne, h.ge, h.pd⟩
theorem AF.putR {w : World} {g rc : Nat} {t : Int} {n : Nat} {pv : Value} {ps : List Pd} {be bf bw br bm cf : Nat} {E : Nat → Bool} {F V : Nat → Wd} {R M : Nat → Bool} {W W' : World} {R' : Nat → Bool} (h : AF w g rc t n pv ps be bf bw br bm cf E F V R M W) (hf : Fm (fun k => k = br) W W') (hr : Rb W' br n R') : AF w g rc t n pv ps be bf bw br bm cf E F V R' M W' :=
  ⟨h.bl.trans (hf.below h.bl.size fun k hk => by have := h.ge; omega), h.gr.of_block (hf.block _ h.gr.lt (row_ne h.gr h.r (by decide))), h.rr.of_block (hf.block _ h.rr.lt (row_ne h.rr h.r (by decide))), h.f.of_block (hf.block _ h.f.lt (row_ne h.f h.r (by decide))), h.e.of (hf.block _ h.e.lt (by have := h.ne; omega)), h.fi.of (hf.block _ h.fi.lt (row_ne h.fi h.r (by decide))), h.v.of (hf.block _ h.v.lt (row_ne h.v h.r (by decide))), hr, h.m.of (hf.block _ h.m.lt (by have := h.ne; omega)), h.ne, h.ge, h.pd⟩
theorem AF.putM {w : World} {g rc : Nat} {t : Int} {n : Nat} {pv : Value} {ps : List Pd} {be bf bw br bm cf : Nat} {E : Nat → Bool} {F V : Nat → Wd} {R M : Nat → Bool} {W W' : World} {M' : Nat → Bool} (h : AF w g rc t n pv ps be bf bw br bm cf E F V R M W) (hf : Fm (fun k => k = bm) W W') (hr : Rb W' bm n M') : AF w g rc t n pv ps be bf bw br bm cf E F V R M' W' :=
  ⟨h.bl.trans (hf.below h.bl.size fun k hk => by have := h.ge; omega), h.gr.of_block (hf.block _ h.gr.lt (row_ne h.gr h.m (by decide))), h.rr.of_block (hf.block _ h.rr.lt (row_ne h.rr h.m (by decide))), h.f.of_block (hf.block _ h.f.lt (row_ne h.f h.m (by decide))), h.e.of (hf.block _ h.e.lt (by have := h.ne; omega)), h.fi.of (hf.block _ h.fi.lt (row_ne h.fi h.m (by decide))), h.v.of (hf.block _ h.v.lt (row_ne h.v h.m (by decide))), h.r.of (hf.block _ h.r.lt (by have := h.ne; omega)), hr, h.ne, h.ge, h.pd⟩
theorem AF.g0 {w : World} {g rc : Nat} {t : Int} {n : Nat} {pv : Value} {ps : List Pd} {be bf bw br bm cf : Nat} {E : Nat → Bool} {F V : Nat → Wd} {R M : Nat → Bool} {W : World} (h : AF w g rc t n pv ps be bf bw br bm cf E F V R M W) : W.cell? ⟨g, 0, none⟩ = some (.int .i64 t) := h.gr.cell (i := 0) (by omega)
theorem AF.g1 {w : World} {g rc : Nat} {t : Int} {n : Nat} {pv : Value} {ps : List Pd} {be bf bw br bm cf : Nat} {E : Nat → Bool} {F V : Nat → Wd} {R M : Nat → Bool} {W : World} (h : AF w g rc t n pv ps be bf bw br bm cf E F V R M W) : W.cell? ⟨g, 1, none⟩ = some (.int .i64 (n : Int)) := h.gr.cell (i := 1) (by omega)
theorem AF.g2 {w : World} {g rc : Nat} {t : Int} {n : Nat} {pv : Value} {ps : List Pd} {be bf bw br bm cf : Nat} {E : Nat → Bool} {F V : Nat → Wd} {R M : Nat → Bool} {W : World} (h : AF w g rc t n pv ps be bf bw br bm cf E F V R M W) : W.cell? ⟨g, 2, none⟩ = some pv := h.gr.cell (i := 2) (by omega)
theorem AF.f0 {w : World} {g rc : Nat} {t : Int} {n : Nat} {pv : Value} {ps : List Pd} {be bf bw br bm cf : Nat} {E : Nat → Bool} {F V : Nat → Wd} {R M : Nat → Bool} {W : World} (h : AF w g rc t n pv ps be bf bw br bm cf E F V R M W) : W.cell? ⟨cf, 0, none⟩ = some (.slice (some ⟨be, 0, none⟩) n n) := h.f.cell (i := 0) (by omega)
theorem AF.f1 {w : World} {g rc : Nat} {t : Int} {n : Nat} {pv : Value} {ps : List Pd} {be bf bw br bm cf : Nat} {E : Nat → Bool} {F V : Nat → Wd} {R M : Nat → Bool} {W : World} (h : AF w g rc t n pv ps be bf bw br bm cf E F V R M W) : W.cell? ⟨cf, 1, none⟩ = some (.slice (some ⟨bf, 0, none⟩) n n) := h.f.cell (i := 1) (by omega)
theorem AF.f2 {w : World} {g rc : Nat} {t : Int} {n : Nat} {pv : Value} {ps : List Pd} {be bf bw br bm cf : Nat} {E : Nat → Bool} {F V : Nat → Wd} {R M : Nat → Bool} {W : World} (h : AF w g rc t n pv ps be bf bw br bm cf E F V R M W) : W.cell? ⟨cf, 2, none⟩ = some (.slice (some ⟨bw, 0, none⟩) n n) := h.f.cell (i := 2) (by omega)
theorem AF.f3 {w : World} {g rc : Nat} {t : Int} {n : Nat} {pv : Value} {ps : List Pd} {be bf bw br bm cf : Nat} {E : Nat → Bool} {F V : Nat → Wd} {R M : Nat → Bool} {W : World} (h : AF w g rc t n pv ps be bf bw br bm cf E F V R M W) : W.cell? ⟨cf, 3, none⟩ = some (.slice (some ⟨br, 0, none⟩) n n) := h.f.cell (i := 3) (by omega)
theorem AF.f4 {w : World} {g rc : Nat} {t : Int} {n : Nat} {pv : Value} {ps : List Pd} {be bf bw br bm cf : Nat} {E : Nat → Bool} {F V : Nat → Wd} {R M : Nat → Bool} {W : World} (h : AF w g rc t n pv ps be bf bw br bm cf E F V R M W) : W.cell? ⟨cf, 4, none⟩ = some (.slice (some ⟨bm, 0, none⟩) n n) := h.f.cell (i := 4) (by omega)
theorem AF.other {w : World} {g rc : Nat} {t : Int} {n : Nat} {pv : Value} {ps : List Pd} {be bf bw br bm cf : Nat} {E : Nat → Bool} {F V : Nat → Wd} {R M : Nat → Bool} {W W' : World} {x : Nat} (h : AF w g rc t n pv ps be bf bw br bm cf E F V R M W) (hf : Fm (fun k => k = x) W W') (h1 : be ≠ x) (h2 : bf ≠ x) (h3 : bw ≠ x) (h4 : br ≠ x) (h5 : bm ≠ x) (h6 : cf ≠ x) (h7 : g ≠ x) (h8 : rc ≠ x) (h9 : w.heap.size ≤ x) : AF w g rc t n pv ps be bf bw br bm cf E F V R M W' :=
  ⟨h.bl.trans (hf.below h.bl.size fun k hk => by omega), h.gr.of_block (hf.block _ h.gr.lt h7), h.rr.of_block (hf.block _ h.rr.lt h8), h.f.of_block (hf.block _ h.f.lt h6), h.e.of (hf.block _ h.e.lt h1), h.fi.of (hf.block _ h.fi.lt h2), h.v.of (hf.block _ h.v.lt h3), h.r.of (hf.block _ h.r.lt h4), h.m.of (hf.block _ h.m.lt h5), h.ne, h.ge, h.pd⟩
/-- While First is being made: u terminals are done. -/
def TG (w : World) (T : Nat) (t : Int) (n : Nat) (pv : Value) (ps : List Pd) (be bf bw br bm cf cm : Nat) (E : Nat → Bool) (V : Nat → Wd) (R M : Nat → Bool) (v : Value) (W : World) (m : Nat) : Prop :=
  ∃ ct u F, v = .pointer (some ⟨ct, 0, none⟩) ∧ u ≤ T ∧ m = T - u ∧ AF w w.heap.size (w.heap.size + 1) t n pv ps be bf bw br bm cf E F V R M W ∧ W.rowIs cm 68 1 (fun _ => .func (.func 27) #[] #[.pointer (some ⟨cf, 0, none⟩)]) ∧ W.rowIs ct 3 1 (fun _ => .int .i64 (u : Int)) ∧ FQ ps M E u 0 F
/-- While Follow is being made: what it was at the last round's beginning. -/
def WG (w : World) (t : Int) (n : Nat) (pv : Value) (ps : List Pd) (be bf bw br bm cf : Nat) (E : Nat → Bool) (F : Nat → Wd) (R M : Nat → Bool) (v : Value) (W : World) (m : Nat) : Prop :=
  ∃ V, AF w w.heap.size (w.heap.size + 1) t n pv ps be bf bw br bm cf E F V R M W ∧ SnW ps E F V ∧ le endW (V 0) ∧
    ((v = .slice none 0 0 ∧ m = muW n V + 1) ∨ ∃ gc cc W0, v = .slice (some ⟨gc, 0, none⟩) n cc ∧ (∀ i, i < n → W.cell? ⟨gc, i, none⟩ = some (.int .u64 ((W0 i).toNat : Int))) ∧ m = muW n W0 ∧ WI ps E F W0 ps.length 0 V)
theorem info_parts {t : TypeId} {z : Value} {sz by_ : Nat} (h : (Try.prog.info? t).map (fun i => (i.zero, i.size, i.bytes)) = some (some z, sz, by_)) : ∃ i, Try.prog.info? t = some i ∧ i.zero = some z ∧ i.size = sz ∧ i.bytes = by_ := by
  cases hi : Try.prog.info? t with
  | none => rw [hi] at h; cases h
  | some i =>
    rw [hi] at h
    simp only [Option.map_some, Option.some.injEq, Prod.mk.injEq] at h
    exact ⟨i, rfl, h.1, h.2.1, h.2.2⟩
theorem wpList_append_run2 {P : Program} {ops : Array Oper} {rest : List Oper} {o : Oper} {a : Act} {Q : Exit → Act → World → Prop} {W W1 : World} {v : Value} (hgd : o.guard = none) (s x : Operand) (t : TypeId)
    (ho : o.op = .call { callee := .builtin .append, args := #[s, x], argTypes := #[t, t] }) (sv xv : Value)
    (hs : a.eval s = sv) (hx : a.eval x = xv) (hr : (Builtin.append_ #[t, t] o.type #[sv, xv]).run P W = .ok v W1) (h : wpList P ops Q rest (a.put o.dst v) W1) : wpList P ops Q (o :: rest) a W :=
  wpList_plain hgd fun _ hK => by
    unfold Oper.wp execOp
    simp only [ho, resolve, invoke, builtin, Sem.run_bind, Sem.run_pure, Result.andThen_ok, List.map_toArray, List.map_cons, List.map_nil, hs, hx, hr]
    exact hK _ _ h
/-- A copy of a row of sets. -/
theorem copy_row {n b : Nat} {F : Nat → Wd} {w : World} (h : Rw w b n F) (hn1 : 1 ≤ n) (hn2 : n ≤ 20) :
    ∃ g c w', (Builtin.append_ #[41, 41] 41 #[.slice none 0 0, .slice (some ⟨b, 0, none⟩) n n]).run Try.prog w = .ok (.slice (some ⟨g, 0, none⟩) n c) w' ∧ (∀ i, i < n → w'.cell? ⟨g, i, none⟩ = some (.int .u64 ((F i).toNat : Int))) ∧ w.heap.size ≤ g ∧ g < w'.heap.size ∧ Below w.heap.size w w' := by
  obtain ⟨i58, a1, a2, a3, a4⟩ := info_parts info58
  have hcl : ∀ j u, ((List.range n).map (fun i => Value.int .u64 ((F i).toNat : Int)))[j]? = some u → w.cell? ((⟨b, 0, none⟩ : Addr).add j) = some u := fun j u hj => by
    simp only [List.getElem?_map, Option.map_eq_some_iff] at hj
    obtain ⟨x, hx, rfl⟩ := hj
    obtain ⟨hj2, rfl⟩ := List.getElem?_eq_some_iff.1 hx
    simp only [List.length_range] at hj2
    rw [Go.WideShapes.add_plain, Nat.zero_add, List.getElem_range]
    exact h.cell hj2
  obtain ⟨v', w', hr, h2, h3, -, h5⟩ := run_append_own_at (P := Try.prog) w w.heap.size 41 41 58 i58 _ 1 8 Try.underlying41 a1 a2 a3 a4 rfl (by omega) (.slice none 0 0) 0 [] (World.ownsRow_nil _ _ _ _) ⟨b, 0, none⟩ n n ((List.range n).map (fun i => Value.int .u64 ((F i).toNat : Int))) (by simp) hcl (by intro u hu; simp at hu; obtain ⟨x, -, rfl⟩ := hu; rfl) (by unfold maxLen; omega) (by omega) (Nat.le_refl _)
  obtain ⟨hl, ⟨_, hz⟩ | ⟨g, cap, cur, hv, hg, hh, hn, hc, hs, ht⟩⟩ := h2
  · omega
  · rw [Nat.zero_add] at hv
    subst hv
    refine ⟨g, cap, w', hr, fun i hi => ?_, hg, ?_, ⟨h3.os, h3.tape, h3.output, h3.size, fun k hk => h3.block k hk (by simp [Value.ownBlock])⟩⟩
    · have e : w'.cell? ⟨g, i, none⟩ = cur[i]? := by simp [World.cell?, hh]
      rw [e]
      have h6 : (cur.toList.take ((0 + n) * 1))[i]? = ((List.range n).map (fun i => Value.int .u64 ((F i).toNat : Int)))[i]? := by rw [ht]; rfl
      rw [List.getElem?_take_of_lt (by omega)] at h6
      rw [← Array.getElem?_toList, h6]
      simp [hi]
    · rcases Nat.lt_or_ge g w'.heap.size with h' | h'
      · exact h'
      · simp [Array.getElem?_eq_none h'] at hh
end Go.Proofs.Ytdclhkjhbippdaa
