/-
  The contract of pushref.Dfa.
-/
import Derived.Test.YtlmlkpdppkgenaaDrHold
import Derived.Shelf.Abstract
namespace Go.Proofs.Ytlmlkpdppkgenaa
open Go.RowKit
open Cls Po Dm
open Df (rl rl_length rl_at rl_one size35)

theorem bh_behind {p : P} (h : ok p = true) (hn : p.cls.length ≤ 200) {c : Cl} {l : List Int} (hl : ∀ x ∈ l, 0 ≤ x ∧ x < (p.cls.length : Int)) (hs : ∀ y, y < 256 → mem c y = l.contains (y : Int)) {y : Nat} (hy : y < 256) : mem (bh p c) y = behindB p l y := by
  obtain ⟨-, hf, -, -, -, -, -, h1⟩ := (ok_iff p).1 h
  rw [Bool.eq_iff_iff, mem_bh h1 hn c hy]
  unfold behindB
  rw [List.any_eq_true]
  constructor
  · rintro ⟨x, hx, g1, g2⟩
    rw [hs x (by omega), List.contains_iff_mem] at g1
    exact ⟨(x : Int), g1, by simpa using g2⟩
  · rintro ⟨x, hx, g⟩
    have := hl x hx
    refine ⟨x.toNat, by omega, ?_, g⟩
    rw [hs x.toNat (by omega), List.contains_iff_mem, show ((x.toNat : Nat) : Int) = x by omega]; exact hx
theorem sel_same {p : P} {c : Cl} (hb : Bd p c) (y : Nat) (hy : y < 256) : mem c y = (sel p.cls.length (mem c)).contains (y : Int) := by
  rw [sel_has]
  cases h : mem c y
  · simp
  · simp [hb y hy h]
theorem to_list {p : P} (hn : p.cls.length ≤ 200) (c : Cl) (b : Nat) : sel p.cls.length (fun y => mem c y && hasAt p b (y : Int)) = sel p.cls.length (mem (meet c (hv p b))) := sel_congr fun y hy => by
  rw [mem_meet, mem_hv hn _ (by omega)]
theorem rl_mem' (f : Nat → Int) : ∀ u ∈ rl f, u.oneCell' = true := rl_mem f
/-- Numbers stay where only a row of truth values changes. -/
theorem Ints.far {W W' : World} {v : Value} {l : List Int} {ab n : Nat} {F : Nat → Bool} (h : Ints W v l) (hr : W.rowIs ab 4 n (fun i => .bool (F i))) (hg : W.grownBy W' (some ab)) : Ints W' v l := by
  obtain ⟨ao, cap, rfl, hm, h | ⟨b, o, rfl, h2, h3⟩⟩ := h
  · exact ⟨ao, cap, rfl, hm, Or.inl h⟩
  · by_cases h0 : l.length = 0
    · exact ⟨_, cap, rfl, hm, Or.inl (List.length_eq_zero_iff.1 h0)⟩
    · have hne : b ≠ ab := by
        rintro rfl
        have e0 := h3 0 (by omega)
        have hr2 := hr
        obtain ⟨c, hc, hsz, -⟩ := hr2
        have e1 : W.cell? ⟨b, o + 0, none⟩ = c[o + 0]? := by simp [World.cell?, hc]
        rw [e1] at e0
        have hlt := (Array.getElem?_eq_some_iff.1 e0).1
        have e2 := hr.cell (i := o + 0) (by omega)
        rw [e1, e0] at e2; cases e2
      exact ⟨_, cap, rfl, hm, Or.inr ⟨b, o, rfl, Nat.lt_of_lt_of_le h2 hg.size, fun i hi => (hg.cell_far ⟨b, o + i, none⟩ h2 (by simpa using hne)).trans (h3 i hi)⟩⟩
/-- What the loop over bytes holds. -/
structure Rb (w1 : World) (B : Nat) (p : P) (n : Nat) (c : Cl) (rbk ab xb n0 b : Nat) (S U : List Cl) (gs sc : Nat) (ro : Option Addr) (rc gt tc : Nat) (V : Nat → Value) (W : World) : Prop where
  rd : Rd w1 B B p S U n gs sc ro rc gt tc V W
  rr : ∃ f, W.rowIs rbk 72 256 f ∧ ∀ j, j < b → f j = .int .i16 (rA p n j)
  al : W.rowIs ab 4 n0 (fun x => .bool (mem c x))
  xc : W.rowIs xb 25 1 (fun _ => .slice (some ⟨ab, 0, none⟩) n0 n0)
  nr : (Value.slice ro n rc).ownBlock ≠ some rbk ∧ B ≤ rbk
section
variable {w1 W W' : World} {B n rbk ab xb n0 b gs sc rc gt tc : Nat} {p : P} {c : Cl} {S U : List Cl} {ro : Option Addr} {V : Nat → Value}
theorem Rb.next (h : Rb w1 B p n c rbk ab xb n0 b S U gs sc ro rc gt tc V W) (hb : Below W.heap.size W W') : Rb w1 B p n c rbk ab xb n0 b S U gs sc ro rc gt tc V W' := by
  obtain ⟨f, h1, h2⟩ := h.rr
  exact ⟨h.rd.next hb, ⟨f, h1.of_block (hb.block _ h1.lt), h2⟩, h.al.of_block (hb.block _ h.al.lt), h.xc.of_block (hb.block _ h.xc.lt), h.nr⟩
theorem Rb.drew (h : Rb w1 B p n c rbk ab xb n0 b S U gs sc ro rc gt tc V W) : Rb w1 B p n c rbk ab xb n0 b S U gs sc ro rc gt tc V W.drew := h.next (Below.refl _ _).drew
/-- A store into the row. -/
theorem Rb.set (h : Rb w1 B p n c rbk ab xb n0 b S U gs sc ro rc gt tc V W) (z : Int) : Rb w1 B p n c rbk ab xb n0 b S U gs sc ro rc gt tc V (W.setCell ⟨rbk, b, none⟩ (.int .i16 z)) ∧ (z = rA p n b → Rb w1 B p n c rbk ab xb n0 (b + 1) S U gs sc ro rc gt tc V (W.setCell ⟨rbk, b, none⟩ (.int .i16 z))) := by
  obtain ⟨f, h1, h2⟩ := h.rr
  have k1 : Kt 72 W (W.setCell ⟨rbk, b, none⟩ (.int .i16 z)) := Kt.set (row_ty h1)
  have hr := h.rd.setr (j := b) (v := .int .i16 z) h1 h.nr.2 h.nr.1
  refine ⟨⟨hr, ⟨_, h1.set b _, fun j hj => by rw [if_neg (by omega)]; exact h2 j hj⟩, k1.row (by decide) h.al, k1.row (by decide) h.xc, h.nr⟩, fun hz => ⟨hr, ⟨_, h1.set b _, fun j hj => ?_⟩, k1.row (by decide) h.al, k1.row (by decide) h.xc, h.nr⟩⟩
  by_cases e : j = b
  · rw [if_pos e, e, hz]
  · rw [if_neg e]; exact h2 j (by omega)
theorem Rb.cell (h : Rb w1 B p n c rbk ab xb n0 b S U gs sc ro rc gt tc V W) (hb : b < 256) : ∃ v, W.cell? ⟨rbk, b, none⟩ = some v ∧ W.frozen? ⟨rbk, b, none⟩ = false := by
  obtain ⟨f, h1, h2⟩ := h.rr
  exact ⟨_, h1.cell hb, h1.frozen b⟩
theorem Rb.kt {t : TypeId} {S' U' : List Cl} {gs' sc' gt' tc' : Nat} {V' : Nat → Value} (h : Rb w1 B p n c rbk ab xb n0 b S U gs sc ro rc gt tc V W) (hk : Kt t W W') (h72 : t ≠ 72) (h4 : t ≠ 4) (h25 : t ≠ 25) (hr : Rd w1 B B p S' U' n gs' sc' ro rc gt' tc' V' W') : Rb w1 B p n c rbk ab xb n0 b S' U' gs' sc' ro rc gt' tc' V' W' := by
  obtain ⟨f, h1, h2⟩ := h.rr
  exact ⟨hr, ⟨f, hk.row (Ne.symm h72) h1, h2⟩, hk.row (Ne.symm h4) h.al, hk.row (Ne.symm h25) h.xc, h.nr⟩
end
structure RD34 (w1 : World) (B : Nat) (p : P) (n : Nat) (c : Cl) (rbk ab xb n0 b : Nat) (S : List Cl) (t : Cl) (gs sc : Nat) (ro : Option Addr) (rc gt tc : Nat) (V : Nat → Value) (pb : Nat) (lo : Option Addr) (ln lc : Nat) (tz : Int) (gb : Nat) (gr : Nat) (cr : Nat) (d : Nat → Bool) (x115 x116 x117 x118 x119 x120 x121 x122 : Value) (W : World) : Prop where
  f0 : d 0 = true → x115 = (.pointer (some ⟨B, 1, none⟩))
  f1 : d 1 = true → x116 = (.slice (some ⟨gt, 0, none⟩) S.length tc)
  f2 : d 2 = true → x117 = (.func (Fn.func 34) #[] #[.pointer (some ⟨pb, 0, none⟩)])
  f3 : d 3 = true → x118 = (.slice lo ln lc)
  f4 : d 4 = true → x119 = (.int .i64 tz)
  f5 : d 5 = true → x120 = (.slice (some ⟨gb, 0, none⟩) 1 1)
  f6 : d 6 = true → x121 = (.slice (some ⟨gr, 0, none⟩) (S.length + 1) cr)
  f7 : d 7 = true → x122 = (.pointer (some ⟨B, 1, none⟩))
  f8 : d 8 = true → True
  o5_4 : d 5 = true → d 4 = true
  o6_1 : d 6 = true → d 1 = true
  o6_5 : d 6 = true → d 5 = true
  q8_6 : d 8 = true → d 6 = true
  m0 : d 6 = false → Rb w1 B p n c rbk ab xb n0 b (S ++ [t]) S gs sc ro rc gt tc V W
  bs : d 5 = true → d 6 = false → ∀ j u, ([.int .i64 tz] : List Value)[j]? = some u → W.cell? ⟨gb, j, none⟩ = some u
  th : d 6 = true → d 8 = false → W.rowIs B 30 2 (lv ro rc n gt tc S.length) ∧ Rb w1 B p n c rbk ab xb n0 b (S ++ [t]) (S ++ [t]) gs sc ro rc gr cr V (W.setCell ⟨B, 1, none⟩ (.slice (some ⟨gr, 0, none⟩) (S.length + 1) cr))
  fin : d 8 = true → Rb w1 B p n c rbk ab xb n0 b (S ++ [t]) (S ++ [t]) gs sc ro rc gr cr V W
structure RD16 (w8 : World) (ab xb pb n0 n3 c3 o3 k3 cf of fl fc k y : Nat) (uo : Option Addr) (ul uc : Nat) (F : Nat → Bool) (l9 : List Int) (d : Nat → Bool) (x50 x51 x52 x53 x54 x55 x56 x57 x58 x59 : Value) (W : World) : Prop where
  f0 : d 0 = true → x50 = (.func (Fn.func 35) #[] #[.pointer (some ⟨xb, 0, none⟩)])
  f1 : d 1 = true → x51 = (.pointer (some ⟨pb, 3, none⟩))
  f2 : d 2 = true → x52 = (.slice (some ⟨c3, o3, none⟩) n3 k3)
  f3 : d 3 = true → x53 = (.slice (some ⟨cf, of, none⟩) fl fc)
  f4 : d 4 = true → x54 = (.int .i64 (k : Int))
  f5 : d 5 = true → x55 = (.pointer (some ⟨cf, of + k, none⟩))
  f6 : d 6 = true → x56 = (.int .i64 (y : Int))
  f7 : d 7 = true → x57 = (.pointer (some ⟨c3, o3 + y, none⟩))
  f8 : d 8 = true → x58 = (.slice uo ul uc)
  f9 : d 9 = true → x59 = (.tuple #[])
  gb : w8.grownBy W (some ab)
  r0 : d 9 = false → W.rowIs ab 4 n0 (fun i => .bool (F i))
  r1 : d 9 = true → W.rowIs ab 4 n0 (fun i => .bool (F i || l9.contains (i : Int)))
end Go.Proofs.Ytlmlkpdppkgenaa
