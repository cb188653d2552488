/-
  The contract of pushkeep.is with its answer named ahead of the call, and the letters that the laws try themselves with.
-/
import Derived.Test.YtdnagboonjcehaaLetter
import Derived.Test.YtdnagboonjcehaaKleene
namespace Go.Proofs.Ytdnagboonjcehaa
open Go.RowKit
open Cls Rex

theorem named (P : Prop) : ∃ b : Bool, b = true ↔ P := by
  by_cases h : P
  · exact ⟨true, (fun _ => h), (fun _ => rfl)⟩
  · exact ⟨false, (fun h' => nomatch h'), (fun h' => absurd h' h)⟩
theorem is_at (t : T) (v : Value) (B : Nat) (s : ByteArray) (w : World) (hx : Rx w B v t) (hBw : B ≤ w.heap.size) (b : Bool) (hb : b = true ↔ bad t s = false ∧ Mt t s) :
    Calls Try.prog 11 #[v, .string s] w fun e' w' => e' = .returned (.tuple #[.bool b, .bool (bad t s)]) ∧ Below w.heap.size w w' :=
  (is_any t v B s w hx hBw).mono fun _ _ ⟨b', h1, h2, h3⟩ => by
    have : b' = b := by rw [Bool.eq_iff_iff, h2, hb]
    rw [this] at h1; exact ⟨h1, h3⟩
/-- A world that is as w was, below w's end. -/
def Sb (w : World) (W : World) : Prop := Below w.heap.size w W
theorem Sb.next {w : World} (W W' : World) (h : Sb w W) (hb : Below W.heap.size W W') : Sb w W' := Below.trans h (hb.mono (Below.size h))
theorem list_loop (b : ByteArray) : ∀ (k i : Nat) (r : List UInt8), b.size - i = k → ByteArray.toList.loop b i r = r.reverse ++ b.data.toList.drop i := by
  intro k
  induction k with
  | zero =>
    intro i r h
    unfold ByteArray.toList.loop
    rw [if_neg (by omega), List.drop_eq_nil_of_le (by simp; omega)]; simp
  | succ k ih =>
    intro i r h
    unfold ByteArray.toList.loop
    rw [if_pos (by omega), ih _ _ (by omega)]
    have h2 : i < b.data.toList.length := by simp; omega
    rw [List.drop_eq_getElem_cons h2]
    have h3 : b.get! i = b.data.toList[i] := by
      have h4 : i < b.data.size := by simpa using h2
      show b.data[i]! = _
      rw [getElem!_pos b.data i h4]; simp
    rw [h3]; simp
theorem list_data (b : ByteArray) : b.toList = b.data.toList := by
  unfold ByteArray.toList
  rw [list_loop b b.size 0 [] (by omega)]; simp
theorem take_of (s : ByteArray) (i : Nat) : (s.extract 0 i).data.toList = s.data.toList.take i := by simp
theorem drop_of (s : ByteArray) (i : Nat) : (s.extract i s.size).data.toList = s.data.toList.drop i := by
  have e : s.data.toList.length = s.size := by rw [Array.length_toList]; rfl
  simp; rw [← e]; exact List.take_of_length_le (by simp)
theorem bad_false {t : T} {s : ByteArray} : bad t s = false ↔ (chk t 1 0).1 = 0 ∧ s.size ≤ 200 := by
  unfold bad err
  simp only [Bool.or_eq_false_iff, decide_eq_false_iff_not, Decidable.not_not, Nat.not_lt]
theorem right_of {t : T} {s : ByteArray} (h : bad t s = false) : ∃ x, Is t x ∧ x.nodes ≤ 100 ∧ x.deep ≤ 30 := (err0_iff t).1 (bad_false.1 h).1
theorem m97 : M (.byte (range 97 97)) [97] := .byte (by rw [show (97 : UInt8).toNat = 97 from rfl, mem_range _ _ _ (by omega)]; rfl)
theorem m98 : M (.byte (range 98 98)) [98] := .byte (by rw [show (98 : UInt8).toNat = 98 from rfl, mem_range _ _ _ (by omega)]; rfl)
theorem is97 : Is (.mk 3 (range 97 97) []) (.byte (range 97 97)) := .byte (letter_ne 97 (by omega))
theorem is98 : Is (.mk 3 (range 98 98) []) (.byte (range 98 98)) := .byte (letter_ne 98 (by omega))
theorem ab_right : bad (.mk 4 empty [.mk 3 (range 97 97) [], .mk 3 (range 98 98) []]) ⟨#[97, 98]⟩ = false ∧ Mt (.mk 4 empty [.mk 3 (range 97 97) [], .mk 3 (range 98 98) []]) ⟨#[97, 98]⟩ := by
  refine ⟨bad_false.2 ⟨(err0_iff _).2 ⟨_, .cat is97 is98, by simp [E.nodes], by simp [E.deep]⟩, by decide⟩, _, .cat is97 is98, ?_⟩
  exact M.cat m97 m98
theorem astar_right : bad (.mk 6 empty [.mk 3 (range 97 97) []]) ⟨#[]⟩ = false ∧ Mt (.mk 6 empty [.mk 3 (range 97 97) []]) ⟨#[]⟩ :=
  ⟨bad_false.2 ⟨(err0_iff _).2 ⟨_, .star is97, by simp [E.nodes], by simp [E.deep]⟩, by decide⟩, _, .star is97, .star0⟩
theorem a_right : (chk (.mk 3 (range 97 97) []) 1 0).1 = 0 := (err0_iff _).2 ⟨_, is97, by simp [E.nodes], by simp [E.deep]⟩
end Go.Proofs.Ytdnagboonjcehaa
