/-
  The text of a grammar, plainly: how it is written (text), and how it is read, line by line (readR). What is written is read as it was; what is read was written so.
-/
import Derived.Test.YtgoafahglajfmaaDoorMath
import Derived.Lib.ItoaNum
import Derived.Lib.SplitLaws
import Derived.Lib.IndexBytes
namespace Go.Proofs.YtgoafahglajfmaaDoor
namespace Cg
open Go.Lib (decDigits)

/-! Pieces of a text. -/
def sp (c : UInt8) : List UInt8 → List (List UInt8)
  | [] => [[]]
  | b :: l => if b = c then [] :: sp c l else match sp c l with
    | h :: t => (b :: h) :: t
    | [] => [[b]]
theorem sp_ne (c : UInt8) (l : List UInt8) : sp c l ≠ [] := by
  cases l with
  | nil => simp [sp]
  | cons b l => unfold sp; split; · simp
                split <;> simp
def joinC (c : UInt8) : List (List UInt8) → List UInt8
  | [] => []
  | [p] => p
  | p :: q :: r => p ++ c :: joinC c (q :: r)
theorem join_sp (c : UInt8) : ∀ l, joinC c (sp c l) = l
  | [] => rfl
  | b :: l => by
    have ih := join_sp c l
    unfold sp
    split
    · rename_i h
      subst h
      cases hs : sp b l with
      | nil => exact absurd hs (sp_ne b l)
      | cons h t => rw [hs] at ih; unfold joinC; rw [ih]; rfl
    · cases hs : sp c l with
      | nil => exact absurd hs (sp_ne c l)
      | cons h t =>
        rw [hs] at ih
        simp only
        cases t with
        | nil => simp only [joinC] at ih ⊢; rw [ih]
        | cons q r => simp only [joinC] at ih ⊢; rw [← ih]; rfl
theorem sp_free (c : UInt8) : ∀ l, ∀ p ∈ sp c l, c ∉ p
  | [], p, hp => by simp [sp] at hp; subst hp; simp
  | b :: l, p, hp => by
    have ih := sp_free c l
    unfold sp at hp
    split at hp
    · rcases List.mem_cons.1 hp with rfl | hp
      · simp
      · exact ih p hp
    · rename_i hbc
      cases hs : sp c l with
      | nil => exact absurd hs (sp_ne c l)
      | cons h t =>
        rw [hs] at hp ih
        simp only at hp
        rcases List.mem_cons.1 hp with rfl | hp
        · have := ih h (by simp)
          simp only [List.mem_cons, not_or]
          exact ⟨fun e => hbc e.symm, this⟩
        · exact ih p (by simp [hp])
theorem sp_cons {c b : UInt8} (h : b ≠ c) {l h' : List UInt8} {t : List (List UInt8)} (e : sp c l = h' :: t) : sp c (b :: l) = (b :: h') :: t := by rw [sp, if_neg h, e]
theorem sp_app (c : UInt8) : ∀ (p l : List UInt8), c ∉ p → sp c (p ++ c :: l) = p :: sp c l
  | [], l, _ => by simp [sp]
  | b :: p, l, h => by
    have hb : b ≠ c := fun e => h (by simp [e])
    have ih := sp_app c p l (fun e => h (by simp [e]))
    exact sp_cons hb ih
theorem sp_one (c : UInt8) : ∀ (p : List UInt8), c ∉ p → sp c p = [p]
  | [], _ => rfl
  | b :: p, h => by
    have hb : b ≠ c := fun e => h (by simp [e])
    exact sp_cons hb (sp_one c p (fun e => h (by simp [e])))
/-- What is ahead of the first c, what is behind it, is there one. -/
def cutC (c : UInt8) (l : List UInt8) : List UInt8 × List UInt8 × Bool := match sp c l with
  | [] => ([], [], false)
  | [p] => (p, [], false)
  | p :: q :: r => (p, joinC c (q :: r), true)
theorem cutC_cons_ne {c b : UInt8} (h : b ≠ c) (l : List UInt8) : cutC c (b :: l) = (b :: (cutC c l).1, (cutC c l).2) := by
  unfold cutC
  rw [sp, if_neg h]
  cases hs : sp c l with
  | nil => exact absurd hs (sp_ne c l)
  | cons h t => cases t <;> rfl
theorem cutC_cons_eq (c : UInt8) (l : List UInt8) : cutC c (c :: l) = ([], l, true) := by
  unfold cutC
  rw [sp, if_pos rfl]
  cases hs : sp c l with
  | nil => exact absurd hs (sp_ne c l)
  | cons h t => simp only; rw [← hs, join_sp]
theorem cut_is (c : UInt8) : ∀ l, Go.Lib.cut l [c] = cutC c l
  | [] => by simp [Go.Lib.cut, Go.Lib.index, cutC, sp]
  | b :: l => by
    have ih := cut_is c l
    by_cases h : b = c
    · subst h
      rw [cutC_cons_eq]
      simp [Go.Lib.cut, Go.Lib.index, List.isPrefixOf]
    · rw [cutC_cons_ne h, ← ih]
      have hp : ([c] : List UInt8).isPrefixOf (b :: l) = false := by simp [List.isPrefixOf, Ne.symm h]
      have hix : Go.Lib.index (b :: l) [c] = if Go.Lib.index l [c] == -1 then -1 else Go.Lib.index l [c] + 1 := by rw [Go.Lib.index, hp]; simp
      unfold Go.Lib.cut
      by_cases hm : Go.Lib.index l [c] = -1
      · rw [hix, hm]; simp
      · have hge := Go.Lib.index_ge l [c]
        obtain ⟨j, hj⟩ : ∃ j : Nat, Go.Lib.index l [c] = j := ⟨(Go.Lib.index l [c]).toNat, by omega⟩
        have hix' : Go.Lib.index (b :: l) [c] = ((j + 1 : Nat) : Int) := by rw [hix, if_neg (fun e => hm (beq_iff_eq.1 e)), hj]; omega
        rw [hix', hj, if_pos (by omega), if_pos (by omega)]
        simp
theorem splitK_is (c : UInt8) : ∀ l, Go.Lib.splitK [c] 0 (Go.Lib.count l [c]) l = sp c l
  | [] => by simp [Go.Lib.count_miss, Go.Lib.index, Go.Lib.splitK, sp]
  | b :: l => by
    have ih := splitK_is c l
    by_cases h : b = c
    · subst h
      rw [Go.Lib.count_cons_eq, Nat.add_comm, Go.Lib.splitK, sp, if_pos rfl]
      have hix : Go.Lib.index (b :: l) [b] = 0 := by rw [Go.Lib.index]; simp [List.isPrefixOf]
      rw [hix]
      simp [ih]
    · rw [Go.Lib.count_cons_ne b c l h, sp, if_neg h, ← ih]
      have hp : ([c] : List UInt8).isPrefixOf (b :: l) = false := by simp [List.isPrefixOf, Ne.symm h]
      have hix : Go.Lib.index (b :: l) [c] = if Go.Lib.index l [c] == -1 then -1 else Go.Lib.index l [c] + 1 := by rw [Go.Lib.index, hp]; simp
      by_cases hm : Go.Lib.index l [c] = -1
      · rw [Go.Lib.count_miss hm]; rfl
      · have hge := Go.Lib.index_ge l [c]
        obtain ⟨j, hj⟩ : ∃ j : Nat, Go.Lib.index l [c] = j := ⟨(Go.Lib.index l [c]).toNat, by omega⟩
        have hix' : Go.Lib.index (b :: l) [c] = ((j + 1 : Nat) : Int) := by rw [hix, if_neg (fun e => hm (beq_iff_eq.1 e)), hj]; omega
        have hcnt : Go.Lib.count l [c] = 1 + Go.Lib.count (l.drop (j + 1)) [c] := by rw [Go.Lib.count_hit (by simp) hj]; rfl
        rw [hcnt, Nat.add_comm, Go.Lib.splitK, Go.Lib.splitK, hix', hj]
        have b1 : (((j + 1 : Nat) : Int) == -1) = false := by rw [beq_eq_false_iff_ne]; omega
        have b2 : (((j : Nat) : Int) == -1) = false := by rw [beq_eq_false_iff_ne]; omega
        rw [b1, b2]
        simp
/-! Numbers. -/
def isD (b : UInt8) : Bool := decide (48 ≤ b.toNat) && decide (b.toNat ≤ 57)
def val (l : List UInt8) : Nat := l.foldl (fun a b => a * 10 + (b.toNat - 48)) 0
theorem val_snoc (l : List UInt8) (b : UInt8) : val (l ++ [b]) = val l * 10 + (b.toNat - 48) := by simp [val, List.foldl_append]
def headOk (l : List UInt8) : Bool := decide (l ≠ []) && decide (l.length ≤ 9) && !(decide (l.head? = some 48) && decide (1 < l.length))
def numR (l : List UInt8) : Int × Bool := if headOk l = true then (if l.all isD = true then ((val l : Int), true) else (0, false)) else (0, false)
theorem val_take (l : List UInt8) (k : Nat) (hk : k < l.length) : val (l.take (k + 1)) = val (l.take k) * 10 + (l[k].toNat - 48) := by
  rw [List.take_succ_eq_append_getElem hk, val_snoc]
theorem val_lt (l : List UInt8) (h : l.all isD = true) : ∀ k, k ≤ l.length → val (l.take k) < 10 ^ k := by
  intro k
  induction k with
  | zero => intro _; simp [val]
  | succ k ih =>
    intro hk
    have h1 := ih (by omega)
    have h2 := List.all_eq_true.1 h l[k] (List.getElem_mem _)
    unfold isD at h2
    simp at h2
    rw [val_take l k (by omega), Nat.pow_succ]
    omega
/-! Symbols, bodies, productions. -/
def symR (l : List UInt8) : Sy × Bool := match l with
  | [] => ((0, 0), false)
  | k :: d => if k = 116 then ((1, (numR d).1), (numR d).2) else if k = 110 then ((2, (numR d).1), (numR d).2) else ((0, 0), false)
def bodyR (l : List UInt8) : List Sy × Bool := match sp 32 l with
  | [] => ([], false)
  | p :: ps => if p = [] then (if ps.all (fun q => (symR q).2) = true then (ps.map fun q => (symR q).1, true) else ([], false)) else ([], false)
def prodR (l : List UInt8) : Pd × Bool := if (cutC 58 l).2.2 = true ∧ (numR (cutC 58 l).1).2 = true then (((numR (cutC 58 l).1).1, (bodyR (cutC 58 l).2.1).1), (bodyR (cutC 58 l).2.1).2) else ((0, []), false)
def countsR (l : List UInt8) : (Int × Int) × Bool := (((numR (cutC 32 l).1).1, (numR (cutC 32 l).2.1).1), (numR (cutC 32 l).1).2 && (numR (cutC 32 l).2.1).2)
/-! The whole text. -/
structure St where
  t : Int
  n : Int
  ps : List Pd
def addR (k : Nat) (g : St) (l : List UInt8) : St × Bool := if k = 1 then (⟨(countsR l).1.1, (countsR l).1.2, g.ps⟩, (countsR l).2) else (⟨g.t, g.n, g.ps ++ [(prodR l).1]⟩, (prodR l).2)
/-- Line k on; none: it fails, at the line that is told. -/
def rdR (k : Nat) (g : St) : List (List UInt8) → St × Nat × Bool
  | [] => (g, k, false)
  | [p] => if p = [] ∧ k ≠ 1 then (g, k, true) else (g, k, false)
  | p :: q :: r => if (addR k g p).2 = true then rdR (k + 1) (addR k g p).1 (q :: r) else (g, k, false)
end Cg
end Go.Proofs.YtgoafahglajfmaaDoor
