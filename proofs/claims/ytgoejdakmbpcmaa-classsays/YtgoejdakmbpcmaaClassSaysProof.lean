/-
  The law ClassSays holds: for every two classes, every byte and every two numbers the Go text returns true.
-/
import Derived.Test.YtgoejdakmbpcmaaRows
import Derived.WalkKit
import Derived.ProofKit
import Derived.OpenShut
import Derived.ShutString
import Derived.SizedLaws
import Derived.ChangeOld
import Derived.Below
import Derived.Carry
import Derived.WalkLawsBesides
import Derived.WalkSpells
import Derived.Test.YtgoejdakmbpcmaaOpens
import Derived.Laws.IdiomStrings
import Derived.Laws.BytesArg
import Derived.Laws.Concat
import Derived.Test.YtgoejdakmbpcmaaSets
import Derived.Test.YtgoejdakmbpcmaaRanges
import Derived.Test.YtgoejdakmbpcmaaEqs
import Derived.Test.YtgoejdakmbpcmaaKeeps
import Derived.Test.YtgoejdakmbpcmaaCounts
import Derived.Test.YtgoejdakmbpcmaaWheres
namespace Go.Proofs.Ytgoejdakmbpcmaa.classSays
open Go.ChangeShapes Go.WideShapes Go.ChangeAt Go.RowKit
open Go.ChangeMaps (open_string shut_string)
open Cls
set_option linter.unusedVariables false

theorem own : ownKnob Try.prog.godebug = none := by kernel_rfl
theorem laidOut : laidOutB Try.prog = true := by kernel_rfl
/-- What the walk keeps: below the heap's end the world is as w was; two boxes of classes, two of numbers. -/
def S4 (w : World) (b0 b1 b2 b3 : Nat) (c d : Cl) (lo hi : Int) (W : World) : Prop := Below w.heap.size w W ∧ Bx W b0 c ∧ Bx W b1 d ∧ (W.cell? ⟨b2, 0, none⟩ = some (.int .i64 lo)) ∧ (W.cell? ⟨b3, 0, none⟩ = some (.int .i64 hi))
theorem S4.next {w : World} {b0 b1 b2 b3 : Nat} {c d : Cl} {lo hi : Int} (W W' : World) (h : S4 w b0 b1 b2 b3 c d lo hi W) (hb : Below W.heap.size W W') : S4 w b0 b1 b2 b3 c d lo hi W' :=
  ⟨h.1.trans (hb.mono h.1.size), h.2.1.next hb, h.2.2.1.next hb, (hb.cell (World.block_lt_of_cell? W ⟨b2, 0, none⟩ h.2.2.2.1)).trans h.2.2.2.1, (hb.cell (World.block_lt_of_cell? W ⟨b3, 0, none⟩ h.2.2.2.2)).trans h.2.2.2.2⟩
theorem S4.drew {w : World} {b0 b1 b2 b3 : Nat} {c d : Cl} {lo hi : Int} {W : World} (h : S4 w b0 b1 b2 b3 c d lo hi W) : S4 w b0 b1 b2 b3 c d lo hi W.drew := ⟨h.1.drew, h.2⟩
theorem Bx.far {W W' : World} {b : Nat} {c : Cl} (h : Bx W b c) (hb : Below W.heap.size W W') : Bx W' b c := h.next hb

theorem where12 {w : World} {b0 b1 b2 b3 : Nat} {c d : Cl} {lo hi : Int} (W : World) (h : S4 w b0 b1 b2 b3 c d lo hi W) :
    Calls Try.prog 11 #[.func (.func 12) #[] #[.pointer (some ⟨b2, 0, none⟩), .pointer (some ⟨b3, 0, none⟩)]] W fun e w' => e = .returned (.agg #[.int .u64 ((range lo hi).1.toNat : Int), .int .u64 ((range lo hi).2.1.toNat : Int), .int .u64 ((range lo hi).2.2.1.toNat : Int), .int .u64 ((range lo hi).2.2.2.toNat : Int)]) ∧ Below W.heap.size W w' := by
  have e : range lo hi = wher (fun x => decide (lo ≤ (x : Int)) && decide ((x : Int) ≤ hi)) := eq_wher fun b hb => mem_range lo hi b hb
  rw [e]
  refine where_any 12 _ _ W (enters_of Try.func12 (by kernel_rfl) rfl) fun W1 x _ hb => clos12 x lo hi b2 b3 W1 ?_ ?_
  · exact (hb.cell (World.block_lt_of_cell? W ⟨b2, 0, none⟩ h.2.2.2.1)).trans h.2.2.2.1
  · exact (hb.cell (World.block_lt_of_cell? W ⟨b3, 0, none⟩ h.2.2.2.2)).trans h.2.2.2.2
theorem where15 {w : World} {b0 b1 b2 b3 : Nat} {c d : Cl} {lo hi : Int} (W : World) (h : S4 w b0 b1 b2 b3 c d lo hi W) :
    Calls Try.prog 11 #[.func (.func 15) #[] #[.pointer (some ⟨b0, 0, none⟩), .pointer (some ⟨b1, 0, none⟩)]] W fun e w' => e = .returned (.agg #[.int .u64 ((join c d).1.toNat : Int), .int .u64 ((join c d).2.1.toNat : Int), .int .u64 ((join c d).2.2.1.toNat : Int), .int .u64 ((join c d).2.2.2.toNat : Int)]) ∧ Below W.heap.size W w' := by
  have e : join c d = wher (fun x => mem c x || mem d x) := eq_wher fun b _ => mem_join c d b
  rw [e]
  exact where_any 15 _ _ W (enters_of Try.func15 (by kernel_rfl) rfl) fun W1 x hx hb => clos15 x hx c d b0 b1 W1 (h.2.1.next hb) (h.2.2.1.next hb)
theorem where17 {w : World} {b0 b1 b2 b3 : Nat} {c d : Cl} {lo hi : Int} (W : World) (h : S4 w b0 b1 b2 b3 c d lo hi W) :
    Calls Try.prog 11 #[.func (.func 17) #[] #[.pointer (some ⟨b0, 0, none⟩), .pointer (some ⟨b1, 0, none⟩)]] W fun e w' => e = .returned (.agg #[.int .u64 ((meet c d).1.toNat : Int), .int .u64 ((meet c d).2.1.toNat : Int), .int .u64 ((meet c d).2.2.1.toNat : Int), .int .u64 ((meet c d).2.2.2.toNat : Int)]) ∧ Below W.heap.size W w' := by
  have e : meet c d = wher (fun x => mem c x && mem d x) := eq_wher fun b _ => mem_meet c d b
  rw [e]
  exact where_any 17 _ _ W (enters_of Try.func17 (by kernel_rfl) rfl) fun W1 x hx hb => clos17 x hx c d b0 b1 W1 (h.2.1.next hb) (h.2.2.1.next hb)
theorem where19 {w : World} {b0 b1 b2 b3 : Nat} {c d : Cl} {lo hi : Int} (W : World) (h : S4 w b0 b1 b2 b3 c d lo hi W) :
    Calls Try.prog 11 #[.func (.func 19) #[] #[.pointer (some ⟨b0, 0, none⟩)]] W fun e w' => e = .returned (.agg #[.int .u64 ((neg c).1.toNat : Int), .int .u64 ((neg c).2.1.toNat : Int), .int .u64 ((neg c).2.2.1.toNat : Int), .int .u64 ((neg c).2.2.2.toNat : Int)]) ∧ Below W.heap.size W w' := by
  have e : neg c = wher (fun x => !mem c x) := eq_wher fun b _ => mem_neg c b
  rw [e]
  exact where_any 19 _ _ W (enters_of Try.func19 (by kernel_rfl) rfl) fun W1 x hx hb => clos19 x hx c b0 W1 (h.2.1.next hb)

theorem conv_byte {w : World} {g : Nat} {z : Int} (c : Nat) (hc : c < 256) (hz : z = (c : Int)) (h : w.cell? ⟨g, 0, none⟩ = some (.int .u8 z)) :
    (convert 26 9 (.slice (some ⟨g, 0, none⟩) 1 1)).run Try.prog w = .ok (.string ⟨#[UInt8.ofNat c]⟩) w := by
  subst hz
  refine run_convert_bytes_back _ 26 9 5 ⟨g, 0, none⟩ 1 [UInt8.ofNat c] Try.underlying26 Try.underlying5 Try.underlying9 fun j hj => ?_
  have hj0 : j = 0 := by simp at hj; omega
  subst hj0
  have e : (UInt8.ofNat c).toNat = c := by rw [UInt8.toNat_ofNat']; omega
  simp [Addr.add, e, h]
theorem cat_byte (c : Cl) (k : Nat) (h : mem c k = true) : (ByteArray.mk (bytesTo c k).toArray ++ ByteArray.mk #[UInt8.ofNat k]) = ByteArray.mk (bytesTo c (k + 1)).toArray := by
  rw [bytesTo_succ, if_pos h]
  apply ByteArray.ext
  simp
theorem val_str {a b : ByteArray} (h : a = b) : Value.string a = .string b := by rw [h]
theorem wrap_i64 (a : Int) (h1 : -9223372036854775808 ≤ a) (h2 : a ≤ 9223372036854775807) : IntKind.i64.wrap a = a := by
  simp only [IntKind.wrap, IntKind.bits, IntKind.signed]; simp; omega

/-! ### The walk: the Go text returns true. -/
set_option maxHeartbeats 20000000 in
set_option maxRecDepth 20000 in
theorem walk (a0c : Cls.Cl) (a1c : Cls.Cl) (a2 : Int) (a3 : Int) (a4 : Int) (w : World) (w2 : (Lit.int .u8 a2).wf = true) (w3 : (Lit.int .i64 a3).wf = true) (w4 : (Lit.int .i64 a4).wf = true) :
    Calls Try.prog 3 #[.agg #[.int .u64 (a0c.1.toNat : Int), .int .u64 (a0c.2.1.toNat : Int), .int .u64 (a0c.2.2.1.toNat : Int), .int .u64 (a0c.2.2.2.toNat : Int)], .agg #[.int .u64 (a1c.1.toNat : Int), .int .u64 (a1c.2.1.toNat : Int), .int .u64 (a1c.2.2.1.toNat : Int), .int .u64 (a1c.2.2.2.toNat : Int)], .int .u8 a2, .int .i64 a3, .int .i64 a4] w fun e w' => e = .returned (.bool true) ∧ Below w.heap.size w w' := by
  have hb2 : 0 ≤ a2 ∧ a2 ≤ 255 := by simpa [Lit.wf, IntKind.min, IntKind.max, IntKind.signed, IntKind.bits] using w2
  have h3 : -9223372036854775808 ≤ a3 ∧ a3 ≤ 9223372036854775807 := by simpa [Lit.wf, IntKind.min, IntKind.max, IntKind.signed, IntKind.bits] using w3
  have h4 : -9223372036854775808 ≤ a4 ∧ a4 ≤ 9223372036854775807 := by simpa [Lit.wf, IntKind.min, IntKind.max, IntKind.signed, IntKind.bits] using w4
  obtain ⟨bb, rfl⟩ := Int.eq_ofNat_of_zero_le hb2.1
  have hbb : bb < 256 := by omega
  clear w2 w3 w4 hb2
  have S0 : Hid (S4 w w.heap.size (w.heap.size + 1) (w.heap.size + 1 + 1) (w.heap.size + 1 + 1 + 1) a0c a1c a3 a4 ((((w.alloc (.cells #[.int .u64 (a0c.1.toNat : Int), .int .u64 (a0c.2.1.toNat : Int), .int .u64 (a0c.2.2.1.toNat : Int), .int .u64 (a0c.2.2.2.toNat : Int)] 24)).alloc (.cells #[.int .u64 (a1c.1.toNat : Int), .int .u64 (a1c.2.1.toNat : Int), .int .u64 (a1c.2.2.1.toNat : Int), .int .u64 (a1c.2.2.2.toNat : Int)] 24)).alloc (.cells #[.int .i64 a3] 3)).alloc (.cells #[.int .i64 a4] 3))) := by
    have hs1 : (w.alloc (.cells #[.int .u64 (a0c.1.toNat : Int), .int .u64 (a0c.2.1.toNat : Int), .int .u64 (a0c.2.2.1.toNat : Int), .int .u64 (a0c.2.2.2.toNat : Int)] 24)).heap.size = w.heap.size + 1 := by simp
    have G := bx_new (w.alloc (.cells #[.int .u64 (a0c.1.toNat : Int), .int .u64 (a0c.2.1.toNat : Int), .int .u64 (a0c.2.2.1.toNat : Int), .int .u64 (a0c.2.2.2.toNat : Int)] 24)) a1c
    rw [hs1] at G
    have n1 : ∀ (W : World) (v : Value), (W.alloc (.cells #[v] 3)).cell? ⟨W.heap.size, 0, none⟩ = some v := fun W v => by simp
    have hs2 : ((w.alloc (.cells #[.int .u64 (a0c.1.toNat : Int), .int .u64 (a0c.2.1.toNat : Int), .int .u64 (a0c.2.2.1.toNat : Int), .int .u64 (a0c.2.2.2.toNat : Int)] 24)).alloc (.cells #[.int .u64 (a1c.1.toNat : Int), .int .u64 (a1c.2.1.toNat : Int), .int .u64 (a1c.2.2.1.toNat : Int), .int .u64 (a1c.2.2.2.toNat : Int)] 24)).heap.size = w.heap.size + 1 + 1 := by simp
    have hs3 : (((w.alloc (.cells #[.int .u64 (a0c.1.toNat : Int), .int .u64 (a0c.2.1.toNat : Int), .int .u64 (a0c.2.2.1.toNat : Int), .int .u64 (a0c.2.2.2.toNat : Int)] 24)).alloc (.cells #[.int .u64 (a1c.1.toNat : Int), .int .u64 (a1c.2.1.toNat : Int), .int .u64 (a1c.2.2.1.toNat : Int), .int .u64 (a1c.2.2.2.toNat : Int)] 24)).alloc (.cells #[.int .i64 a3] 3)).heap.size = w.heap.size + 1 + 1 + 1 := by simp
    have g3 : ((((w.alloc (.cells #[.int .u64 (a0c.1.toNat : Int), .int .u64 (a0c.2.1.toNat : Int), .int .u64 (a0c.2.2.1.toNat : Int), .int .u64 (a0c.2.2.2.toNat : Int)] 24)).alloc (.cells #[.int .u64 (a1c.1.toNat : Int), .int .u64 (a1c.2.1.toNat : Int), .int .u64 (a1c.2.2.1.toNat : Int), .int .u64 (a1c.2.2.2.toNat : Int)] 24)).alloc (.cells #[.int .i64 a3] 3)).alloc (.cells #[.int .i64 a4] 3)).cell? ⟨w.heap.size + 1 + 1, 0, none⟩ = some (.int .i64 a3) := by
      have q := n1 ((w.alloc (.cells #[.int .u64 (a0c.1.toNat : Int), .int .u64 (a0c.2.1.toNat : Int), .int .u64 (a0c.2.2.1.toNat : Int), .int .u64 (a0c.2.2.2.toNat : Int)] 24)).alloc (.cells #[.int .u64 (a1c.1.toNat : Int), .int .u64 (a1c.2.1.toNat : Int), .int .u64 (a1c.2.2.1.toNat : Int), .int .u64 (a1c.2.2.2.toNat : Int)] 24)) (.int .i64 a3)
      rw [hs2] at q
      exact (((Below.refl _ _).alloc (Nat.le_refl _) _).cell (p := ⟨w.heap.size + 1 + 1, 0, none⟩) (by rw [hs3]; exact Nat.lt_succ_self _)).trans q
    have g4 : ((((w.alloc (.cells #[.int .u64 (a0c.1.toNat : Int), .int .u64 (a0c.2.1.toNat : Int), .int .u64 (a0c.2.2.1.toNat : Int), .int .u64 (a0c.2.2.2.toNat : Int)] 24)).alloc (.cells #[.int .u64 (a1c.1.toNat : Int), .int .u64 (a1c.2.1.toNat : Int), .int .u64 (a1c.2.2.1.toNat : Int), .int .u64 (a1c.2.2.2.toNat : Int)] 24)).alloc (.cells #[.int .i64 a3] 3)).alloc (.cells #[.int .i64 a4] 3)).cell? ⟨w.heap.size + 1 + 1 + 1, 0, none⟩ = some (.int .i64 a4) := by
      have q := n1 (((w.alloc (.cells #[.int .u64 (a0c.1.toNat : Int), .int .u64 (a0c.2.1.toNat : Int), .int .u64 (a0c.2.2.1.toNat : Int), .int .u64 (a0c.2.2.2.toNat : Int)] 24)).alloc (.cells #[.int .u64 (a1c.1.toNat : Int), .int .u64 (a1c.2.1.toNat : Int), .int .u64 (a1c.2.2.1.toNat : Int), .int .u64 (a1c.2.2.2.toNat : Int)] 24)).alloc (.cells #[.int .i64 a3] 3)) (.int .i64 a4)
      rw [hs3] at q
      exact q
    exact ⟨((((Below.refl _ w).alloc (Nat.le_refl _) _).alloc (by simp) _).alloc (by simp; omega) _).alloc (by simp; omega) _, (((bx_new w a0c).alloc _).alloc _).alloc _, (G.alloc _).alloc _, g3, g4⟩
  go_enter Try.func3, Try.ntmps3
  go_wp2_with fail
  go_loopw [11, 12, 13] (fun t n i wr => ∃ k : Nat, k ≤ 256 ∧ i = .int .i64 (k : Int) ∧ t = .string ⟨(bytesTo a0c k).toArray⟩ ∧ n = .int .i64 (countTo a0c k : Int) ∧ Hid (S4 w w.heap.size (w.heap.size + 1) (w.heap.size + 1 + 1) (w.heap.size + 1 + 1 + 1) a0c a1c a3 a4 wr)) (fun _ _ i _ => 256 - (intOf i).toNat)
  case atStart => exact ⟨0, by omega, rfl, rfl, rfl, S0⟩
  case round =>
    obtain ⟨k, hk, rfl, rfl, rfl, HS⟩ := hrel
    have hn := countTo_le a0c k
    by_cases hlt : k < 256
    · obtain ⟨c0, c1, c2, c3⟩ := HS.out.2.1
      cases hm : mem a0c k with
      | true =>
        have HN : Hid (countTo a0c (k + 1) = countTo a0c k + 1) := by show countTo a0c (k + 1) = _; rw [countTo_succ]; simp [Cls.bit, hm]
        go_wp2_with fail
        refine (rhas_any a0c _ k rfl hlt _).mono ?_
        rw [hm]
        rintro e W1 ⟨rfl, hl⟩
        have hS1 : Hid (S4 w w.heap.size (w.heap.size + 1) (w.heap.size + 1 + 1) (w.heap.size + 1 + 1 + 1) a0c a1c a3 a4 W1) := S4.next _ _ HS.out hl.below
        have hconv := conv_byte (w := W1.alloc (.cells #[.int .u8 (k : Int)] 5)) (g := W1.heap.size) k hlt rfl (by simp)
        have hl1 := bytesTo_le a0c k
        have hsz : (ByteArray.mk (bytesTo a0c k).toArray).size = (bytesTo a0c k).length := by show (bytesTo a0c k).toArray.size = _; simp
        have hsz1 : (ByteArray.mk #[UInt8.ofNat k]).size = 1 := rfl
        clear hl c0 c1 c2 c3
        go_wp2_with fail
        go_roundw
        case rel => exact ⟨k + 1, by omega, by go_num, val_str (cat_byte a0c k hm), int_i64 (by rw [HN.out]; omega), S4.next _ _ hS1.out ((Below.refl _ W1).alloc (Nat.le_refl _) _)⟩
        case measure => simp [intOf]; omega
      | false =>
        have HN : Hid (countTo a0c (k + 1) = countTo a0c k) := by show countTo a0c (k + 1) = _; rw [countTo_succ]; simp [Cls.bit, hm]
        have HE : Hid (bytesTo a0c (k + 1) = bytesTo a0c k) := by show bytesTo a0c (k + 1) = _; rw [bytesTo_succ, if_neg (by simp [hm]), List.append_nil]
        go_wp2_with fail
        refine (rhas_any a0c _ k rfl hlt _).mono ?_
        rw [hm]
        rintro e W1 ⟨rfl, hl⟩
        go_wp2_with fail
        go_roundw
        case rel => exact ⟨k + 1, by omega, by go_num, by rw [HE.out], int_i64 (by rw [HN.out]), S4.next _ _ HS.out hl.below⟩
        case measure => simp [intOf]; omega
    · have e : k = 256 := by omega
      subst e
      have hw := wrap_i64 (bb : Int) (by omega) (by omega)
      have hq := eqIn24
      have hgd := guard24
      have ec : countTo a0c 256 = count a0c := rfl
      have eb : bytesTo a0c 256 = Cls.bytes a0c := rfl
      have pc0 : ∀ p : Kp (S4 w w.heap.size (w.heap.size + 1) (w.heap.size + 1 + 1) (w.heap.size + 1 + 1 + 1) a0c a1c a3 a4), p.W.cell? ⟨w.heap.size, 0, none⟩ = some (.int .u64 (a0c.1.toNat : Int)) := fun p => p.h.2.1.1
      have pc1 : ∀ p : Kp (S4 w w.heap.size (w.heap.size + 1) (w.heap.size + 1 + 1) (w.heap.size + 1 + 1 + 1) a0c a1c a3 a4), p.W.cell? ⟨w.heap.size, 1, none⟩ = some (.int .u64 (a0c.2.1.toNat : Int)) := fun p => p.h.2.1.2.1
      have pc2 : ∀ p : Kp (S4 w w.heap.size (w.heap.size + 1) (w.heap.size + 1 + 1) (w.heap.size + 1 + 1 + 1) a0c a1c a3 a4), p.W.cell? ⟨w.heap.size, 2, none⟩ = some (.int .u64 (a0c.2.2.1.toNat : Int)) := fun p => p.h.2.1.2.2.1
      have pc3 : ∀ p : Kp (S4 w w.heap.size (w.heap.size + 1) (w.heap.size + 1 + 1) (w.heap.size + 1 + 1 + 1) a0c a1c a3 a4), p.W.cell? ⟨w.heap.size, 3, none⟩ = some (.int .u64 (a0c.2.2.2.toNat : Int)) := fun p => p.h.2.1.2.2.2
      have pd0 : ∀ p : Kp (S4 w w.heap.size (w.heap.size + 1) (w.heap.size + 1 + 1) (w.heap.size + 1 + 1 + 1) a0c a1c a3 a4), p.W.cell? ⟨(w.heap.size + 1), 0, none⟩ = some (.int .u64 (a1c.1.toNat : Int)) := fun p => p.h.2.2.1.1
      have pd1 : ∀ p : Kp (S4 w w.heap.size (w.heap.size + 1) (w.heap.size + 1 + 1) (w.heap.size + 1 + 1 + 1) a0c a1c a3 a4), p.W.cell? ⟨(w.heap.size + 1), 1, none⟩ = some (.int .u64 (a1c.2.1.toNat : Int)) := fun p => p.h.2.2.1.2.1
      have pd2 : ∀ p : Kp (S4 w w.heap.size (w.heap.size + 1) (w.heap.size + 1 + 1) (w.heap.size + 1 + 1 + 1) a0c a1c a3 a4), p.W.cell? ⟨(w.heap.size + 1), 2, none⟩ = some (.int .u64 (a1c.2.2.1.toNat : Int)) := fun p => p.h.2.2.1.2.2.1
      have pd3 : ∀ p : Kp (S4 w w.heap.size (w.heap.size + 1) (w.heap.size + 1 + 1) (w.heap.size + 1 + 1 + 1) a0c a1c a3 a4), p.W.cell? ⟨(w.heap.size + 1), 3, none⟩ = some (.int .u64 (a1c.2.2.2.toNat : Int)) := fun p => p.h.2.2.1.2.2.2
      have pl : ∀ p : Kp (S4 w w.heap.size (w.heap.size + 1) (w.heap.size + 1 + 1) (w.heap.size + 1 + 1 + 1) a0c a1c a3 a4), p.W.cell? ⟨(w.heap.size + 1 + 1), 0, none⟩ = some (.int .i64 a3) := fun p => p.h.2.2.2.1
      have ph : ∀ p : Kp (S4 w w.heap.size (w.heap.size + 1) (w.heap.size + 1 + 1) (w.heap.size + 1 + 1 + 1) a0c a1c a3 a4), p.W.cell? ⟨(w.heap.size + 1 + 1 + 1), 0, none⟩ = some (.int .i64 a4) := fun p => p.h.2.2.2.2
      have hne : Nonempty (Kp (S4 w w.heap.size (w.heap.size + 1) (w.heap.size + 1 + 1) (w.heap.size + 1 + 1 + 1) a0c a1c a3 a4)) := ⟨⟨_, HS.out⟩⟩
      have H12 : Hid (∀ p : Kp (S4 w w.heap.size (w.heap.size + 1) (w.heap.size + 1 + 1) (w.heap.size + 1 + 1 + 1) a0c a1c a3 a4), Calls Try.prog 11 #[.func (.func 12) #[] #[.pointer (some ⟨(w.heap.size + 1 + 1), 0, none⟩), .pointer (some ⟨(w.heap.size + 1 + 1 + 1), 0, none⟩)]] p.W fun e w'' => e = .returned (.agg #[.int .u64 ((range a3 a4).1.toNat : Int), .int .u64 ((range a3 a4).2.1.toNat : Int), .int .u64 ((range a3 a4).2.2.1.toNat : Int), .int .u64 ((range a3 a4).2.2.2.toNat : Int)]) ∧ ∃ q : Kp (S4 w w.heap.size (w.heap.size + 1) (w.heap.size + 1 + 1) (w.heap.size + 1 + 1 + 1) a0c a1c a3 a4), w'' = q.W) := fun p => Kp.calls p S4.next (where12 _ p.h)
      have H15 : Hid (∀ p : Kp (S4 w w.heap.size (w.heap.size + 1) (w.heap.size + 1 + 1) (w.heap.size + 1 + 1 + 1) a0c a1c a3 a4), Calls Try.prog 11 #[.func (.func 15) #[] #[.pointer (some ⟨w.heap.size, 0, none⟩), .pointer (some ⟨(w.heap.size + 1), 0, none⟩)]] p.W fun e w'' => e = .returned (.agg #[.int .u64 ((join a0c a1c).1.toNat : Int), .int .u64 ((join a0c a1c).2.1.toNat : Int), .int .u64 ((join a0c a1c).2.2.1.toNat : Int), .int .u64 ((join a0c a1c).2.2.2.toNat : Int)]) ∧ ∃ q : Kp (S4 w w.heap.size (w.heap.size + 1) (w.heap.size + 1 + 1) (w.heap.size + 1 + 1 + 1) a0c a1c a3 a4), w'' = q.W) := fun p => Kp.calls p S4.next (where15 _ p.h)
      have H17 : Hid (∀ p : Kp (S4 w w.heap.size (w.heap.size + 1) (w.heap.size + 1 + 1) (w.heap.size + 1 + 1 + 1) a0c a1c a3 a4), Calls Try.prog 11 #[.func (.func 17) #[] #[.pointer (some ⟨w.heap.size, 0, none⟩), .pointer (some ⟨(w.heap.size + 1), 0, none⟩)]] p.W fun e w'' => e = .returned (.agg #[.int .u64 ((meet a0c a1c).1.toNat : Int), .int .u64 ((meet a0c a1c).2.1.toNat : Int), .int .u64 ((meet a0c a1c).2.2.1.toNat : Int), .int .u64 ((meet a0c a1c).2.2.2.toNat : Int)]) ∧ ∃ q : Kp (S4 w w.heap.size (w.heap.size + 1) (w.heap.size + 1 + 1) (w.heap.size + 1 + 1 + 1) a0c a1c a3 a4), w'' = q.W) := fun p => Kp.calls p S4.next (where17 _ p.h)
      have H19 : Hid (∀ p : Kp (S4 w w.heap.size (w.heap.size + 1) (w.heap.size + 1 + 1) (w.heap.size + 1 + 1 + 1) a0c a1c a3 a4), Calls Try.prog 11 #[.func (.func 19) #[] #[.pointer (some ⟨w.heap.size, 0, none⟩)]] p.W fun e w'' => e = .returned (.agg #[.int .u64 ((neg a0c).1.toNat : Int), .int .u64 ((neg a0c).2.1.toNat : Int), .int .u64 ((neg a0c).2.2.1.toNat : Int), .int .u64 ((neg a0c).2.2.2.toNat : Int)]) ∧ ∃ q : Kp (S4 w w.heap.size (w.heap.size + 1) (w.heap.size + 1 + 1) (w.heap.size + 1 + 1 + 1) a0c a1c a3 a4), w'' = q.W) := fun p => Kp.calls p S4.next (where19 _ p.h)
      rw [ec, eb]
      clear ec eb
      go_wp2_with fail
      try simp only [List.append_eq, List.cons_append, List.nil_append]
      refine wp_region_kept mixed (by kernel_rfl) HS.out.drew ?_
      repeat (go_big_quiet_step (first
        | (go_at_call 10; exact Kp.calls _ S4.next (range_any a3 a4 h3.2 h4.1 h4.2 _))
        | (go_at_call 11; first | with_reducible exact H12.out _ | with_reducible exact H15.out _ | with_reducible exact H17.out _ | with_reducible exact H19.out _)
        | (go_at_call 13; exact Kp.calls_lays _ S4.next (has_any a0c _ bb rfl hbb _))
        | (go_at_call 9; exact Kp.calls_lays _ S4.next (rhas_any a0c _ bb rfl hbb _))
        | (go_at_call 14; exact Kp.calls _ S4.next (join_any _ _ _))
        | (go_at_call 16; exact Kp.calls _ S4.next (meet_any _ _ _))
        | (go_at_call 18; exact Kp.calls _ S4.next (not_any _ _))
        | (go_at_call 20; exact Kp.calls_lays _ S4.next (count_any _ _))
        | (go_at_call 21; exact Kp.calls _ S4.next (bytes_any _ _))))
      refine wpQuiet_nil ?_
      intro W2 hw2
      obtain ⟨⟨W2, HS2⟩, rfl⟩ := hw2
      have HBx : Hid (Below w.heap.size w W2) := HS2.1
      clear HS2 hne
      go_wp2_with fail
      go_ret
      exact ⟨rfl, HBx.out⟩

/-! ### What the walk gives, for every argument -/
set_option maxRecDepth 100000 in
theorem contract (H : Type) (enc : TypeId × Value → H) (W : World) (base : Nat) (args : Array Value) (ds gs : List (DataW H)) (before : List MemPlace)
    (hval : ∀ (j : Nat) t v, Try.f3.params[j]? = some t → args[j]? = some v → Value.okWide Try.prog W .any base t v)
    (hW : DataW.Whole enc Try.prog Try.f3.params.toList Rows.classSaysSpec.vars false W args.toList ds gs before) (hsz : (DataW.weightsEach Try.prog (Try.f3.params.toList ++ Rows.classSaysSpec.plain.varTypes Try.prog) (ds ++ gs)).all (· ≤ reachBytes) = true) :
    Calls Try.prog 3 args W fun e W' => ∃ v, e = .returned v ∧ Rows.classSaysSpec.post enc Try.prog Try.f3 false true false false W args v W' := by
  have hW' := hW
  obtain ⟨p, q, hA0, hV, rfl, hfz, hnd⟩ := hW
  have hA : DataW.TrodAll enc Try.prog W 0 (fun _ => true) true Try.f3.params.toList args.toList ds p := hA0
  rw [Try.params3] at hA hval hsz
  obtain ⟨v0, vs0, d0, ds0, p0, q0, hargs, rfl, rfl, h0, r0⟩ := trodAll_cons hA
  obtain ⟨v1, vs1, d1, ds1, p1, q1, rfl, rfl, rfl, h1, r1⟩ := trodAll_cons r0
  obtain ⟨v2, vs2, d2, ds2, p2, q2, rfl, rfl, rfl, h2, r2⟩ := trodAll_cons r1
  obtain ⟨v3, vs3, d3, ds3, p3, q3, rfl, rfl, rfl, h3, r3⟩ := trodAll_cons r2
  obtain ⟨v4, vs4, d4, ds4, p4, q4, rfl, rfl, rfl, h4, r4⟩ := trodAll_cons r3
  obtain ⟨rfl, rfl, rfl⟩ := trodAll_nil r4
  obtain rfl : args = #[v0, v1, v2, v3, v4] := by cases args; simp_all
  obtain ⟨rfl, rfl⟩ := trodVars_none hV
  have k0 := h0
  have lt0 : ∀ x ∈ p0, x.block < W.heap.size := by obtain ⟨m, hm⟩ := k0; exact DataW.trod_lt m _ _ _ hm
  obtain ⟨a0c, rfl⟩ := open_class (hval 0 24 v0 rfl rfl) h0
  have k1 := h1
  have lt1 : ∀ x ∈ p1, x.block < W.heap.size := by obtain ⟨m, hm⟩ := k1; exact DataW.trod_lt m _ _ _ hm
  obtain ⟨a1c, rfl⟩ := open_class (hval 1 24 v1 rfl rfl) h1
  obtain ⟨a2, rfl, rfl, rfl, w2⟩ := open_int Try.underlying5 (hval 2 5 v2 rfl rfl) h2
  obtain ⟨a3, rfl, rfl, rfl, w3⟩ := open_int Try.underlying3 (hval 3 3 v3 rfl rfl) h3
  obtain ⟨a4, rfl, rfl, rfl, w4⟩ := open_int Try.underlying3 (hval 4 3 v4 rfl rfl) h4
  clear hA0
  refine (walk a0c a1c a2 a3 a4 W w2 w3 w4).mono fun e W' ⟨he, bel⟩ => ?_
  subst he
  exact ⟨_, rfl, _, _, _, [], _, [], hW', trodAll_mk1 (shut_bool Try.underlying4 _), (trodAll_cons_mk (Below.trod laidOut (by kernel_rfl) (of_decide_eq_true (by kernel_rfl)) k0 bel lt0) (trodAll_cons_mk (Below.trod laidOut (by kernel_rfl) (of_decide_eq_true (by kernel_rfl)) k1 bel lt1) (trodAll_cons_mk (shut_int Try.underlying5 w2) (trodAll_cons_mk (shut_int Try.underlying3 w3) (trodAll_cons_mk (shut_int Try.underlying3 w4) trodAll_mk0))))), rfl, bel.frame _, fun h => by cases h⟩

/-! ### The row's step -/
set_option maxRecDepth 100000 in
theorem lifted (os : Os) (started : os.Started) (H : Type) (enc : TypeId × Value → H) :
    ReturnsInHanded {} Try.checked os 3 .any (Rows.classSaysSpec.pre6 enc Try.prog Try.f3 Rows.classSaysRow.domain false) (Rows.classSaysSpec.post enc Try.prog Try.f3 false true false false) := by
  refine returnsInHanded_of_change_sized (C := Try.checked) own started (by kernel_rfl) Try.func3
    (ChangeSpec.witness6 (enc := enc) (C := Try.checked) false ⟨#[], #[.agg #[.int .u64 0, .int .u64 0, .int .u64 0, .int .u64 0], .agg #[.int .u64 0, .int .u64 0, .int .u64 0, .int .u64 0], .int .u8 0, .int .i64 0, .int .i64 0], []⟩ 8 (by kernel_rfl) (by kernel_rfl) (by kernel_rfl) (by kernel_rfl)) ?_
  intro W base args ds gs before hval hW hcnd hsz _
  exact contract H enc W base args ds gs before hval hW hsz

theorem over : Rows.classSaysRow.holds Try.pinned (OpenSpec.ofChange Rows.classSaysSpec) :=
  OpenClaim.holds_of_wide 3 Try.f3 rfl rfl rfl rfl rfl rfl rfl ⟨rfl, rfl, rfl, rfl, rfl⟩ rfl rfl rfl rfl rfl (by kernel_rfl) Try.func3 (by kernel_rfl)
    (of_decide_eq_true (by kernel_rfl)) (by unfold Func.isWrapper; first | (rw [if_pos (by decide +kernel)]; kernel_rfl) | (rw [if_neg (by decide +kernel)]; exact ⟨rfl, rfl⟩))
    (fun os started H enc _ => lifted os started H enc)

end Go.Proofs.Ytgoejdakmbpcmaa.classSays
namespace Go.Proofs.Ytgoejdakmbpcmaa
/-- The given statement. -/
theorem classSays_holds : Rows.ClassSaysSaid := classSays.over
#print axioms classSays_holds
end Go.Proofs.Ytgoejdakmbpcmaa
