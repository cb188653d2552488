/-
  The contract of the document's own answer pushref.RexText at a byte.
-/
import Derived.Test.YthloedfiomfnbaaRefDot
namespace Go.Proofs.Ythloedfiomfnbaa
open Go.RowKit Go.Proofs
open Cls Rex Txt

set_option maxHeartbeats 2000000 in
set_option maxRecDepth 20000 in
theorem rtext_byte (d : Cl) : RT (.byte d) := by
  intro t v B w hi hx hB
  cases hi
  obtain ⟨k, c, ao, cap, kids, vals, rfl, ht, -⟩ := hx.shape
  simp only [T.mk.injEq] at ht
  obtain ⟨rfl, rfl, rfl⟩ := ht
  clear hx
  simp only [List.length_nil]
  show Calls _ _ _ _ fun e w' => e = .returned (.string (S (classT d))) ∧ Below w.heap.size w w'
  have hmf : ∀ (fn : Fn) (first cap : Array Value) (w : World), (Instr.makeFunc fn first cap).run Try.prog w = .ok (.func fn first cap) w := fun _ _ _ _ => rfl
  have he18 := enters_of Try.func18 (by kernel_rfl) rfl
  have he23 := enters_of Try.func23 (by kernel_rfl) rfl
  have hcl := count_le d
  have hsz := fun W => size_any d W
  obtain ⟨n, HN⟩ : ∃ n, Hid (count d = n) := ⟨_, (rfl : count d = count d)⟩
  rw [HN.out] at hsz hcl
  go_enter Try.func8, Try.ntmps8
  go_wp2_with fail
  refine (hsz _).mono ?_
  rintro _ w1 ⟨rfl, hb1⟩
  have HB1 : Hid (Below (w.heap.size + 1) (w.alloc (.cells #[.int .i64 3, .int .u64 (d.1.toNat : Int), .int .u64 (d.2.1.toNat : Int), .int .u64 (d.2.2.1.toNat : Int), .int .u64 (d.2.2.2.toNat : Int), .slice ao 0 cap] 27)) w1) := hb1.mono (by simp)
  clear hb1 hsz
  by_cases h1 : n = 1
  · subst h1
    have hblk : w1.heap[w.heap.size]? = some (.cells #[.int .i64 3, .int .u64 (d.1.toNat : Int), .int .u64 (d.2.1.toNat : Int), .int .u64 (d.2.2.1.toNat : Int), .int .u64 (d.2.2.2.toNat : Int), .slice ao 0 cap] 27) := (HB1.out.block _ (Nat.lt_succ_self _)).trans (block_new w _)
    have y0 : w1.cell? ⟨w.heap.size, 0, none⟩ = some (.int .i64 3) := by simp [World.cell?, hblk]
    have y1 : w1.cell? ⟨w.heap.size, 1, none⟩ = some (.int .u64 (d.1.toNat : Int)) := by simp [World.cell?, hblk]
    have y2 : w1.cell? ⟨w.heap.size, 2, none⟩ = some (.int .u64 (d.2.1.toNat : Int)) := by simp [World.cell?, hblk]
    have y3 : w1.cell? ⟨w.heap.size, 3, none⟩ = some (.int .u64 (d.2.2.1.toNat : Int)) := by simp [World.cell?, hblk]
    have y4 : w1.cell? ⟨w.heap.size, 4, none⟩ = some (.int .u64 (d.2.2.2.toNat : Int)) := by simp [World.cell?, hblk]
    have y5 : w1.cell? ⟨w.heap.size, 5, none⟩ = some (.slice ao 0 cap) := by simp [World.cell?, hblk]
    have HBLK : Hid (w1.heap[w.heap.size]? = some (.cells #[.int .i64 3, .int .u64 (d.1.toNat : Int), .int .u64 (d.2.1.toNat : Int), .int .u64 (d.2.2.1.toNat : Int), .int .u64 (d.2.2.2.toNat : Int), .slice ao 0 cap] 27)) := hblk
    clear hblk
    obtain ⟨L, HL⟩ : ∃ L, Hid (runsT (mem d) = L) := ⟨_, (rfl : runsT (mem d) = runsT (mem d))⟩
    have hru := fun W => runs_any d W
    rw [HL.out] at hru
    have HT : Hid (classT d = L) := by show _ = _; unfold classT; rw [if_pos HN.out, HL.out]
    go_wp2_with fail
    clear y0 y1 y2 y3 y4 y5
    refine (hru _).mono ?_
    rintro _ w2 ⟨rfl, hb2⟩
    have HB2 : Hid (Below (w.heap.size + 1) (w.alloc (.cells #[.int .i64 3, .int .u64 (d.1.toNat : Int), .int .u64 (d.2.1.toNat : Int), .int .u64 (d.2.2.1.toNat : Int), .int .u64 (d.2.2.2.toNat : Int), .slice ao 0 cap] 27)) w2) := HB1.out.trans (hb2.mono (by have := HB1.out.size; simp at this; omega))
    clear hb2 hru
    go_wp2_with fail
    go_ret
    exact ⟨by rw [HT.out]; rfl, ((Below.refl _ _).alloc (Nat.le_refl _) _).trans (HB2.out.mono (Nat.le_succ _))⟩
  · have g1 : ((n : Int) == 1) = false := by simp; omega
    by_cases h255 : n = 255
    · subst h255
      have HD : Hid (mem d 10 = false ↔ d = dot) := ⟨fun h => (dot_iff d).1 ⟨HN.out, h⟩, fun h => ((dot_iff d).2 h).2⟩
      have hrh := fun W => rhas_any d 10 10 rfl (by omega) W
      obtain ⟨m, HM⟩ : ∃ m, Hid (mem d 10 = m) := ⟨_, (rfl : mem d 10 = mem d 10)⟩
      rw [HM.out] at hrh
      have hblk : w1.heap[w.heap.size]? = some (.cells #[.int .i64 3, .int .u64 (d.1.toNat : Int), .int .u64 (d.2.1.toNat : Int), .int .u64 (d.2.2.1.toNat : Int), .int .u64 (d.2.2.2.toNat : Int), .slice ao 0 cap] 27) := (HB1.out.block _ (Nat.lt_succ_self _)).trans (block_new w _)
      have y0 : w1.cell? ⟨w.heap.size, 0, none⟩ = some (.int .i64 3) := by simp [World.cell?, hblk]
      have y1 : w1.cell? ⟨w.heap.size, 1, none⟩ = some (.int .u64 (d.1.toNat : Int)) := by simp [World.cell?, hblk]
      have y2 : w1.cell? ⟨w.heap.size, 2, none⟩ = some (.int .u64 (d.2.1.toNat : Int)) := by simp [World.cell?, hblk]
      have y3 : w1.cell? ⟨w.heap.size, 3, none⟩ = some (.int .u64 (d.2.2.1.toNat : Int)) := by simp [World.cell?, hblk]
      have y4 : w1.cell? ⟨w.heap.size, 4, none⟩ = some (.int .u64 (d.2.2.2.toNat : Int)) := by simp [World.cell?, hblk]
      have y5 : w1.cell? ⟨w.heap.size, 5, none⟩ = some (.slice ao 0 cap) := by simp [World.cell?, hblk]
      have HBLK : Hid (w1.heap[w.heap.size]? = some (.cells #[.int .i64 3, .int .u64 (d.1.toNat : Int), .int .u64 (d.2.1.toNat : Int), .int .u64 (d.2.2.1.toNat : Int), .int .u64 (d.2.2.2.toNat : Int), .slice ao 0 cap] 27)) := hblk
      clear hblk
      go_wp2_with fail
      clear y0 y1 y2 y3 y4 y5
      refine (hrh _).mono ?_
      rintro _ w2 ⟨rfl, hL2⟩
      have hb2 := hL2.below
      have HB2 : Hid (Below (w.heap.size + 1) (w.alloc (.cells #[.int .i64 3, .int .u64 (d.1.toNat : Int), .int .u64 (d.2.1.toNat : Int), .int .u64 (d.2.2.1.toNat : Int), .int .u64 (d.2.2.2.toNat : Int), .slice ao 0 cap] 27)) w2) := HB1.out.trans (hb2.mono (by have := HB1.out.size; simp at this; omega))
      clear hb2 hL2 hrh HBLK
      cases m with
      | false =>
        have HT : Hid (classT d = [46]) := by show _ = _; unfold classT; rw [if_neg (by rw [HN.out]; omega), if_pos (HD.out.1 HM.out)]
        go_wp2_with fail
        go_ret
        exact ⟨by rw [HT.out]; rfl, ((Below.refl _ _).alloc (Nat.le_refl _) _).trans (HB2.out.mono (Nat.le_succ _))⟩
      | true =>
        have HND : Hid (¬ d = dot) := fun h => by have := HD.out.2 h; rw [HM.out] at this; cases this
        have hblk : w2.heap[w.heap.size]? = some (.cells #[.int .i64 3, .int .u64 (d.1.toNat : Int), .int .u64 (d.2.1.toNat : Int), .int .u64 (d.2.2.1.toNat : Int), .int .u64 (d.2.2.2.toNat : Int), .slice ao 0 cap] 27) := (HB2.out.block _ (Nat.lt_succ_self _)).trans (block_new w _)
        have y0 : w2.cell? ⟨w.heap.size, 0, none⟩ = some (.int .i64 3) := by simp [World.cell?, hblk]
        have y1 : w2.cell? ⟨w.heap.size, 1, none⟩ = some (.int .u64 (d.1.toNat : Int)) := by simp [World.cell?, hblk]
        have y2 : w2.cell? ⟨w.heap.size, 2, none⟩ = some (.int .u64 (d.2.1.toNat : Int)) := by simp [World.cell?, hblk]
        have y3 : w2.cell? ⟨w.heap.size, 3, none⟩ = some (.int .u64 (d.2.2.1.toNat : Int)) := by simp [World.cell?, hblk]
        have y4 : w2.cell? ⟨w.heap.size, 4, none⟩ = some (.int .u64 (d.2.2.2.toNat : Int)) := by simp [World.cell?, hblk]
        have y5 : w2.cell? ⟨w.heap.size, 5, none⟩ = some (.slice ao 0 cap) := by simp [World.cell?, hblk]
        have HBLK : Hid (w2.heap[w.heap.size]? = some (.cells #[.int .i64 3, .int .u64 (d.1.toNat : Int), .int .u64 (d.2.1.toNat : Int), .int .u64 (d.2.2.1.toNat : Int), .int .u64 (d.2.2.2.toNat : Int), .slice ao 0 cap] 27)) := hblk
        clear hblk
        have hwh := where_any 23 #[.pointer (some ⟨w.heap.size, 0, none⟩)] (fun x => !mem d x) w2 he23 fun W1 x hx hb => clos23 x hx 3 d (.slice ao 0 cap) w.heap.size W1 ((hb.block _ (by have := HB2.out.size; simp at this; omega)).trans HBLK.out)
        rw [wher_neg d] at hwh
        obtain ⟨e, HE⟩ : ∃ e, Hid (neg d = e) := ⟨_, (rfl : neg d = neg d)⟩
        rw [HE.out] at hwh
        obtain ⟨L, HL⟩ : ∃ L, Hid (runsT (mem e) = L) := ⟨_, (rfl : runsT (mem e) = runsT (mem e))⟩
        have hlen : L.length ≤ 2304 := by rw [← HL.out]; exact runsT_length _
        have hsl : (S L).size ≤ 2304 := by rw [S_size]; exact hlen
        have hru := fun W => runs_any e W
        rw [HL.out] at hru
        have HT : Hid (classT d = [91, 94] ++ L ++ [93]) := by show _ = _; unfold classT; rw [if_neg (by rw [HN.out]; omega), if_neg HND.out, if_neg (by rw [HN.out]; omega), HE.out, HL.out]
        go_wp2_with fail
        clear y0 y1 y2 y3 y4 y5
        refine hwh.mono ?_
        rintro _ w3 ⟨rfl, hb3⟩
        have HB3 : Hid (Below (w.heap.size + 1) (w.alloc (.cells #[.int .i64 3, .int .u64 (d.1.toNat : Int), .int .u64 (d.2.1.toNat : Int), .int .u64 (d.2.2.1.toNat : Int), .int .u64 (d.2.2.2.toNat : Int), .slice ao 0 cap] 27)) w3) := HB2.out.trans (hb3.mono (by have := HB2.out.size; simp at this; omega))
        clear hb3 hwh
        go_wp2_with fail
        refine (hru _).mono ?_
        rintro _ w4 ⟨rfl, hb4⟩
        have HB4 : Hid (Below (w.heap.size + 1) (w.alloc (.cells #[.int .i64 3, .int .u64 (d.1.toNat : Int), .int .u64 (d.2.1.toNat : Int), .int .u64 (d.2.2.1.toNat : Int), .int .u64 (d.2.2.2.toNat : Int), .slice ao 0 cap] 27)) w4) := HB3.out.trans (hb4.mono (by have := HB3.out.size; simp at this; omega))
        clear hb4 hru
        go_wp2_with fail
        go_ret
        exact ⟨ret_str (by rw [HT.out]; simp), ((Below.refl _ _).alloc (Nat.le_refl _) _).trans (HB4.out.mono (Nat.le_succ _))⟩
    · have g2 : ((n : Int) == 255) = false := by simp; omega
      have HND : Hid (¬ d = dot) := fun h => by have := ((dot_iff d).2 h).1; rw [HN.out] at this; exact h255 this
      by_cases h128 : 128 < n
      · have g3 : (128 : Int) < (n : Int) := by omega
        have hblk : w1.heap[w.heap.size]? = some (.cells #[.int .i64 3, .int .u64 (d.1.toNat : Int), .int .u64 (d.2.1.toNat : Int), .int .u64 (d.2.2.1.toNat : Int), .int .u64 (d.2.2.2.toNat : Int), .slice ao 0 cap] 27) := (HB1.out.block _ (Nat.lt_succ_self _)).trans (block_new w _)
        have y0 : w1.cell? ⟨w.heap.size, 0, none⟩ = some (.int .i64 3) := by simp [World.cell?, hblk]
        have y1 : w1.cell? ⟨w.heap.size, 1, none⟩ = some (.int .u64 (d.1.toNat : Int)) := by simp [World.cell?, hblk]
        have y2 : w1.cell? ⟨w.heap.size, 2, none⟩ = some (.int .u64 (d.2.1.toNat : Int)) := by simp [World.cell?, hblk]
        have y3 : w1.cell? ⟨w.heap.size, 3, none⟩ = some (.int .u64 (d.2.2.1.toNat : Int)) := by simp [World.cell?, hblk]
        have y4 : w1.cell? ⟨w.heap.size, 4, none⟩ = some (.int .u64 (d.2.2.2.toNat : Int)) := by simp [World.cell?, hblk]
        have y5 : w1.cell? ⟨w.heap.size, 5, none⟩ = some (.slice ao 0 cap) := by simp [World.cell?, hblk]
        have HBLK : Hid (w1.heap[w.heap.size]? = some (.cells #[.int .i64 3, .int .u64 (d.1.toNat : Int), .int .u64 (d.2.1.toNat : Int), .int .u64 (d.2.2.1.toNat : Int), .int .u64 (d.2.2.2.toNat : Int), .slice ao 0 cap] 27)) := hblk
        clear hblk
        have hwh := where_any 23 #[.pointer (some ⟨w.heap.size, 0, none⟩)] (fun x => !mem d x) w1 he23 fun W1 x hx hb => clos23 x hx 3 d (.slice ao 0 cap) w.heap.size W1 ((hb.block _ (by have := HB1.out.size; simp at this; omega)).trans HBLK.out)
        rw [wher_neg d] at hwh
        obtain ⟨e, HE⟩ : ∃ e, Hid (neg d = e) := ⟨_, (rfl : neg d = neg d)⟩
        rw [HE.out] at hwh
        obtain ⟨L, HL⟩ : ∃ L, Hid (runsT (mem e) = L) := ⟨_, (rfl : runsT (mem e) = runsT (mem e))⟩
        have hlen : L.length ≤ 2304 := by rw [← HL.out]; exact runsT_length _
        have hsl : (S L).size ≤ 2304 := by rw [S_size]; exact hlen
        have hru := fun W => runs_any e W
        rw [HL.out] at hru
        have HT : Hid (classT d = [91, 94] ++ L ++ [93]) := by show _ = _; unfold classT; rw [if_neg (by rw [HN.out]; omega), if_neg HND.out, if_neg (by rw [HN.out]; omega), HE.out, HL.out]
        go_wp2_with fail
        clear y0 y1 y2 y3 y4 y5
        refine hwh.mono ?_
        rintro _ w2 ⟨rfl, hb2⟩
        have HB2 : Hid (Below (w.heap.size + 1) (w.alloc (.cells #[.int .i64 3, .int .u64 (d.1.toNat : Int), .int .u64 (d.2.1.toNat : Int), .int .u64 (d.2.2.1.toNat : Int), .int .u64 (d.2.2.2.toNat : Int), .slice ao 0 cap] 27)) w2) := HB1.out.trans (hb2.mono (by have := HB1.out.size; simp at this; omega))
        clear hb2 hwh
        go_wp2_with fail
        refine (hru _).mono ?_
        rintro _ w3 ⟨rfl, hb3⟩
        have HB3 : Hid (Below (w.heap.size + 1) (w.alloc (.cells #[.int .i64 3, .int .u64 (d.1.toNat : Int), .int .u64 (d.2.1.toNat : Int), .int .u64 (d.2.2.1.toNat : Int), .int .u64 (d.2.2.2.toNat : Int), .slice ao 0 cap] 27)) w3) := HB2.out.trans (hb3.mono (by have := HB2.out.size; simp at this; omega))
        clear hb3 hru
        go_wp2_with fail
        go_ret
        exact ⟨ret_str (by rw [HT.out]; simp), ((Below.refl _ _).alloc (Nat.le_refl _) _).trans (HB3.out.mono (Nat.le_succ _))⟩
      · have g3 : decide ((128 : Int) < (n : Int)) = false := by simp; omega
        have hblk : w1.heap[w.heap.size]? = some (.cells #[.int .i64 3, .int .u64 (d.1.toNat : Int), .int .u64 (d.2.1.toNat : Int), .int .u64 (d.2.2.1.toNat : Int), .int .u64 (d.2.2.2.toNat : Int), .slice ao 0 cap] 27) := (HB1.out.block _ (Nat.lt_succ_self _)).trans (block_new w _)
        have y0 : w1.cell? ⟨w.heap.size, 0, none⟩ = some (.int .i64 3) := by simp [World.cell?, hblk]
        have y1 : w1.cell? ⟨w.heap.size, 1, none⟩ = some (.int .u64 (d.1.toNat : Int)) := by simp [World.cell?, hblk]
        have y2 : w1.cell? ⟨w.heap.size, 2, none⟩ = some (.int .u64 (d.2.1.toNat : Int)) := by simp [World.cell?, hblk]
        have y3 : w1.cell? ⟨w.heap.size, 3, none⟩ = some (.int .u64 (d.2.2.1.toNat : Int)) := by simp [World.cell?, hblk]
        have y4 : w1.cell? ⟨w.heap.size, 4, none⟩ = some (.int .u64 (d.2.2.2.toNat : Int)) := by simp [World.cell?, hblk]
        have y5 : w1.cell? ⟨w.heap.size, 5, none⟩ = some (.slice ao 0 cap) := by simp [World.cell?, hblk]
        have HBLK : Hid (w1.heap[w.heap.size]? = some (.cells #[.int .i64 3, .int .u64 (d.1.toNat : Int), .int .u64 (d.2.1.toNat : Int), .int .u64 (d.2.2.1.toNat : Int), .int .u64 (d.2.2.2.toNat : Int), .slice ao 0 cap] 27)) := hblk
        clear hblk
        obtain ⟨L, HL⟩ : ∃ L, Hid (runsT (mem d) = L) := ⟨_, (rfl : runsT (mem d) = runsT (mem d))⟩
        have hlen : L.length ≤ 2304 := by rw [← HL.out]; exact runsT_length _
        have hsl : (S L).size ≤ 2304 := by rw [S_size]; exact hlen
        have hru := fun W => runs_any d W
        rw [HL.out] at hru
        have HT : Hid (classT d = [91] ++ L ++ [93]) := by show _ = _; unfold classT; rw [if_neg (by rw [HN.out]; omega), if_neg HND.out, if_pos (by rw [HN.out]; omega), HL.out]
        clear h1 h255 h128 hcl
        go_wp2_with fail
        clear y0 y1 y2 y3 y4 y5
        refine (hru _).mono ?_
        rintro _ w2 ⟨rfl, hb2⟩
        have HB2 : Hid (Below (w.heap.size + 1) (w.alloc (.cells #[.int .i64 3, .int .u64 (d.1.toNat : Int), .int .u64 (d.2.1.toNat : Int), .int .u64 (d.2.2.1.toNat : Int), .int .u64 (d.2.2.2.toNat : Int), .slice ao 0 cap] 27)) w2) := HB1.out.trans (hb2.mono (by have := HB1.out.size; simp at this; omega))
        clear hb2 hru
        go_wp2_with fail
        go_ret
        exact ⟨ret_str (by rw [HT.out]; simp), ((Below.refl _ _).alloc (Nat.le_refl _) _).trans (HB2.out.mono (Nat.le_succ _))⟩
end Go.Proofs.Ythloedfiomfnbaa
