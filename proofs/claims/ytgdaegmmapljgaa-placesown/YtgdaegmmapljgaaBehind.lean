/-
  The contract of plan.behind: the spots that come next.
-/
import Derived.Test.YtgdaegmmapljgaaLayStar
namespace Go.Proofs.Ytgdaegmmapljgaa
open Go.RowKit
open Cls Rex
theorem info108 : (Try.prog.info? 108).map (fun i => (i.zero, i.size, i.bytes)) = some (some (.agg #[.int .i64 0, .int .i64 0]), 2, 16) := by kernel_rfl
/-- The spots behind one, in their order. -/
def bh (F : List St) (s : ByteArray) (n p : Nat) : List (Nat × Nat) := match F[n]? with
  | none => []
  | some (c, l) => if c = empty then l.map (·, p) else if h : p < s.size then (if mem c (s[p]).toNat then l.map (·, p + 1) else []) else []
def sp (l : List (Nat × Nat)) : List Value := l.flatMap fun q => [.int .i64 (q.1 : Int), .int .i64 (q.2 : Int)]
theorem sp_append (a b : List (Nat × Nat)) : sp (a ++ b) = sp a ++ sp b := by simp [sp]
theorem sp_len (l : List (Nat × Nat)) : (sp l).length = l.length * 2 := by
  induction l with
  | nil => rfl
  | cons q l ih => simp [sp] at ih ⊢; omega
theorem fl_get : ∀ (qs : List (Cl × Value)) (i : Nat) (h : i < qs.length), (fl qs)[i * 5]? = some (.int .u64 (qs[i].1.1.toNat : Int)) ∧ (fl qs)[i * 5 + 1]? = some (.int .u64 (qs[i].1.2.1.toNat : Int)) ∧ (fl qs)[i * 5 + 2]? = some (.int .u64 (qs[i].1.2.2.1.toNat : Int)) ∧ (fl qs)[i * 5 + 3]? = some (.int .u64 (qs[i].1.2.2.2.toNat : Int)) ∧ (fl qs)[i * 5 + 4]? = some qs[i].2
  | q :: qs, 0, _ => by simp [fl]
  | q :: qs, i + 1, h => by
    have := fl_get qs i (by simpa using h)
    have e0 : (i + 1) * 5 = i * 5 + 5 := by omega
    have e1 : (i + 1) * 5 + 1 = i * 5 + 1 + 5 := by omega
    have e2 : (i + 1) * 5 + 2 = i * 5 + 2 + 5 := by omega
    have e3 : (i + 1) * 5 + 3 = i * 5 + 3 + 5 := by omega
    have e4 : (i + 1) * 5 + 4 = i * 5 + 4 + 5 := by omega
    rw [e1, e2, e3, e4, e0]
    have hf : fl (q :: qs) = [.int .u64 (q.1.1.toNat : Int), .int .u64 (q.1.2.1.toNat : Int), .int .u64 (q.1.2.2.1.toNat : Int), .int .u64 (q.1.2.2.2.toNat : Int), q.2] ++ fl qs := by simp [fl]
    have hg : ∀ j, (fl (q :: qs))[j + 5]? = (fl qs)[j]? := fun j => by rw [hf, List.getElem?_append_right (by simp)]; simp
    simp only [hg, List.getElem_cons_succ]
    exact this
/-- One step, read. -/
theorem Pl.readAt {B pp : Nat} {f e : Value} {ps : List St} {W : World} (h : Pl B pp f e ps W) (n : Nat) (c : Cl) (l : List Nat) (hn : ps[n]? = some (c, l)) : ∃ (g cap : Nat) (ao : Option Addr), W.cell? ⟨pp, 0, none⟩ = some (.slice (some ⟨g, 0, none⟩) ps.length cap) ∧ W.cell? ⟨g, n * 5, none⟩ = some (.int .u64 (c.1.toNat : Int)) ∧ W.cell? ⟨g, n * 5 + 1, none⟩ = some (.int .u64 (c.2.1.toNat : Int)) ∧ W.cell? ⟨g, n * 5 + 2, none⟩ = some (.int .u64 (c.2.2.1.toNat : Int)) ∧ W.cell? ⟨g, n * 5 + 3, none⟩ = some (.int .u64 (c.2.2.2.toNat : Int)) ∧ W.cell? ⟨g, n * 5 + 4, none⟩ = some (.slice ao l.length l.length) ∧ (l = [] ∨ ∃ b, ao = some ⟨b, 0, none⟩ ∧ W.heap[b]? = some (.cells (l.map fun n : Nat => Value.int .i64 (n : Int)).toArray 3)) := by
  obtain ⟨hi, hpn⟩ := List.getElem?_eq_some_iff.1 hn
  obtain ⟨sv, qs, h1, h2, h3, h4⟩ := h
  have hq : n < qs.length := by omega
  have h5 := h4 n hq hi
  rw [hpn] at h5
  have h2' := h2.2
  rcases h2' with ⟨_, h0⟩ | ⟨g, cap, cur, rfl, hBg, hg, hr⟩
  · omega
  obtain ⟨e0, e1, e2, e3, e4⟩ := fl_get qs n hq
  rw [h5.1] at e0 e1 e2 e3
  obtain ⟨ao, hnv, hao⟩ : ∃ ao, qs[n].2 = .slice ao l.length l.length ∧ (l = [] ∨ ∃ b, ao = some ⟨b, 0, none⟩ ∧ W.heap[b]? = some (.cells (l.map fun n : Nat => Value.int .i64 (n : Int)).toArray 3)) := by
    rcases h5.2 with ⟨rfl, h⟩ | ⟨b, h, _, hz⟩
    · exact ⟨none, h, Or.inl rfl⟩
    · exact ⟨some ⟨b, 0, none⟩, h, Or.inr ⟨b, rfl, hz⟩⟩
  rw [hnv] at e4
  refine ⟨g, cap, ao, by rw [← h3]; simp [World.cell?, h1], ?_, ?_, ?_, ?_, ?_, hao⟩
  · rw [h2.cellAt _ (by omega)]; exact e0
  · rw [h2.cellAt _ (by omega)]; exact e1
  · rw [h2.cellAt _ (by omega)]; exact e2
  · rw [h2.cellAt _ (by omega)]; exact e3
  · rw [h2.cellAt _ (by omega)]; exact e4
theorem rd_next {W W' : World} {pp bx g cap N n p : Nat} {c : Cl} {l : List Nat} {ao : Option Addr} (h : W.cell? ⟨pp, 0, none⟩ = some (.slice (some ⟨g, 0, none⟩) N cap) ∧ W.cell? ⟨bx, 0, none⟩ = some (.int .i64 (n : Int)) ∧ W.cell? ⟨bx, 1, none⟩ = some (.int .i64 (p : Int)) ∧ W.cell? ⟨g, n * 5, none⟩ = some (.int .u64 (c.1.toNat : Int)) ∧ W.cell? ⟨g, n * 5 + 1, none⟩ = some (.int .u64 (c.2.1.toNat : Int)) ∧ W.cell? ⟨g, n * 5 + 2, none⟩ = some (.int .u64 (c.2.2.1.toNat : Int)) ∧ W.cell? ⟨g, n * 5 + 3, none⟩ = some (.int .u64 (c.2.2.2.toNat : Int)) ∧ W.cell? ⟨g, n * 5 + 4, none⟩ = some (.slice ao l.length l.length)) (hb : Below W.heap.size W W') : W'.cell? ⟨pp, 0, none⟩ = some (.slice (some ⟨g, 0, none⟩) N cap) ∧ W'.cell? ⟨bx, 0, none⟩ = some (.int .i64 (n : Int)) ∧ W'.cell? ⟨bx, 1, none⟩ = some (.int .i64 (p : Int)) ∧ W'.cell? ⟨g, n * 5, none⟩ = some (.int .u64 (c.1.toNat : Int)) ∧ W'.cell? ⟨g, n * 5 + 1, none⟩ = some (.int .u64 (c.2.1.toNat : Int)) ∧ W'.cell? ⟨g, n * 5 + 2, none⟩ = some (.int .u64 (c.2.2.1.toNat : Int)) ∧ W'.cell? ⟨g, n * 5 + 3, none⟩ = some (.int .u64 (c.2.2.2.toNat : Int)) ∧ W'.cell? ⟨g, n * 5 + 4, none⟩ = some (.slice ao l.length l.length) := by
  obtain ⟨h0, h1, h2, h3, h4, h5, h6, h7⟩ := h
  exact ⟨cell_next h0 hb, cell_next h1 hb, cell_next h2 hb, cell_next h3 hb, cell_next h4 hb, cell_next h5 hb, cell_next h6 hb, cell_next h7 hb⟩
/-- What the guarded region keeps. -/
def SB (w0 : World) (hb : Nat) (c : Cl) (W : World) : Prop := Below w0.heap.size w0 W ∧ Bx W hb c
theorem SB.next {w0 : World} {hb : Nat} {c : Cl} (W W' : World) (h : SB w0 hb c W) (hB : Below W.heap.size W W') : SB w0 hb c W' := ⟨h.1.trans (hB.mono h.1.size), h.2.next hB⟩
/-- What behind's first region keeps, whichever of its operations are done. -/
structure CB (wr : World) (pp bx g cap N n p : Nat) (c : Cl) (l : List Nat) (ao : Option Addr) (hb : Nat) (d : Nat → Bool) (x7 x12 x13 x14 x15 x16 x17 x18 x19 : Value) (W : World) : Prop where
  f0 : d 0 = true → x12 = (.pointer (some ⟨pp, 0, none⟩))
  f1 : d 1 = true → x13 = (.pointer (some ⟨pp, 0, none⟩))
  f2 : d 2 = true → x14 = (.pointer (some ⟨pp, 0, none⟩))
  f3 : d 3 = true → x15 = (.slice (some ⟨g, 0, none⟩) N cap)
  f4 : d 4 = true → x16 = (.pointer (some ⟨bx, 0, none⟩))
  f5 : d 5 = true → x17 = (.int .i64 (n : Int))
  f6 : d 6 = true → x18 = (.pointer (some ⟨g, n * 5, none⟩))
  f7 : d 7 = true → x19 = (.agg #[.int .u64 (c.1.toNat : Int), .int .u64 (c.2.1.toNat : Int), .int .u64 (c.2.2.1.toNat : Int), .int .u64 (c.2.2.2.toNat : Int), .slice ao l.length l.length])
  f8 : d 8 = true → x7 = (.pointer (some ⟨hb, 0, none⟩))
  f9 : d 9 = true → True
  below : Below wr.heap.size wr W
  blk0 : d 8 = true → d 9 = false → W.heap[hb]? = some (.cells #[.int .u64 0, .int .u64 0, .int .u64 0, .int .u64 0, .slice none 0 0] 97) ∧ wr.heap.size ≤ hb
  blk1 : d 9 = true → W.heap[hb]? = some (.cells #[.int .u64 (c.1.toNat : Int), .int .u64 (c.2.1.toNat : Int), .int .u64 (c.2.2.1.toNat : Int), .int .u64 (c.2.2.2.toNat : Int), .slice ao l.length l.length] 97) ∧ wr.heap.size ≤ hb
  g9 : d 9 = true → d 8 = true
set_option maxHeartbeats 4000000 in
set_option maxRecDepth 20000 in
theorem rxbehind_any (B pp : Nat) (f e : Value) (F : List St) (s : ByteArray) (n p : Nat) (w : World) (hP : Pl B pp f e F w) (hn : n < F.length) (hF : Fine F) (hp : p ≤ s.size) (hs : s.size ≤ 200) :
    Calls Try.prog 70 #[.pointer (some ⟨pp, 0, none⟩), .agg #[.int .i64 (n : Int), .int .i64 (p : Int)], .string s] w fun e' w' => ∃ v, e' = .returned v ∧ w'.ownsRow w.heap.size 108 2 v (bh F s n p).length (sp (bh F s n p)) ∧ Below w.heap.size w w' ∧ (bh F s n p = [] → v = .slice none 0 0) := by
  obtain ⟨c, l, hnl⟩ : ∃ c l, F[n]? = some (c, l) := ⟨F[n].1, F[n].2, by rw [List.getElem?_eq_getElem hn]⟩
  have hll := (hF n c l hnl).1
  obtain ⟨g, cap, ao, q0, q1, q2, q3, q4, q5, hnx⟩ := hP.readAt n c l hnl
  obtain ⟨N, HN⟩ : ∃ N, Hid (F.length = N) := ⟨_, (rfl : F.length = F.length)⟩
  rw [HN.out] at q0 hn
  obtain ⟨bx, HBX⟩ : ∃ bx, Hid (w.heap.size = bx) := ⟨_, (rfl : w.heap.size = w.heap.size)⟩
  have hb0 := box_keep w (.cells #[.int .i64 (n : Int), .int .i64 (p : Int)] 108)
  have HNX : Hid (∀ k (hk : k < l.length), ∃ b, ao = some ⟨b, 0, none⟩ ∧ b < w.heap.size ∧ w.cell? ⟨b, k, none⟩ = some (.int .i64 (l[k] : Int))) := fun k hk => by
    rcases hnx with h | ⟨b, h1, h2⟩
    · subst h; cases hk
    · refine ⟨b, h1, blk_lt h2, ?_⟩
      rw [cell_of_row w b k _ 3 (0, 0) h2]; simp [hk]
  have HBH : Hid (bh F s n p = if c = empty then l.map (·, p) else if h : p < s.size then (if mem c (s[p]).toNat then l.map (·, p + 1) else []) else []) := by
    show _ = _
    unfold bh
    rw [hnl]
  have hZ := block_new w (.cells #[.int .i64 (n : Int), .int .i64 (p : Int)] 108)
  generalize hwr : w.alloc (.cells #[.int .i64 (n : Int), .int .i64 (p : Int)] 108) = wr at hb0 hZ
  have HWR : Hid (w.alloc (.cells #[.int .i64 (n : Int), .int .i64 (p : Int)] 108) = wr) := hwr
  clear hwr
  rw [HBX.out] at hZ
  have HS : Hid (wr.cell? ⟨pp, 0, none⟩ = some (.slice (some ⟨g, 0, none⟩) N cap) ∧ wr.cell? ⟨bx, 0, none⟩ = some (.int .i64 (n : Int)) ∧ wr.cell? ⟨bx, 1, none⟩ = some (.int .i64 (p : Int)) ∧ wr.cell? ⟨g, n * 5, none⟩ = some (.int .u64 (c.1.toNat : Int)) ∧ wr.cell? ⟨g, n * 5 + 1, none⟩ = some (.int .u64 (c.2.1.toNat : Int)) ∧ wr.cell? ⟨g, n * 5 + 2, none⟩ = some (.int .u64 (c.2.2.1.toNat : Int)) ∧ wr.cell? ⟨g, n * 5 + 3, none⟩ = some (.int .u64 (c.2.2.2.toNat : Int)) ∧ wr.cell? ⟨g, n * 5 + 4, none⟩ = some (.slice ao l.length l.length)) := ⟨cell_next q0 hb0, by simp [World.cell?, hZ], by simp [World.cell?, hZ], cell_next q1 hb0, cell_next q2 hb0, cell_next q3 hb0, cell_next q4 hb0, cell_next q5 hb0⟩
  have hszw : w.heap.size ≤ wr.heap.size := hb0.size
  clear q0 q1 q2 q3 q4 q5 hnx hZ hP hnl hF
  go_enter Try.func70, Try.ntmps70
  go_upto_region 1 with fail
  rw [HBX.out, HWR.out]
  go_cut [7] (fun x7 wx => ∃ hb, x7 = .pointer (some ⟨hb, 0, none⟩) ∧ wr.heap.size ≤ hb ∧ Hid (Below wr.heap.size wr wx ∧ wx.heap[hb]? = some (.cells #[.int .u64 (c.1.toNat : Int), .int .u64 (c.2.1.toNat : Int), .int .u64 (c.2.2.1.toNat : Int), .int .u64 (c.2.2.2.toNat : Int), .slice ao l.length l.length] 97)))
  case first =>
    refine wp_region_inv mixed (fun a0 d a W => ∃ (hb : Nat) (x7 x12 x13 x14 x15 x16 x17 x18 x19 : Value), a = (((((((((a0.put (some 7) x7).put (some 12) x12).put (some 13) x13).put (some 14) x14).put (some 15) x15).put (some 16) x16).put (some 17) x17).put (some 18) x18).put (some 19) x19) ∧ Hid (CB wr pp bx g cap N n p c l ao hb d x7 x12 x13 x14 x15 x16 x17 x18 x19 W)) (by kernel_rfl) ⟨0, undef, undef, undef, undef, undef, undef, undef, undef, undef, by simp only [Act.put, List.setIfInBounds_toArray, List.set_cons_zero, List.set_cons_succ], ?_⟩ ?_ ?_
    · exact ⟨fun h => rxno_way h, fun h => rxno_way h, fun h => rxno_way h, fun h => rxno_way h, fun h => rxno_way h, fun h => rxno_way h, fun h => rxno_way h, fun h => rxno_way h, fun h => rxno_way h, fun _ => trivial, (Below.refl _ wr).drew, fun h _ => rxno_way h, fun h => rxno_way h, fun h => rxno_way h⟩
    · simp only [StepAll, and_true]
      refine ⟨?_, ?_, ?_, ?_, ?_, ?_, ?_, ?_, ?_, ?_⟩
      · intro d a W hI hd hdep
        obtain ⟨hb, x7, x12, x13, x14, x15, x16, x17, x18, x19, rfl, hF⟩ := hI
        clear hdep hd
        intro K hK
        simp only [Act.put, List.setIfInBounds_toArray, List.set_cons_zero, List.set_cons_succ]
        go_simp
        refine hK.out _ _ ⟨hb, x7, (.pointer (some ⟨pp, 0, none⟩)), x13, x14, x15, x16, x17, x18, x19, by simp only [Act.put, List.setIfInBounds_toArray, List.set_cons_zero, List.set_cons_succ], ?_⟩
        exact ⟨fun _ => rfl, fun h => hF.out.f1 (by simpa using h), fun h => hF.out.f2 (by simpa using h), fun h => hF.out.f3 (by simpa using h), fun h => hF.out.f4 (by simpa using h), fun h => hF.out.f5 (by simpa using h), fun h => hF.out.f6 (by simpa using h), fun h => hF.out.f7 (by simpa using h), fun h => hF.out.f8 (by simpa using h), fun h => hF.out.f9 (by simpa using h), hF.out.below, fun h h2 => hF.out.blk0 (by simpa using h) (by simpa using h2), fun h => hF.out.blk1 (by simpa using h), fun h => by simpa using hF.out.g9 (by simpa using h)⟩
      · intro d a W hI hd hdep
        obtain ⟨hb, x7, x12, x13, x14, x15, x16, x17, x18, x19, rfl, hF⟩ := hI
        have hd0 : d 0 = true := rxdep_of hdep 0 (by kernel_rfl)
        obtain rfl := hF.out.f0 hd0
        clear hdep hd hd0
        intro K hK
        simp only [Act.put, List.setIfInBounds_toArray, List.set_cons_zero, List.set_cons_succ]
        go_simp
        refine hK.out _ _ ⟨hb, x7, (.pointer (some ⟨pp, 0, none⟩)), (.pointer (some ⟨pp, 0, none⟩)), x14, x15, x16, x17, x18, x19, by simp only [Act.put, List.setIfInBounds_toArray, List.set_cons_zero, List.set_cons_succ], ?_⟩
        exact ⟨fun h => hF.out.f0 (by simpa using h), fun _ => rfl, fun h => hF.out.f2 (by simpa using h), fun h => hF.out.f3 (by simpa using h), fun h => hF.out.f4 (by simpa using h), fun h => hF.out.f5 (by simpa using h), fun h => hF.out.f6 (by simpa using h), fun h => hF.out.f7 (by simpa using h), fun h => hF.out.f8 (by simpa using h), fun h => hF.out.f9 (by simpa using h), hF.out.below, fun h h2 => hF.out.blk0 (by simpa using h) (by simpa using h2), fun h => hF.out.blk1 (by simpa using h), fun h => by simpa using hF.out.g9 (by simpa using h)⟩
      · intro d a W hI hd hdep
        obtain ⟨hb, x7, x12, x13, x14, x15, x16, x17, x18, x19, rfl, hF⟩ := hI
        have hd1 : d 1 = true := rxdep_of hdep 1 (by kernel_rfl)
        obtain rfl := hF.out.f1 hd1
        clear hdep hd hd1
        intro K hK
        simp only [Act.put, List.setIfInBounds_toArray, List.set_cons_zero, List.set_cons_succ]
        go_simp
        refine hK.out _ _ ⟨hb, x7, x12, (.pointer (some ⟨pp, 0, none⟩)), (.pointer (some ⟨pp, 0, none⟩)), x15, x16, x17, x18, x19, by simp only [Act.put, List.setIfInBounds_toArray, List.set_cons_zero, List.set_cons_succ], ?_⟩
        exact ⟨fun h => hF.out.f0 (by simpa using h), fun h => hF.out.f1 (by simpa using h), fun _ => rfl, fun h => hF.out.f3 (by simpa using h), fun h => hF.out.f4 (by simpa using h), fun h => hF.out.f5 (by simpa using h), fun h => hF.out.f6 (by simpa using h), fun h => hF.out.f7 (by simpa using h), fun h => hF.out.f8 (by simpa using h), fun h => hF.out.f9 (by simpa using h), hF.out.below, fun h h2 => hF.out.blk0 (by simpa using h) (by simpa using h2), fun h => hF.out.blk1 (by simpa using h), fun h => by simpa using hF.out.g9 (by simpa using h)⟩
      · intro d a W hI hd hdep
        obtain ⟨hb, x7, x12, x13, x14, x15, x16, x17, x18, x19, rfl, hF⟩ := hI
        have hd2 : d 2 = true := rxdep_of hdep 2 (by kernel_rfl)
        obtain rfl := hF.out.f2 hd2
        have HSW : Hid (W.cell? ⟨pp, 0, none⟩ = some (.slice (some ⟨g, 0, none⟩) N cap) ∧ W.cell? ⟨bx, 0, none⟩ = some (.int .i64 (n : Int)) ∧ W.cell? ⟨bx, 1, none⟩ = some (.int .i64 (p : Int)) ∧ W.cell? ⟨g, n * 5, none⟩ = some (.int .u64 (c.1.toNat : Int)) ∧ W.cell? ⟨g, n * 5 + 1, none⟩ = some (.int .u64 (c.2.1.toNat : Int)) ∧ W.cell? ⟨g, n * 5 + 2, none⟩ = some (.int .u64 (c.2.2.1.toNat : Int)) ∧ W.cell? ⟨g, n * 5 + 3, none⟩ = some (.int .u64 (c.2.2.2.toNat : Int)) ∧ W.cell? ⟨g, n * 5 + 4, none⟩ = some (.slice ao l.length l.length)) := rd_next HS.out hF.out.below
        have s0 := HSW.out.1
        clear HSW
        clear hdep hd hd2
        intro K hK
        simp only [Act.put, List.setIfInBounds_toArray, List.set_cons_zero, List.set_cons_succ]
        go_simp
        refine hK.out _ _ ⟨hb, x7, x12, x13, (.pointer (some ⟨pp, 0, none⟩)), (.slice (some ⟨g, 0, none⟩) N cap), x16, x17, x18, x19, by simp only [Act.put, List.setIfInBounds_toArray, List.set_cons_zero, List.set_cons_succ], ?_⟩
        exact ⟨fun h => hF.out.f0 (by simpa using h), fun h => hF.out.f1 (by simpa using h), fun h => hF.out.f2 (by simpa using h), fun _ => rfl, fun h => hF.out.f4 (by simpa using h), fun h => hF.out.f5 (by simpa using h), fun h => hF.out.f6 (by simpa using h), fun h => hF.out.f7 (by simpa using h), fun h => hF.out.f8 (by simpa using h), fun h => hF.out.f9 (by simpa using h), hF.out.below, fun h h2 => hF.out.blk0 (by simpa using h) (by simpa using h2), fun h => hF.out.blk1 (by simpa using h), fun h => by simpa using hF.out.g9 (by simpa using h)⟩
      · intro d a W hI hd hdep
        obtain ⟨hb, x7, x12, x13, x14, x15, x16, x17, x18, x19, rfl, hF⟩ := hI
        clear hdep hd
        intro K hK
        simp only [Act.put, List.setIfInBounds_toArray, List.set_cons_zero, List.set_cons_succ]
        go_simp
        refine hK.out _ _ ⟨hb, x7, x12, x13, x14, x15, (.pointer (some ⟨bx, 0, none⟩)), x17, x18, x19, by simp only [Act.put, List.setIfInBounds_toArray, List.set_cons_zero, List.set_cons_succ], ?_⟩
        exact ⟨fun h => hF.out.f0 (by simpa using h), fun h => hF.out.f1 (by simpa using h), fun h => hF.out.f2 (by simpa using h), fun h => hF.out.f3 (by simpa using h), fun _ => rfl, fun h => hF.out.f5 (by simpa using h), fun h => hF.out.f6 (by simpa using h), fun h => hF.out.f7 (by simpa using h), fun h => hF.out.f8 (by simpa using h), fun h => hF.out.f9 (by simpa using h), hF.out.below, fun h h2 => hF.out.blk0 (by simpa using h) (by simpa using h2), fun h => hF.out.blk1 (by simpa using h), fun h => by simpa using hF.out.g9 (by simpa using h)⟩
      · intro d a W hI hd hdep
        obtain ⟨hb, x7, x12, x13, x14, x15, x16, x17, x18, x19, rfl, hF⟩ := hI
        have hd4 : d 4 = true := rxdep_of hdep 4 (by kernel_rfl)
        obtain rfl := hF.out.f4 hd4
        have HSW : Hid (W.cell? ⟨pp, 0, none⟩ = some (.slice (some ⟨g, 0, none⟩) N cap) ∧ W.cell? ⟨bx, 0, none⟩ = some (.int .i64 (n : Int)) ∧ W.cell? ⟨bx, 1, none⟩ = some (.int .i64 (p : Int)) ∧ W.cell? ⟨g, n * 5, none⟩ = some (.int .u64 (c.1.toNat : Int)) ∧ W.cell? ⟨g, n * 5 + 1, none⟩ = some (.int .u64 (c.2.1.toNat : Int)) ∧ W.cell? ⟨g, n * 5 + 2, none⟩ = some (.int .u64 (c.2.2.1.toNat : Int)) ∧ W.cell? ⟨g, n * 5 + 3, none⟩ = some (.int .u64 (c.2.2.2.toNat : Int)) ∧ W.cell? ⟨g, n * 5 + 4, none⟩ = some (.slice ao l.length l.length)) := rd_next HS.out hF.out.below
        have s0 := HSW.out.2.1
        clear HSW
        clear hdep hd hd4
        intro K hK
        simp only [Act.put, List.setIfInBounds_toArray, List.set_cons_zero, List.set_cons_succ]
        go_simp
        refine hK.out _ _ ⟨hb, x7, x12, x13, x14, x15, (.pointer (some ⟨bx, 0, none⟩)), (.int .i64 (n : Int)), x18, x19, by simp only [Act.put, List.setIfInBounds_toArray, List.set_cons_zero, List.set_cons_succ], ?_⟩
        exact ⟨fun h => hF.out.f0 (by simpa using h), fun h => hF.out.f1 (by simpa using h), fun h => hF.out.f2 (by simpa using h), fun h => hF.out.f3 (by simpa using h), fun h => hF.out.f4 (by simpa using h), fun _ => rfl, fun h => hF.out.f6 (by simpa using h), fun h => hF.out.f7 (by simpa using h), fun h => hF.out.f8 (by simpa using h), fun h => hF.out.f9 (by simpa using h), hF.out.below, fun h h2 => hF.out.blk0 (by simpa using h) (by simpa using h2), fun h => hF.out.blk1 (by simpa using h), fun h => by simpa using hF.out.g9 (by simpa using h)⟩
      · intro d a W hI hd hdep
        obtain ⟨hb, x7, x12, x13, x14, x15, x16, x17, x18, x19, rfl, hF⟩ := hI
        have hd3 : d 3 = true := rxdep_of hdep 3 (by kernel_rfl)
        have hd5 : d 5 = true := rxdep_of hdep 5 (by kernel_rfl)
        obtain rfl := hF.out.f3 hd3
        obtain rfl := hF.out.f5 hd5
        clear hdep hd hd3 hd5
        intro K hK
        simp only [Act.put, List.setIfInBounds_toArray, List.set_cons_zero, List.set_cons_succ]
        go_simp
        refine hK.out _ _ ⟨hb, x7, x12, x13, x14, (.slice (some ⟨g, 0, none⟩) N cap), x16, (.int .i64 (n : Int)), (.pointer (some ⟨g, n * 5, none⟩)), x19, by simp only [Act.put, List.setIfInBounds_toArray, List.set_cons_zero, List.set_cons_succ], ?_⟩
        exact ⟨fun h => hF.out.f0 (by simpa using h), fun h => hF.out.f1 (by simpa using h), fun h => hF.out.f2 (by simpa using h), fun h => hF.out.f3 (by simpa using h), fun h => hF.out.f4 (by simpa using h), fun h => hF.out.f5 (by simpa using h), fun _ => rfl, fun h => hF.out.f7 (by simpa using h), fun h => hF.out.f8 (by simpa using h), fun h => hF.out.f9 (by simpa using h), hF.out.below, fun h h2 => hF.out.blk0 (by simpa using h) (by simpa using h2), fun h => hF.out.blk1 (by simpa using h), fun h => by simpa using hF.out.g9 (by simpa using h)⟩
      · intro d a W hI hd hdep
        obtain ⟨hb, x7, x12, x13, x14, x15, x16, x17, x18, x19, rfl, hF⟩ := hI
        have hd6 : d 6 = true := rxdep_of hdep 6 (by kernel_rfl)
        obtain rfl := hF.out.f6 hd6
        have HSW : Hid (W.cell? ⟨pp, 0, none⟩ = some (.slice (some ⟨g, 0, none⟩) N cap) ∧ W.cell? ⟨bx, 0, none⟩ = some (.int .i64 (n : Int)) ∧ W.cell? ⟨bx, 1, none⟩ = some (.int .i64 (p : Int)) ∧ W.cell? ⟨g, n * 5, none⟩ = some (.int .u64 (c.1.toNat : Int)) ∧ W.cell? ⟨g, n * 5 + 1, none⟩ = some (.int .u64 (c.2.1.toNat : Int)) ∧ W.cell? ⟨g, n * 5 + 2, none⟩ = some (.int .u64 (c.2.2.1.toNat : Int)) ∧ W.cell? ⟨g, n * 5 + 3, none⟩ = some (.int .u64 (c.2.2.2.toNat : Int)) ∧ W.cell? ⟨g, n * 5 + 4, none⟩ = some (.slice ao l.length l.length)) := rd_next HS.out hF.out.below
        have s0 := HSW.out.2.2.2.1
        have s1 := HSW.out.2.2.2.2.1
        have s2 := HSW.out.2.2.2.2.2.1
        have s3 := HSW.out.2.2.2.2.2.2.1
        have s4 := HSW.out.2.2.2.2.2.2.2
        clear HSW
        clear hdep hd hd6
        intro K hK
        simp only [Act.put, List.setIfInBounds_toArray, List.set_cons_zero, List.set_cons_succ]
        go_simp
        refine hK.out _ _ ⟨hb, x7, x12, x13, x14, x15, x16, x17, (.pointer (some ⟨g, n * 5, none⟩)), (.agg #[.int .u64 (c.1.toNat : Int), .int .u64 (c.2.1.toNat : Int), .int .u64 (c.2.2.1.toNat : Int), .int .u64 (c.2.2.2.toNat : Int), .slice ao l.length l.length]), by simp only [Act.put, List.setIfInBounds_toArray, List.set_cons_zero, List.set_cons_succ], ?_⟩
        exact ⟨fun h => hF.out.f0 (by simpa using h), fun h => hF.out.f1 (by simpa using h), fun h => hF.out.f2 (by simpa using h), fun h => hF.out.f3 (by simpa using h), fun h => hF.out.f4 (by simpa using h), fun h => hF.out.f5 (by simpa using h), fun h => hF.out.f6 (by simpa using h), fun _ => rfl, fun h => hF.out.f8 (by simpa using h), fun h => hF.out.f9 (by simpa using h), hF.out.below, fun h h2 => hF.out.blk0 (by simpa using h) (by simpa using h2), fun h => hF.out.blk1 (by simpa using h), fun h => by simpa using hF.out.g9 (by simpa using h)⟩
      · intro d a W hI hd hdep
        obtain ⟨hb, x7, x12, x13, x14, x15, x16, x17, x18, x19, rfl, hF⟩ := hI
        have h9 : d 9 = false := by
          cases hx : d 9 with
          | false => rfl
          | true => have := hF.out.g9 hx; rw [hd] at this; cases this
        have HD : Hid (d 9 = false) := h9
        clear h9
        clear hdep hd
        intro K hK
        simp only [Act.put, List.setIfInBounds_toArray, List.set_cons_zero, List.set_cons_succ]
        go_simp
        refine hK.out _ _ ⟨W.heap.size, (.pointer (some ⟨W.heap.size, 0, none⟩)), x12, x13, x14, x15, x16, x17, x18, x19, by simp only [Act.put, List.setIfInBounds_toArray, List.set_cons_zero, List.set_cons_succ], ?_⟩
        have hb := box_keep W (.cells #[.int .u64 0, .int .u64 0, .int .u64 0, .int .u64 0, .slice none 0 0] 97)
        exact ⟨fun h => hF.out.f0 (by simpa using h), fun h => hF.out.f1 (by simpa using h), fun h => hF.out.f2 (by simpa using h), fun h => hF.out.f3 (by simpa using h), fun h => hF.out.f4 (by simpa using h), fun h => hF.out.f5 (by simpa using h), fun h => hF.out.f6 (by simpa using h), fun h => hF.out.f7 (by simpa using h), fun _ => rfl, fun h => hF.out.f9 (by simpa using h), hF.out.below.alloc hF.out.below.size _, fun _ _ => ⟨block_new W _, hF.out.below.size⟩, fun h => rxno_way (HD.out.symm.trans (show d 9 = true by simpa using h)), fun _ => by simp⟩
      · intro d a W hI hd hdep
        obtain ⟨hb, x7, x12, x13, x14, x15, x16, x17, x18, x19, rfl, hF⟩ := hI
        have hd7 : d 7 = true := rxdep_of hdep 7 (by kernel_rfl)
        have hd8 : d 8 = true := rxdep_of hdep 8 (by kernel_rfl)
        obtain rfl := hF.out.f7 hd7
        obtain rfl := hF.out.f8 hd8
        have hz := (hF.out.blk0 hd8 hd).1
        have hlo := (hF.out.blk0 hd8 hd).2
        have b0 := cell_of_row W hb 0 _ 97 (0, 0) hz
        have b1 := cell_of_row W hb 1 _ 97 (0, 0) hz
        have b2 := cell_of_row W hb 2 _ 97 (0, 0) hz
        have b3 := cell_of_row W hb 3 _ 97 (0, 0) hz
        have b4 := cell_of_row W hb 4 _ 97 (0, 0) hz
        have r0 := frozen_of_row W hb 0 _ 97 hz
        have r1 := frozen_of_row W hb 1 _ 97 hz
        have r2 := frozen_of_row W hb 2 _ 97 hz
        have r3 := frozen_of_row W hb 3 _ 97 hz
        have r4 := frozen_of_row W hb 4 _ 97 hz
        have HZB : Hid (W.heap[hb]? = some (.cells #[.int .u64 0, .int .u64 0, .int .u64 0, .int .u64 0, .slice none 0 0] 97)) := hz
        have HD : Hid (d 8 = true) := hd8
        clear hz
        clear hdep hd hd7 hd8
        intro K hK
        simp only [Act.put, List.setIfInBounds_toArray, List.set_cons_zero, List.set_cons_succ]
        go_simp
        refine hK.out _ _ ⟨hb, (.pointer (some ⟨hb, 0, none⟩)), x12, x13, x14, x15, x16, x17, x18, (.agg #[.int .u64 (c.1.toNat : Int), .int .u64 (c.2.1.toNat : Int), .int .u64 (c.2.2.1.toNat : Int), .int .u64 (c.2.2.2.toNat : Int), .slice ao l.length l.length]), by simp only [Act.put, List.setIfInBounds_toArray, List.set_cons_zero, List.set_cons_succ], ?_⟩
        have z0 := heap_setCell_same W hb 0 _ 97 (.int .u64 (c.1.toNat : Int)) HZB.out
        have z1 := heap_setCell_same _ hb 1 _ 97 (.int .u64 (c.2.1.toNat : Int)) z0
        have z2 := heap_setCell_same _ hb 2 _ 97 (.int .u64 (c.2.2.1.toNat : Int)) z1
        have z3 := heap_setCell_same _ hb 3 _ 97 (.int .u64 (c.2.2.2.toNat : Int)) z2
        have z4 := heap_setCell_same _ hb 4 _ 97 (.slice ao l.length l.length) z3
        have hb5 := ((((hF.out.below.setCell (p := ⟨hb, 0, none⟩) hlo (.int .u64 (c.1.toNat : Int))).setCell (p := ⟨hb, 1, none⟩) hlo (.int .u64 (c.2.1.toNat : Int))).setCell (p := ⟨hb, 2, none⟩) hlo (.int .u64 (c.2.2.1.toNat : Int))).setCell (p := ⟨hb, 3, none⟩) hlo (.int .u64 (c.2.2.2.toNat : Int))).setCell (p := ⟨hb, 4, none⟩) hlo (.slice ao l.length l.length)
        exact ⟨fun h => hF.out.f0 (by simpa using h), fun h => hF.out.f1 (by simpa using h), fun h => hF.out.f2 (by simpa using h), fun h => hF.out.f3 (by simpa using h), fun h => hF.out.f4 (by simpa using h), fun h => hF.out.f5 (by simpa using h), fun h => hF.out.f6 (by simpa using h), fun h => hF.out.f7 (by simpa using h), fun h => hF.out.f8 (by simpa using h), fun _ => trivial, hb5, fun _ h => by simp at h, fun _ => ⟨z4, hlo⟩, fun _ => by simpa using HD.out⟩
    · intro d a W hI hall
      obtain ⟨hb, x7, x12, x13, x14, x15, x16, x17, x18, x19, rfl, hF⟩ := hI
      simp only [List.length_cons, List.length_nil] at hall
      obtain rfl := hF.out.f0 (hall 0 (by omega))
      obtain rfl := hF.out.f1 (hall 1 (by omega))
      obtain rfl := hF.out.f2 (hall 2 (by omega))
      obtain rfl := hF.out.f3 (hall 3 (by omega))
      obtain rfl := hF.out.f4 (hall 4 (by omega))
      obtain rfl := hF.out.f5 (hall 5 (by omega))
      obtain rfl := hF.out.f6 (hall 6 (by omega))
      obtain rfl := hF.out.f7 (hall 7 (by omega))
      obtain rfl := hF.out.f8 (hall 8 (by omega))
      have HF : Hid (Below wr.heap.size wr W ∧ W.heap[hb]? = some (.cells #[.int .u64 (c.1.toNat : Int), .int .u64 (c.2.1.toNat : Int), .int .u64 (c.2.2.1.toNat : Int), .int .u64 (c.2.2.2.toNat : Int), .slice ao l.length l.length] 97)) := ⟨hF.out.below, (hF.out.blk1 (hall 9 (by omega))).1⟩
      have hlo := (hF.out.blk1 (hall 9 (by omega))).2
      clear hF hall
      simp only [Act.put, List.setIfInBounds_toArray, List.set_cons_zero, List.set_cons_succ]
      go_wp2_with fail
      go_meet
      case rel => exact ⟨hb, rfl, hlo, HF⟩
  case rest =>
    obtain ⟨hb, rfl, hlo, HX⟩ := hcut
    obtain ⟨hc, HC⟩ : ∃ hc, Hid (decide (c = empty) = hc) := ⟨_, (rfl : decide (c = empty) = decide (c = empty))⟩
    obtain ⟨i0, hi, hz0, hz1, hz2⟩ := info_parts info108
    have hq : ∀ W, (Op.equalIn 10000 42 (.agg #[.int .u64 (c.1.toNat : Int), .int .u64 (c.2.1.toNat : Int), .int .u64 (c.2.2.1.toNat : Int), .int .u64 (c.2.2.2.toNat : Int)]) (.agg #[.int .u64 0, .int .u64 0, .int .u64 0, .int .u64 0])).run Try.prog W = .ok hc W := fun W => by rw [eqIn_zero, HC.out]
    have hgd := guard24
    have HBW : Hid (Below w.heap.size w wc) := hb0.trans (HX.out.1.mono hszw)
    obtain ⟨s0, s1, s2, _⟩ := rd_next HS.out HX.out.1
    have b0 := cell_of_row wc hb 0 _ 97 (0, 0) HX.out.2
    have b1 := cell_of_row wc hb 1 _ 97 (0, 0) HX.out.2
    have b2 := cell_of_row wc hb 2 _ 97 (0, 0) HX.out.2
    have b3 := cell_of_row wc hb 3 _ 97 (0, 0) HX.out.2
    have b4 := cell_of_row wc hb 4 _ 97 (0, 0) HX.out.2
    simp at b0 b1 b2 b3 b4
    by_cases hce : c = empty
    · have hct : hc = true := by rw [← HC.out]; simp [hce]
      subst hct
      have HBE : Hid (bh F s n p = l.map (·, p)) := by
        show _ = _
        rw [HBH.out, if_pos hce]
      clear hce
      go_wp2_with fail
      go_loopw [9, 44] (fun v9 i wx => ∃ k : Nat, k ≤ l.length ∧ i = .int .i64 (k : Int) ∧ Hid (wx.ownsRow w.heap.size 108 2 v9 k (sp ((l.take k).map (·, p))) ∧ Below w.heap.size w wx ∧ (k = 0 → v9 = .slice none 0 0))) (fun _ i _ => l.length - (intOf i).toNat)
      case atStart => exact ⟨0, Nat.zero_le _, rfl, by simpa [sp] using World.ownsRow_nil _ w.heap.size 108 2, HBW.out, fun _ => rfl⟩
      case round =>
        obtain ⟨k, hk, rfl, HR⟩ := hrel
        by_cases hlt : k < l.length
        · obtain ⟨bn, hao, hbn, hcn⟩ := HNX.out k hlt
          subst hao
          have hcw := (HR.out.2.1.cell (p := ⟨bn, k, none⟩) hbn).trans hcn
          have HTK : Hid ((l.take (k + 1)).map (·, p) = (l.take k).map (·, p) ++ [(l[k], p)]) := by
            show _ = _
            rw [List.take_succ_eq_append_getElem hlt, List.map_append]; rfl
          obtain ⟨m, HM⟩ : ∃ m, Hid (l[k] = m) := ⟨_, (rfl : l[k] = l[k])⟩
          rw [HM.out] at hcw HTK
          have hszr := HR.out.2.1.size
          clear hcn
          go_wp2_with (first
            | (at_builtin; refine wpList_append_own _ rfl _ _ 109 rfl w.heap.size 108 i0 (.agg #[.int .i64 0, .int .i64 0]) 2 16 Try.underlying109 hi hz0 hz1 hz2 rfl (by decide) _ _ _ rfl (HR.out.1.alloc _) ⟨wr.heap.size, 0, none⟩ 1 1 [.int .i64 (m : Int), .int .i64 (((p : Nat)) : Int)] rfl rfl (World.news_of_block (t := 108) (fr := (0, 0)) (heap_alloc_new wr _)) (by simp [Value.oneCell']) (by unfold maxLen; omega) (by omega) (by simp; omega) ?_; intro v' w4 hown' hgrow _)
            | go_in)
          have hz4 := hgrow.size
          simp at hz4
          go_roundw
          case rel =>
            refine ⟨k + 1, by omega, by go_num, ?_, ?_, fun h => by omega⟩
            · rw [HTK.out, sp_append]; exact hown'
            · exact (HR.out.2.1.alloc HR.out.2.1.size _).grown hgrow (by simp; omega) (fun j hj => rxown_ge HR.out.1 _ hj)
          case measure => simp [intOf]; omega
        · have e : k = l.length := by omega
          subst e
          go_wp2_with fail
          go_ret
          refine ⟨_, rfl, ?_, HR.out.2.1, fun h => HR.out.2.2 (by rw [HBE.out] at h; simpa using congrArg List.length h)⟩
          have h := HR.out.1
          rw [List.take_length] at h
          rw [HBE.out]
          simpa using h
    · have hct : hc = false := by rw [← HC.out]; simp [hce]
      subst hct
      have HE : Hid (¬ c = empty) := hce
      clear hce
      go_upto_region 4 with fail
      have S1 : SB wc hb c wc.drew := ⟨(Below.refl _ _).drew, b0, b1, b2, b3⟩
      have p0 : ∀ p : Kp (SB wc hb c), p.W.cell? ⟨hb, 0, none⟩ = some (.int .u64 (c.1.toNat : Int)) := fun p => p.h.2.1
      have p1 : ∀ p : Kp (SB wc hb c), p.W.cell? ⟨hb, 1, none⟩ = some (.int .u64 (c.2.1.toNat : Int)) := fun p => p.h.2.2.1
      have p2 : ∀ p : Kp (SB wc hb c), p.W.cell? ⟨hb, 2, none⟩ = some (.int .u64 (c.2.2.1.toNat : Int)) := fun p => p.h.2.2.2.1
      have p3 : ∀ p : Kp (SB wc hb c), p.W.cell? ⟨hb, 3, none⟩ = some (.int .u64 (c.2.2.2.toNat : Int)) := fun p => p.h.2.2.2.2
      have hne : Nonempty (Kp (SB wc hb c)) := ⟨⟨_, S1⟩⟩
      by_cases hps : p < s.size
      · have hpe : ((p : Int) == (s.size : Int)) = false := by simp; omega
        obtain ⟨b, HBB⟩ : ∃ b : Nat, Hid (s[p].toNat = b) := ⟨_, (rfl : s[p].toNat = s[p].toNat)⟩
        have hb256 : b < 256 := by rw [← HBB.out]; exact s[p].toNat_lt
        have hix : ∀ w, (Instr.index 9 (.string s) (.int .i64 (p : Int))).run Try.prog w = .ok (.int .u8 (b : Int)) w := fun w => by
          rw [← HBB.out, run_index_string (h := Try.underlying9), dif_pos ⟨by omega, by omega⟩]
          rfl
        cases hm : mem c b with
        | true =>
          have HHA : Hid (∀ W, Calls Try.prog 61 #[.agg #[.int .u64 (c.1.toNat : Int), .int .u64 (c.2.1.toNat : Int), .int .u64 (c.2.2.1.toNat : Int), .int .u64 (c.2.2.2.toNat : Int)], .int .u8 (b : Int)] W fun e w' => e = .returned (.bool true) ∧ Lays W w') := fun W => by
            have h := has_any c _ b rfl hb256 W
            rw [hm] at h
            exact h
          have HBE : Hid (bh F s n p = l.map (·, p + 1)) := by
            show _ = _
            rw [HBH.out, if_neg HE.out, dif_pos hps, HBB.out, if_pos hm]
          clear hm
          refine wp_region_kept mixed (by kernel_rfl) S1 ?_
          clear S1
          repeat (go_big_quiet_step (first | (go_at_call 61; with_reducible exact Kp.calls_lays _ SB.next (HHA.out _))))
          refine wpQuiet_nil ?_
          intro W1 hw1
          obtain ⟨⟨W1, HS1⟩, rfl⟩ := hw1
          have HBV : Hid (Below w.heap.size w W1) := HBW.out.trans (HS1.1.mono HBW.out.size)
          have b4' := cell_next b4 HS1.1
          clear p0 p1 p2 p3 hne b0 b1 b2 b3 HX
          have HBW : Hid (Below w.heap.size w W1) := HBV.out
          go_wp2_with fail
          go_loopw [9, 44] (fun v9 i wx => ∃ k : Nat, k ≤ l.length ∧ i = .int .i64 (k : Int) ∧ Hid (wx.ownsRow w.heap.size 108 2 v9 k (sp ((l.take k).map (·, p + 1))) ∧ Below w.heap.size w wx ∧ (k = 0 → v9 = .slice none 0 0))) (fun _ i _ => l.length - (intOf i).toNat)
          case atStart => exact ⟨0, Nat.zero_le _, rfl, by simpa [sp] using World.ownsRow_nil _ w.heap.size 108 2, HBW.out, fun _ => rfl⟩
          case round =>
            obtain ⟨k, hk, rfl, HR⟩ := hrel
            by_cases hlt : k < l.length
            · obtain ⟨bn, hao, hbn, hcn⟩ := HNX.out k hlt
              subst hao
              have hcw := (HR.out.2.1.cell (p := ⟨bn, k, none⟩) hbn).trans hcn
              have HTK : Hid ((l.take (k + 1)).map (·, p + 1) = (l.take k).map (·, p + 1) ++ [(l[k], p + 1)]) := by
                show _ = _
                rw [List.take_succ_eq_append_getElem hlt, List.map_append]; rfl
              obtain ⟨m, HM⟩ : ∃ m, Hid (l[k] = m) := ⟨_, (rfl : l[k] = l[k])⟩
              rw [HM.out] at hcw HTK
              have hszr := HR.out.2.1.size
              clear hcn
              go_wp2_with (first
                | (at_builtin; refine wpList_append_own _ rfl _ _ 109 rfl w.heap.size 108 i0 (.agg #[.int .i64 0, .int .i64 0]) 2 16 Try.underlying109 hi hz0 hz1 hz2 rfl (by decide) _ _ _ rfl (HR.out.1.alloc _) ⟨wr.heap.size, 0, none⟩ 1 1 [.int .i64 (m : Int), .int .i64 (((p + 1 : Nat)) : Int)] rfl rfl (World.news_of_block (t := 108) (fr := (0, 0)) (heap_alloc_new wr _)) (by simp [Value.oneCell']) (by unfold maxLen; omega) (by omega) (by simp; omega) ?_; intro v' w4 hown' hgrow _)
                | go_in)
              have hz4 := hgrow.size
              simp at hz4
              go_roundw
              case rel =>
                refine ⟨k + 1, by omega, by go_num, ?_, ?_, fun h => by omega⟩
                · rw [HTK.out, sp_append]; exact hown'
                · exact (HR.out.2.1.alloc HR.out.2.1.size _).grown hgrow (by simp; omega) (fun j hj => rxown_ge HR.out.1 _ hj)
              case measure => simp [intOf]; omega
            · have e : k = l.length := by omega
              subst e
              go_wp2_with fail
              go_ret
              refine ⟨_, rfl, ?_, HR.out.2.1, fun h => HR.out.2.2 (by rw [HBE.out] at h; simpa using congrArg List.length h)⟩
              have h := HR.out.1
              rw [List.take_length] at h
              rw [HBE.out]
              simpa using h
        | false =>
          have HHA : Hid (∀ W, Calls Try.prog 61 #[.agg #[.int .u64 (c.1.toNat : Int), .int .u64 (c.2.1.toNat : Int), .int .u64 (c.2.2.1.toNat : Int), .int .u64 (c.2.2.2.toNat : Int)], .int .u8 (b : Int)] W fun e w' => e = .returned (.bool false) ∧ Lays W w') := fun W => by
            have h := has_any c _ b rfl hb256 W
            rw [hm] at h
            exact h
          have HBE : Hid (bh F s n p = []) := by
            show _ = _
            rw [HBH.out, if_neg HE.out, dif_pos hps, HBB.out, if_neg (by simp [hm])]
          clear hm
          refine wp_region_kept mixed (by kernel_rfl) S1 ?_
          clear S1
          repeat (go_big_quiet_step (first | (go_at_call 61; with_reducible exact Kp.calls_lays _ SB.next (HHA.out _))))
          refine wpQuiet_nil ?_
          intro W1 hw1
          obtain ⟨⟨W1, HS1⟩, rfl⟩ := hw1
          have HBV : Hid (Below w.heap.size w W1) := HBW.out.trans (HS1.1.mono HBW.out.size)
          clear p0 p1 p2 p3 hne
          go_wp2_with fail
          go_ret
          exact ⟨_, rfl, by rw [HBE.out]; exact World.ownsRow_nil _ w.heap.size 108 2, HBV.out, fun _ => rfl⟩
      · have hpe : ((p : Int) == (s.size : Int)) = true := by simp; omega
        have HBE : Hid (bh F s n p = []) := by
          show _ = _
          rw [HBH.out, if_neg HE.out, dif_neg hps]
        refine wp_region_kept mixed (by kernel_rfl) S1 ?_
        clear S1
        repeat (go_big_quiet_step (fail))
        refine wpQuiet_nil ?_
        intro W1 hw1
        obtain ⟨⟨W1, HS1⟩, rfl⟩ := hw1
        have HBV : Hid (Below w.heap.size w W1) := HBW.out.trans (HS1.1.mono HBW.out.size)
        clear p0 p1 p2 p3 hne
        go_wp2_with fail
        go_ret
        exact ⟨_, rfl, by rw [HBE.out]; exact World.ownsRow_nil _ w.heap.size 108 2, HBV.out, fun _ => rfl⟩
end Go.Proofs.Ytgdaegmmapljgaa
