/-
  The contract of pushkeep.from: an automaton that begins at another state.
-/
import Derived.Test.YtlgcggfenljdnaaFrHold
import Derived.Deep.Cut
namespace Go.Proofs.Ytlgcggfenljdnaa
open Go.RowKit
open Dfa

theorem own_lessB {w : World} {base base' e size n : Nat} {v : Value} {xs : List Value} (h : w.ownsRow base e size v n xs) (hb : base' ≤ base) : w.ownsRow base' e size v n xs := by
  obtain ⟨h1, h2 | ⟨g, cap, cur, hv, hg, h3⟩⟩ := h
  · exact ⟨h1, Or.inl h2⟩
  · exact ⟨h1, Or.inr ⟨g, cap, cur, hv, by omega, h3⟩⟩
/-- Two numbers change places. -/
def swp (s : Nat) (i : Nat) : Nat := if i = 0 then s else if i = s then 0 else i
def swv (s : Nat) (v : Int) : Int := if v = (s : Int) then 0 else if v = 0 then (s : Int) else v
def swF (s : Nat) (F : Nat → Nat → Int) (k j : Nat) (r b : Nat) : Int := if r < k ∨ (r = k ∧ b < j) then swv s (F r b) else F r b
theorem swF_next {s : Nat} {F : Nat → Nat → Int} {k j : Nat} {z : Int} (h : z = swv s (F k j)) (r b : Nat) : (if r = k ∧ b = j then z else swF s F k j r b) = swF s F k (j + 1) r b := by
  unfold swF
  by_cases e : r = k ∧ b = j
  · obtain ⟨rfl, rfl⟩ := e
    rw [if_pos ⟨rfl, rfl⟩, if_pos (by omega), h]
  · rw [if_neg e]
    by_cases e2 : r < k ∨ (r = k ∧ b < j)
    · rw [if_pos e2, if_pos (by omega)]
    · rw [if_neg e2, if_neg (by omega)]
theorem swF_skip {s : Nat} {F : Nat → Nat → Int} {k j : Nat} (h : swv s (F k j) = F k j) (r b : Nat) : swF s F k j r b = swF s F k (j + 1) r b := by
  rw [← swF_next (z := F k j) h.symm r b]
  by_cases e : r = k ∧ b = j
  · obtain ⟨rfl, rfl⟩ := e
    rw [if_pos ⟨rfl, rfl⟩]; unfold swF; rw [if_neg (by omega)]
  · rw [if_neg e]
theorem swp_one (s : Nat) (U : Nat → Int) (r : Nat) : (fun r => if r = s then U 0 else (if r = 0 then U s else U r)) r = U (swp s r) := by
  show (if r = s then U 0 else (if r = 0 then U s else U r)) = _
  unfold swp
  by_cases e : r = 0
  · subst e
    by_cases e2 : 0 = s
    · subst e2; simp
    · rw [if_neg e2]; simp
  · rw [if_neg e, if_neg e]
    by_cases e2 : r = s
    · rw [if_pos e2, if_pos e2]
    · rw [if_neg e2, if_neg e2]
theorem swp_fun (s : Nat) (F : Nat → Nat → Int) (r b : Nat) : (fun r b => if r = s then F 0 b else (if r = 0 then F s b else F r b)) r b = F (swp s r) b := swp_one s (fun r => F r b) r
theorem Fm.congr {w W : World} {gr cr gt ct gd N : Nat} {F F' : Nat → Nat → Int} {U : Nat → Int} (h : Fm w gr cr gt ct gd N F U W) (e : ∀ i j, i < N → j < 256 → F i j = F' i j) : Fm w gr cr gt ct gd N F' U W := ⟨h.below, h.rs, h.db, h.rb.congr e, h.tb, h.ne⟩
structure RF1 (w : World) (n : Nat) (F : Nat → Nat → Int) (U : Nat → Int) (ra : Option Addr) (rc : Nat) (ta : Option Addr) (tc : Nat) (gr : Nat) (cr : Nat) (gt : Nat) (ct : Nat) (gd : Nat) (d : Nat → Bool) (x5 x9 x10 x11 x12 x13 x14 x15 : Value) (W : World) : Prop where
  f0 : d 0 = true → x9 = (.pointer (some ⟨w.heap.size, 0, none⟩))
  f1 : d 1 = true → x10 = (.slice ra n rc)
  f2 : d 2 = true → x11 = (.slice (some ⟨gr, 0, none⟩) n cr)
  f3 : d 3 = true → x12 = (.pointer (some ⟨w.heap.size, 1, none⟩))
  f4 : d 4 = true → x13 = (.slice ta n tc)
  f5 : d 5 = true → x14 = (.slice (some ⟨gt, 0, none⟩) n ct)
  f6 : d 6 = true → x15 = (.agg #[(.slice (some ⟨gr, 0, none⟩) n cr), (.slice (some ⟨gt, 0, none⟩) n ct)])
  f7 : d 7 = true → x5 = (.pointer (some ⟨gd, 0, none⟩))
  f8 : d 8 = true → True
  o6_2 : d 6 = true → d 2 = true
  o6_5 : d 6 = true → d 5 = true
  q8_7 : d 8 = true → d 7 = true
  q8_6 : d 8 = true → d 6 = true
  kp : Below w.heap.size w W ∧ W.cell? ⟨w.heap.size, 0, none⟩ = some (.slice ra n rc) ∧ W.cell? ⟨w.heap.size, 1, none⟩ = some (.slice ta n tc) ∧ w.heap.size + 2 ≤ W.heap.size ∧ W.rowIs (w.heap.size + 1) 25 2 (fun _ => .slice none 0 0)
  a2 : d 2 = true → W.ownsRow (w.heap.size + 2) 42 256 (.slice (some ⟨gr, 0, none⟩) n cr) n (rcl (fun j => j) F n)
  a5 : d 5 = true → W.ownsRow (w.heap.size + 2) 3 1 (.slice (some ⟨gt, 0, none⟩) n ct) n (tl n U)
  n25 : d 2 = true → d 5 = true → gr ≠ gt
  al : d 7 = true → d 8 = false → w.heap.size + 2 ≤ gd ∧ W.rowIs gd 25 2 (fun _ => .slice none 0 0)
  n27 : d 2 = true → d 7 = true → gr ≠ gd
  n57 : d 5 = true → d 7 = true → gt ≠ gd
  fin : d 8 = true → w.heap.size + 2 ≤ gd ∧ W.rowIs gd 25 2 (fun i => if i = 0 then (.slice (some ⟨gr, 0, none⟩) n cr) else (.slice (some ⟨gt, 0, none⟩) n ct))

structure RF2 (w : World) (n : Nat) (F : Nat → Nat → Int) (U : Nat → Int) (s gr cr gt ct gd : Nat) (ls lz : List Value) (d : Nat → Bool) (x16 x17 x18 x19 x20 x21 x22 x23 x24 x25 x26 x27 x28 x29 x30 x31 : Value) (W : World) : Prop where
  f0 : d 0 = true → x16 = (.pointer (some ⟨gd, 0, none⟩))
  f1 : d 1 = true → x17 = (.slice (some ⟨gr, 0, none⟩) n cr)
  f2 : d 2 = true → x18 = (.pointer (some ⟨gd, 0, none⟩))
  f3 : d 3 = true → x19 = (.slice (some ⟨gr, 0, none⟩) n cr)
  f4 : d 4 = true → x20 = (.int .i64 (s : Int))
  f5 : d 5 = true → x21 = (.pointer (some ⟨gd, 0, none⟩))
  f6 : d 6 = true → x22 = (.slice (some ⟨gr, 0, none⟩) n cr)
  f7 : d 7 = true → x23 = (.int .i64 (s : Int))
  f8 : d 8 = true → x24 = (.pointer (some ⟨gr, s * 256, none⟩))
  f9 : d 9 = true → x25 = (.agg ls.toArray)
  f10 : d 10 = true → x26 = (.pointer (some ⟨gd, 0, none⟩))
  f11 : d 11 = true → x27 = (.slice (some ⟨gr, 0, none⟩) n cr)
  f12 : d 12 = true → x28 = (.pointer (some ⟨gr, 0, none⟩))
  f13 : d 13 = true → x29 = (.agg lz.toArray)
  f14 : d 14 = true → x30 = (.pointer (some ⟨gr, 0, none⟩))
  f15 : d 15 = true → True
  f16 : d 16 = true → x31 = (.pointer (some ⟨gr, s * 256, none⟩))
  f17 : d 17 = true → True
  p9 : d 15 = true → d 9 = true
  p13 : d 15 = true → d 13 = true
  q17 : d 17 = true → d 15 = true
  db : W.rowIs gd 25 2 (fun i => if i = 0 then (.slice (some ⟨gr, 0, none⟩) n cr) else (.slice (some ⟨gt, 0, none⟩) n ct))
  fs0 : d 15 = false → Fm w gr cr gt ct gd n F U W
  fs1 : d 15 = true → d 17 = false → Fm w gr cr gt ct gd n (fun r b => if r = 0 then F s b else F r b) U W
  fs2 : d 17 = true → Fm w gr cr gt ct gd n (fun r b => if r = s then F 0 b else (if r = 0 then F s b else F r b)) U W

structure RF3 (w : World) (n : Nat) (F : Nat → Nat → Int) (U : Nat → Int) (s gr cr gt ct gd : Nat) (d : Nat → Bool) (x32 x33 x34 x35 x36 x37 x38 x39 x40 x41 x42 x43 x44 x45 x46 x47 : Value) (W : World) : Prop where
  f0 : d 0 = true → x32 = (.pointer (some ⟨gd, 1, none⟩))
  f1 : d 1 = true → x33 = (.slice (some ⟨gt, 0, none⟩) n ct)
  f2 : d 2 = true → x34 = (.pointer (some ⟨gd, 1, none⟩))
  f3 : d 3 = true → x35 = (.slice (some ⟨gt, 0, none⟩) n ct)
  f4 : d 4 = true → x36 = (.int .i64 (s : Int))
  f5 : d 5 = true → x37 = (.pointer (some ⟨gd, 1, none⟩))
  f6 : d 6 = true → x38 = (.slice (some ⟨gt, 0, none⟩) n ct)
  f7 : d 7 = true → x39 = (.int .i64 (s : Int))
  f8 : d 8 = true → x40 = (.pointer (some ⟨gt, s, none⟩))
  f9 : d 9 = true → x41 = (.int .i64 (U s))
  f10 : d 10 = true → x42 = (.pointer (some ⟨gd, 1, none⟩))
  f11 : d 11 = true → x43 = (.slice (some ⟨gt, 0, none⟩) n ct)
  f12 : d 12 = true → x44 = (.pointer (some ⟨gt, 0, none⟩))
  f13 : d 13 = true → x45 = (.int .i64 (U 0))
  f14 : d 14 = true → x46 = (.pointer (some ⟨gt, 0, none⟩))
  f15 : d 15 = true → True
  f16 : d 16 = true → x47 = (.pointer (some ⟨gt, s, none⟩))
  f17 : d 17 = true → True
  p9 : d 15 = true → d 9 = true
  p13 : d 15 = true → d 13 = true
  q17 : d 17 = true → d 15 = true
  db : W.rowIs gd 25 2 (fun i => if i = 0 then (.slice (some ⟨gr, 0, none⟩) n cr) else (.slice (some ⟨gt, 0, none⟩) n ct))
  fs0 : d 15 = false → Fm w gr cr gt ct gd n F U W
  fs1 : d 15 = true → d 17 = false → Fm w gr cr gt ct gd n F (fun r => if r = 0 then U s else U r) W
  fs2 : d 17 = true → Fm w gr cr gt ct gd n F (fun r => if r = s then U 0 else (if r = 0 then U s else U r)) W

set_option maxHeartbeats 8000000 in
set_option maxRecDepth 20000 in
theorem from_any (rv tv : Value) (n : Nat) (F : Nat → Nat → Int) (U : Nat → Int) (s : Nat) (w : World) (hr : Rw w rv n F) (ht : Ts w tv n U) (hn0 : 0 < n) (hn : n ≤ 200) (hs : s < n) :
    Calls Try.prog 17 #[.agg #[rv, tv], .int .i64 (s : Int)] w fun e w' => ∃ rv' tv', e = .returned (.agg #[rv', tv']) ∧ Rw w' rv' n (fun i j => if i < n ∧ j < 256 then swv s (F (swp s i) j) else 0) ∧ Ts w' tv' n (fun i => U (swp s i)) ∧ Below w.heap.size w w' := by
  have HRW : Hid (Rw w rv n F) := hr
  have HTS : Hid (Ts w tv n U) := ht
  have HN0 : Hid (0 < n ∧ n ≤ 200) := ⟨hn0, hn⟩
  obtain ⟨ra, rc, rfl, -, hwf, -⟩ := hr
  obtain ⟨ta, tc, rfl, -⟩ := ht
  have HWF : Hid (∀ i j, -32768 ≤ F i j ∧ F i j ≤ 32767) := hwf
  clear hwf
  have hs0 : (0 : Int) ≤ (s : Int) := by omega
  have hs1 : (s : Int) < (n : Int) := by omega
  have hn1 : (0 : Int) < (n : Int) := by omega
  obtain ⟨w1, HW1⟩ : ∃ q, Hid ((w.alloc (Obj.cells #[(.slice ra n rc), (.slice ta n tc)] 25)).alloc (Obj.cells #[.slice none 0 0, .slice none 0 0] 25) = q) := ⟨_, (rfl : _ = _)⟩
  have HK1 : Hid (Below w.heap.size w w1 ∧ w1.cell? ⟨w.heap.size, 0, none⟩ = some (.slice ra n rc) ∧ w1.cell? ⟨w.heap.size, 1, none⟩ = some (.slice ta n tc) ∧ w.heap.size + 2 ≤ w1.heap.size ∧ w1.rowIs (w.heap.size + 1) 25 2 (fun _ => .slice none 0 0)) := by
    have h2 := row_two (w.alloc (Obj.cells #[(.slice ra n rc), (.slice ta n tc)] 25)) (.slice none 0 0) (.slice none 0 0)
    rw [show (w.alloc (Obj.cells #[(.slice ra n rc), (.slice ta n tc)] 25)).heap.size = w.heap.size + 1 by simp] at h2
    rw [← HW1.out]
    exact ⟨((Below.refl _ _).alloc (Nat.le_refl _) _).alloc (by simp) _, Go.Lib.cell?_alloc_some _ (by simp), Go.Lib.cell?_alloc_some _ (by simp), by simp, h2.congr fun i _ => by simp⟩
  go_enter Try.func17, Try.ntmps17
  go_wp2_with fail
  rw [HW1.out]
  refine wp_region_free mixed (fun a0 d a W => ∃ (gr : Nat) (cr : Nat) (gt : Nat) (ct : Nat) (gd : Nat) (x5 x9 x10 x11 x12 x13 x14 x15 : Value), a = ((((((((a0.put (some 5) x5).put (some 9) x9).put (some 10) x10).put (some 11) x11).put (some 12) x12).put (some 13) x13).put (some 14) x14).put (some 15) x15) ∧ Hid (RF1 w n F U ra rc ta tc gr cr gt ct gd d x5 x9 x10 x11 x12 x13 x14 x15 W)) (by kernel_rfl) ⟨0, 0, 0, 0, 0, undef, undef, undef, undef, undef, undef, undef, undef, by simp only [Act.put, List.setIfInBounds_toArray, List.set_cons_zero, List.set_cons_succ], ?_⟩ ?_ ?_
  · exact ⟨fun h => no_way h, fun h => no_way h, fun h => no_way h, fun h => no_way h, fun h => no_way h, fun h => no_way h, fun h => no_way h, fun h => no_way h, fun _ => trivial, fun h => no_way h, fun h => no_way h, fun h => no_way h, fun h => no_way h, ⟨HK1.out.1.drew, HK1.out.2.1, HK1.out.2.2.1, HK1.out.2.2.2.1, HK1.out.2.2.2.2⟩, fun h => no_way h, fun h => no_way h, fun h => no_way h, fun h => no_way h, fun h => no_way h, fun h => no_way h, fun h => no_way h⟩
  · simp only [StepAll, and_true]
    refine ⟨?_, ?_, ?_, ?_, ?_, ?_, ?_, ?_, ?_⟩
    · intro d a W hI hd hdep
      obtain ⟨gr, cr, gt, ct, gd, x5, x9, x10, x11, x12, x13, x14, x15, rfl, hF⟩ := hI
      clear hdep hd
      intro K hK
      simp only [Act.put, List.setIfInBounds_toArray, List.set_cons_zero, List.set_cons_succ]
      go_simp
      refine hK.out _ _ ⟨gr, cr, gt, ct, gd, x5, (.pointer (some ⟨w.heap.size, 0, none⟩)), x10, x11, x12, x13, x14, x15, by simp only [Act.put, List.setIfInBounds_toArray, List.set_cons_zero, List.set_cons_succ], ?_⟩
      exact ⟨fun _ => rfl, fun h => hF.out.f1 (by simpa using h), fun h => hF.out.f2 (by simpa using h), fun h => hF.out.f3 (by simpa using h), fun h => hF.out.f4 (by simpa using h), fun h => hF.out.f5 (by simpa using h), fun h => hF.out.f6 (by simpa using h), fun h => hF.out.f7 (by simpa using h), fun h => hF.out.f8 (by simpa using h), fun h => by have := hF.out.o6_2 (by simpa using h); simpa using this, fun h => by have := hF.out.o6_5 (by simpa using h); simpa using this, fun h => by have := hF.out.q8_7 (by simpa using h); simpa using this, fun h => by have := hF.out.q8_6 (by simpa using h); simpa using this, hF.out.kp, fun h => hF.out.a2 (by simpa using h), fun h => hF.out.a5 (by simpa using h), fun h k => hF.out.n25 (by simpa using h) (by simpa using k), fun h k => hF.out.al (by simpa using h) (by simpa using k), fun h k => hF.out.n27 (by simpa using h) (by simpa using k), fun h k => hF.out.n57 (by simpa using h) (by simpa using k), fun h => hF.out.fin (by simpa using h)⟩
    · intro d a W hI hd hdep
      obtain ⟨gr, cr, gt, ct, gd, x5, x9, x10, x11, x12, x13, x14, x15, rfl, hF⟩ := hI
      have hd0 : d 0 = true := dep_of hdep 0 (by kernel_rfl)
      obtain rfl := hF.out.f0 hd0
      have ya := hF.out.kp.2.1
      clear hdep hd hd0
      intro K hK
      simp only [Act.put, List.setIfInBounds_toArray, List.set_cons_zero, List.set_cons_succ]
      go_simp
      refine hK.out _ _ ⟨gr, cr, gt, ct, gd, x5, (.pointer (some ⟨w.heap.size, 0, none⟩)), (.slice ra n rc), x11, x12, x13, x14, x15, by simp only [Act.put, List.setIfInBounds_toArray, List.set_cons_zero, List.set_cons_succ], ?_⟩
      exact ⟨fun h => hF.out.f0 (by simpa using h), fun _ => rfl, fun h => hF.out.f2 (by simpa using h), fun h => hF.out.f3 (by simpa using h), fun h => hF.out.f4 (by simpa using h), fun h => hF.out.f5 (by simpa using h), fun h => hF.out.f6 (by simpa using h), fun h => hF.out.f7 (by simpa using h), fun h => hF.out.f8 (by simpa using h), fun h => by have := hF.out.o6_2 (by simpa using h); simpa using this, fun h => by have := hF.out.o6_5 (by simpa using h); simpa using this, fun h => by have := hF.out.q8_7 (by simpa using h); simpa using this, fun h => by have := hF.out.q8_6 (by simpa using h); simpa using this, hF.out.kp, fun h => hF.out.a2 (by simpa using h), fun h => hF.out.a5 (by simpa using h), fun h k => hF.out.n25 (by simpa using h) (by simpa using k), fun h k => hF.out.al (by simpa using h) (by simpa using k), fun h k => hF.out.n27 (by simpa using h) (by simpa using k), fun h k => hF.out.n57 (by simpa using h) (by simpa using k), fun h => hF.out.fin (by simpa using h)⟩
    · intro d a W hI hd hdep
      obtain ⟨gr, cr, gt, ct, gd, x5, x9, x10, x11, x12, x13, x14, x15, rfl, hF⟩ := hI
      have hd1 : d 1 = true := dep_of hdep 1 (by kernel_rfl)
      obtain rfl := hF.out.f1 hd1
      have hcl := cloneR_own (.slice ra n rc) n F W (HRW.out.below hF.out.kp.1 (Nat.le_refl _)) HN0.out.1 HN0.out.2
      have HN6 : Hid (d 6 = false) := no_later hF.out.o6_2 hd
      have HN8 : Hid (d 8 = false) := no_later hF.out.q8_6 HN6.out
      clear hdep hd hd1
      intro K hK
      simp only [Act.put, List.setIfInBounds_toArray, List.set_cons_zero, List.set_cons_succ]
      go_simp
      refine hcl.mono ?_
      rintro _ W1 ⟨g1, c1, rfl, hown, hb1⟩
      have HOW : Hid (W.heap.size ≤ g1 ∧ W1.ownsRow (w.heap.size + 2) 42 256 (.slice (some ⟨g1, 0, none⟩) n c1) n (rcl (fun j => j) F n)) := ⟨(hown.lt g1 rfl).1, own_lessB hown (by have := hF.out.kp.2.2.2.1; omega)⟩
      clear hown
      go_simp
      refine hK.out _ _ ⟨g1, c1, gt, ct, gd, x5, x9, (.slice ra n rc), (.slice (some ⟨g1, 0, none⟩) n c1), x12, x13, x14, x15, by simp only [Act.put, List.setIfInBounds_toArray, List.set_cons_zero, List.set_cons_succ], ?_⟩
      exact ⟨fun h => hF.out.f0 (by simpa using h), fun h => hF.out.f1 (by simpa using h), fun _ => rfl, fun h => hF.out.f3 (by simpa using h), fun h => hF.out.f4 (by simpa using h), fun h => hF.out.f5 (by simpa using h), fun h => by have := HN6.out; simp [this] at h, fun h => hF.out.f7 (by simpa using h), fun h => hF.out.f8 (by simpa using h), fun _ => by simp, fun h => by have := hF.out.o6_5 (by simpa using h); simpa using this, fun h => by have := hF.out.q8_7 (by simpa using h); simpa using this, fun h => by have := hF.out.q8_6 (by simpa using h); simpa using this, ⟨hF.out.kp.1.trans (hb1.mono hF.out.kp.1.size), (hb1.cell (p := ⟨w.heap.size, 0, none⟩) (by have := hF.out.kp.2.2.2.1; simp; omega)).trans hF.out.kp.2.1, (hb1.cell (p := ⟨w.heap.size, 1, none⟩) (by have := hF.out.kp.2.2.2.1; simp; omega)).trans hF.out.kp.2.2.1, Nat.le_trans hF.out.kp.2.2.2.1 hb1.size, hF.out.kp.2.2.2.2.of_block (hb1.block _ hF.out.kp.2.2.2.2.lt)⟩, fun _ => HOW.out.2, fun h => own_same (hF.out.a5 (by simpa using h)) fun k hk => hb1.block k ((hF.out.a5 (by simpa using h)).lt k hk).2, fun _ k => by have := ((hF.out.a5 (by simpa using k)).lt gt rfl).2; have := HOW.out.1; omega, fun h k => have q := hF.out.al (by simpa using h) HN8.out; ⟨q.1, q.2.of_block (hb1.block _ q.2.lt)⟩, fun _ k => by have := (hF.out.al (by simpa using k) HN8.out).2.lt; have := HOW.out.1; omega, fun h k => hF.out.n57 (by simpa using h) (by simpa using k), fun h => by have := HN8.out; simp [this] at h⟩
    · intro d a W hI hd hdep
      obtain ⟨gr, cr, gt, ct, gd, x5, x9, x10, x11, x12, x13, x14, x15, rfl, hF⟩ := hI
      clear hdep hd
      intro K hK
      simp only [Act.put, List.setIfInBounds_toArray, List.set_cons_zero, List.set_cons_succ]
      go_simp
      refine hK.out _ _ ⟨gr, cr, gt, ct, gd, x5, x9, x10, x11, (.pointer (some ⟨w.heap.size, 1, none⟩)), x13, x14, x15, by simp only [Act.put, List.setIfInBounds_toArray, List.set_cons_zero, List.set_cons_succ], ?_⟩
      exact ⟨fun h => hF.out.f0 (by simpa using h), fun h => hF.out.f1 (by simpa using h), fun h => hF.out.f2 (by simpa using h), fun _ => rfl, fun h => hF.out.f4 (by simpa using h), fun h => hF.out.f5 (by simpa using h), fun h => hF.out.f6 (by simpa using h), fun h => hF.out.f7 (by simpa using h), fun h => hF.out.f8 (by simpa using h), fun h => by have := hF.out.o6_2 (by simpa using h); simpa using this, fun h => by have := hF.out.o6_5 (by simpa using h); simpa using this, fun h => by have := hF.out.q8_7 (by simpa using h); simpa using this, fun h => by have := hF.out.q8_6 (by simpa using h); simpa using this, hF.out.kp, fun h => hF.out.a2 (by simpa using h), fun h => hF.out.a5 (by simpa using h), fun h k => hF.out.n25 (by simpa using h) (by simpa using k), fun h k => hF.out.al (by simpa using h) (by simpa using k), fun h k => hF.out.n27 (by simpa using h) (by simpa using k), fun h k => hF.out.n57 (by simpa using h) (by simpa using k), fun h => hF.out.fin (by simpa using h)⟩
    · intro d a W hI hd hdep
      obtain ⟨gr, cr, gt, ct, gd, x5, x9, x10, x11, x12, x13, x14, x15, rfl, hF⟩ := hI
      have hd3 : d 3 = true := dep_of hdep 3 (by kernel_rfl)
      obtain rfl := hF.out.f3 hd3
      have ya := hF.out.kp.2.2.1
      clear hdep hd hd3
      intro K hK
      simp only [Act.put, List.setIfInBounds_toArray, List.set_cons_zero, List.set_cons_succ]
      go_simp
      refine hK.out _ _ ⟨gr, cr, gt, ct, gd, x5, x9, x10, x11, (.pointer (some ⟨w.heap.size, 1, none⟩)), (.slice ta n tc), x14, x15, by simp only [Act.put, List.setIfInBounds_toArray, List.set_cons_zero, List.set_cons_succ], ?_⟩
      exact ⟨fun h => hF.out.f0 (by simpa using h), fun h => hF.out.f1 (by simpa using h), fun h => hF.out.f2 (by simpa using h), fun h => hF.out.f3 (by simpa using h), fun _ => rfl, fun h => hF.out.f5 (by simpa using h), fun h => hF.out.f6 (by simpa using h), fun h => hF.out.f7 (by simpa using h), fun h => hF.out.f8 (by simpa using h), fun h => by have := hF.out.o6_2 (by simpa using h); simpa using this, fun h => by have := hF.out.o6_5 (by simpa using h); simpa using this, fun h => by have := hF.out.q8_7 (by simpa using h); simpa using this, fun h => by have := hF.out.q8_6 (by simpa using h); simpa using this, hF.out.kp, fun h => hF.out.a2 (by simpa using h), fun h => hF.out.a5 (by simpa using h), fun h k => hF.out.n25 (by simpa using h) (by simpa using k), fun h k => hF.out.al (by simpa using h) (by simpa using k), fun h k => hF.out.n27 (by simpa using h) (by simpa using k), fun h k => hF.out.n57 (by simpa using h) (by simpa using k), fun h => hF.out.fin (by simpa using h)⟩
    · intro d a W hI hd hdep
      obtain ⟨gr, cr, gt, ct, gd, x5, x9, x10, x11, x12, x13, x14, x15, rfl, hF⟩ := hI
      have hd4 : d 4 = true := dep_of hdep 4 (by kernel_rfl)
      obtain rfl := hF.out.f4 hd4
      have hcl := cloneT_own (.slice ta n tc) n U W (HTS.out.below hF.out.kp.1 (Nat.le_refl _)) HN0.out.1 HN0.out.2
      have HN6 : Hid (d 6 = false) := no_later hF.out.o6_5 hd
      have HN8 : Hid (d 8 = false) := no_later hF.out.q8_6 HN6.out
      clear hdep hd hd4
      intro K hK
      simp only [Act.put, List.setIfInBounds_toArray, List.set_cons_zero, List.set_cons_succ]
      go_simp
      refine hcl.mono ?_
      rintro _ W1 ⟨g1, c1, rfl, hown, hb1⟩
      have HOW : Hid (W.heap.size ≤ g1 ∧ W1.ownsRow (w.heap.size + 2) 3 1 (.slice (some ⟨g1, 0, none⟩) n c1) n (tl n U)) := ⟨(hown.lt g1 rfl).1, own_lessB hown (by have := hF.out.kp.2.2.2.1; omega)⟩
      clear hown
      go_simp
      refine hK.out _ _ ⟨gr, cr, g1, c1, gd, x5, x9, x10, x11, x12, (.slice ta n tc), (.slice (some ⟨g1, 0, none⟩) n c1), x15, by simp only [Act.put, List.setIfInBounds_toArray, List.set_cons_zero, List.set_cons_succ], ?_⟩
      exact ⟨fun h => hF.out.f0 (by simpa using h), fun h => hF.out.f1 (by simpa using h), fun h => hF.out.f2 (by simpa using h), fun h => hF.out.f3 (by simpa using h), fun h => hF.out.f4 (by simpa using h), fun _ => rfl, fun h => by have := HN6.out; simp [this] at h, fun h => hF.out.f7 (by simpa using h), fun h => hF.out.f8 (by simpa using h), fun h => by have := hF.out.o6_2 (by simpa using h); simpa using this, fun _ => by simp, fun h => by have := hF.out.q8_7 (by simpa using h); simpa using this, fun h => by have := hF.out.q8_6 (by simpa using h); simpa using this, ⟨hF.out.kp.1.trans (hb1.mono hF.out.kp.1.size), (hb1.cell (p := ⟨w.heap.size, 0, none⟩) (by have := hF.out.kp.2.2.2.1; simp; omega)).trans hF.out.kp.2.1, (hb1.cell (p := ⟨w.heap.size, 1, none⟩) (by have := hF.out.kp.2.2.2.1; simp; omega)).trans hF.out.kp.2.2.1, Nat.le_trans hF.out.kp.2.2.2.1 hb1.size, hF.out.kp.2.2.2.2.of_block (hb1.block _ hF.out.kp.2.2.2.2.lt)⟩, fun h => own_same (hF.out.a2 (by simpa using h)) fun k hk => hb1.block k ((hF.out.a2 (by simpa using h)).lt k hk).2, fun _ => HOW.out.2, fun k _ => by have := ((hF.out.a2 (by simpa using k)).lt gr rfl).2; have := HOW.out.1; omega, fun h k => have q := hF.out.al (by simpa using h) HN8.out; ⟨q.1, q.2.of_block (hb1.block _ q.2.lt)⟩, fun h k => hF.out.n27 (by simpa using h) (by simpa using k), fun _ k => by have := (hF.out.al (by simpa using k) HN8.out).2.lt; have := HOW.out.1; omega, fun h => by have := HN8.out; simp [this] at h⟩
    · intro d a W hI hd hdep
      obtain ⟨gr, cr, gt, ct, gd, x5, x9, x10, x11, x12, x13, x14, x15, rfl, hF⟩ := hI
      have hd2 : d 2 = true := dep_of hdep 2 (by kernel_rfl)
      have hd5 : d 5 = true := dep_of hdep 5 (by kernel_rfl)
      obtain rfl := hF.out.f2 hd2
      obtain rfl := hF.out.f5 hd5
      have e6_2 := hd2
      have e6_5 := hd5
      clear hdep hd hd2 hd5
      intro K hK
      simp only [Act.put, List.setIfInBounds_toArray, List.set_cons_zero, List.set_cons_succ]
      go_simp
      refine hK.out _ _ ⟨gr, cr, gt, ct, gd, x5, x9, x10, (.slice (some ⟨gr, 0, none⟩) n cr), x12, x13, (.slice (some ⟨gt, 0, none⟩) n ct), (.agg #[(.slice (some ⟨gr, 0, none⟩) n cr), (.slice (some ⟨gt, 0, none⟩) n ct)]), by simp only [Act.put, List.setIfInBounds_toArray, List.set_cons_zero, List.set_cons_succ], ?_⟩
      exact ⟨fun h => hF.out.f0 (by simpa using h), fun h => hF.out.f1 (by simpa using h), fun h => hF.out.f2 (by simpa using h), fun h => hF.out.f3 (by simpa using h), fun h => hF.out.f4 (by simpa using h), fun h => hF.out.f5 (by simpa using h), fun _ => rfl, fun h => hF.out.f7 (by simpa using h), fun h => hF.out.f8 (by simpa using h), fun _ => by simpa using e6_2, fun _ => by simpa using e6_5, fun h => by have := hF.out.q8_7 (by simpa using h); simpa using this, fun _ => by simp, hF.out.kp, fun h => hF.out.a2 (by simpa using h), fun h => hF.out.a5 (by simpa using h), fun h k => hF.out.n25 (by simpa using h) (by simpa using k), fun h k => hF.out.al (by simpa using h) (by simpa using k), fun h k => hF.out.n27 (by simpa using h) (by simpa using k), fun h k => hF.out.n57 (by simpa using h) (by simpa using k), fun h => hF.out.fin (by simpa using h)⟩
    · intro d a W hI hd hdep
      obtain ⟨gr, cr, gt, ct, gd, x5, x9, x10, x11, x12, x13, x14, x15, rfl, hF⟩ := hI
      have HN8 : Hid (d 8 = false) := no_later hF.out.q8_7 hd
      clear hdep hd
      intro K hK
      simp only [Act.put, List.setIfInBounds_toArray, List.set_cons_zero, List.set_cons_succ]
      go_simp
      refine hK.out _ _ ⟨gr, cr, gt, ct, W.heap.size, (.pointer (some ⟨W.heap.size, 0, none⟩)), x9, x10, x11, x12, x13, x14, x15, by simp only [Act.put, List.setIfInBounds_toArray, List.set_cons_zero, List.set_cons_succ], ?_⟩
      have hb1 := (Below.refl W.heap.size W).alloc (Nat.le_refl _) (Obj.cells #[Value.slice none 0 0, Value.slice none 0 0] 25)
      exact ⟨fun h => hF.out.f0 (by simpa using h), fun h => hF.out.f1 (by simpa using h), fun h => hF.out.f2 (by simpa using h), fun h => hF.out.f3 (by simpa using h), fun h => hF.out.f4 (by simpa using h), fun h => hF.out.f5 (by simpa using h), fun h => hF.out.f6 (by simpa using h), fun _ => rfl, fun h => hF.out.f8 (by simpa using h), fun h => by have := hF.out.o6_2 (by simpa using h); simpa using this, fun h => by have := hF.out.o6_5 (by simpa using h); simpa using this, fun _ => by simp, fun h => by have := hF.out.q8_6 (by simpa using h); simpa using this, ⟨hF.out.kp.1.trans (hb1.mono hF.out.kp.1.size), (hb1.cell (p := ⟨w.heap.size, 0, none⟩) (by have := hF.out.kp.2.2.2.1; simp; omega)).trans hF.out.kp.2.1, (hb1.cell (p := ⟨w.heap.size, 1, none⟩) (by have := hF.out.kp.2.2.2.1; simp; omega)).trans hF.out.kp.2.2.1, Nat.le_trans hF.out.kp.2.2.2.1 hb1.size, hF.out.kp.2.2.2.2.of_block (hb1.block _ hF.out.kp.2.2.2.2.lt)⟩, fun h => own_same (hF.out.a2 (by simpa using h)) fun k hk => hb1.block k ((hF.out.a2 (by simpa using h)).lt k hk).2, fun h => own_same (hF.out.a5 (by simpa using h)) fun k hk => hb1.block k ((hF.out.a5 (by simpa using h)).lt k hk).2, fun h k => hF.out.n25 (by simpa using h) (by simpa using k), fun _ _ => ⟨hF.out.kp.2.2.2.1, (row_two W _ _).congr fun i _ => by simp⟩, fun k _ => by have := ((hF.out.a2 (by simpa using k)).lt gr rfl).2; omega, fun k _ => by have := ((hF.out.a5 (by simpa using k)).lt gt rfl).2; omega, fun h => by have := HN8.out; simp [this] at h⟩
    · intro d a W hI hd hdep
      obtain ⟨gr, cr, gt, ct, gd, x5, x9, x10, x11, x12, x13, x14, x15, rfl, hF⟩ := hI
      have hd7 : d 7 = true := dep_of hdep 7 (by kernel_rfl)
      have hd6 : d 6 = true := dep_of hdep 6 (by kernel_rfl)
      obtain rfl := hF.out.f7 hd7
      obtain rfl := hF.out.f6 hd6
      have e8_7 := hd7
      have e8_6 := hd6
      have k2 := hF.out.o6_2 hd6
      have k5 := hF.out.o6_5 hd6
      have hal := hF.out.al hd7 hd
      have ya := hal.2.cell (i := 0) (by omega)
      have yb := hal.2.cell (i := 1) (by omega)
      have yc := hal.2.frozen 0
      have yd := hal.2.frozen 1
      have HAL : Hid (w.heap.size + 2 ≤ gd ∧ W.rowIs gd 25 2 (fun _ => .slice none 0 0)) := hal
      have HNE : Hid (gr ≠ gd ∧ gt ≠ gd) := ⟨hF.out.n27 k2 hd7, hF.out.n57 k5 hd7⟩
      clear hal
      clear hdep hd hd7 hd6
      intro K hK
      simp only [Act.put, List.setIfInBounds_toArray, List.set_cons_zero, List.set_cons_succ]
      go_simp
      refine hK.out _ _ ⟨gr, cr, gt, ct, gd, (.pointer (some ⟨gd, 0, none⟩)), x9, x10, x11, x12, x13, x14, (.agg #[(.slice (some ⟨gr, 0, none⟩) n cr), (.slice (some ⟨gt, 0, none⟩) n ct)]), by simp only [Act.put, List.setIfInBounds_toArray, List.set_cons_zero, List.set_cons_succ], ?_⟩
      have hsame := same_two W gd (.slice (some ⟨gr, 0, none⟩) n cr) (.slice (some ⟨gt, 0, none⟩) n ct)
      exact ⟨fun h => hF.out.f0 (by simpa using h), fun h => hF.out.f1 (by simpa using h), fun h => hF.out.f2 (by simpa using h), fun h => hF.out.f3 (by simpa using h), fun h => hF.out.f4 (by simpa using h), fun h => hF.out.f5 (by simpa using h), fun h => hF.out.f6 (by simpa using h), fun h => hF.out.f7 (by simpa using h), fun _ => trivial, fun h => by have := hF.out.o6_2 (by simpa using h); simpa using this, fun h => by have := hF.out.o6_5 (by simpa using h); simpa using this, fun _ => by simpa using e8_7, fun _ => by simpa using e8_6, ⟨(hF.out.kp.1.setCell (by have := HAL.out.1; simp; omega) _).setCell (by have := HAL.out.1; simp; omega) _, (cell_same (hsame.2.2.2.2 _ (by have := HAL.out.1; omega)) 0).trans hF.out.kp.2.1, (cell_same (hsame.2.2.2.2 _ (by have := HAL.out.1; omega)) 1).trans hF.out.kp.2.2.1, by rw [hsame.1]; exact hF.out.kp.2.2.2.1, hF.out.kp.2.2.2.2.of_block (hsame.2.2.2.2 _ (by have := HAL.out.1; omega))⟩, fun h => own_same (hF.out.a2 k2) fun k hk => hsame.2.2.2.2 k (by simp [Value.ownBlock] at hk; have := HNE.out.1; omega), fun h => own_same (hF.out.a5 k5) fun k hk => hsame.2.2.2.2 k (by simp [Value.ownBlock] at hk; have := HNE.out.2; omega), fun h k => hF.out.n25 (by simpa using h) (by simpa using k), fun _ h => by simp at h, fun h k => hF.out.n27 (by simpa using h) (by simpa using k), fun h k => hF.out.n57 (by simpa using h) (by simpa using k), fun _ => ⟨HAL.out.1, row_two_set HAL.out.2 _ _⟩⟩
  · intro d a W hI hall
    obtain ⟨gr, cr, gt, ct, gd, x5, x9, x10, x11, x12, x13, x14, x15, rfl, hF⟩ := hI
    simp only [List.length_cons, List.length_nil] at hall
    obtain rfl := hF.out.f0 (hall 0 (by omega))
    obtain rfl := hF.out.f1 (hall 1 (by omega))
    obtain rfl := hF.out.f2 (hall 2 (by omega))
    obtain rfl := hF.out.f3 (hall 3 (by omega))
    obtain rfl := hF.out.f4 (hall 4 (by omega))
    obtain rfl := hF.out.f5 (hall 5 (by omega))
    obtain rfl := hF.out.f6 (hall 6 (by omega))
    obtain rfl := hF.out.f7 (hall 7 (by omega))
    have HFM : Hid (Fm w gr cr gt ct gd n F U W) := by
      have k8 := hF.out.fin (hall 8 (by omega))
      have k2 := hF.out.a2 (hall 2 (by omega))
      have k5 := hF.out.a5 (hall 5 (by omega))
      exact ⟨hF.out.kp.1, hF.out.kp.2.2.2.2, k8.2, RB.of_own k2, TB.of_own k5, hF.out.n25 (hall 2 (by omega)) (hall 5 (by omega)), hF.out.n27 (hall 2 (by omega)) (hall 7 (by omega)), hF.out.n57 (hall 5 (by omega)) (hall 7 (by omega)), (k2.lt gr rfl).1, (k5.lt gt rfl).1, k8.1⟩
    clear hF hall
    simp only [Act.put, List.setIfInBounds_toArray, List.set_cons_zero, List.set_cons_succ]
    obtain ⟨W1, rfl⟩ : ∃ W1, W1 = W := ⟨_, rfl⟩
    go_wp2_with fail
    have HSN : Hid (s < n) := hs
    obtain ⟨ls, HLS⟩ : ∃ q, Hid (rl (F s) = q) := ⟨_, (rfl : _ = _)⟩
    obtain ⟨lz, HLZ⟩ : ∃ q, Hid (rl (F 0) = q) := ⟨_, (rfl : _ = _)⟩
    have HLLs : Hid ((Try.prog.info? 42).map (·.size) = some ls.length) := by show _ = _; rw [← HLS.out, rl_length]; exact size42
    have HLLz : Hid ((Try.prog.info? 42).map (·.size) = some lz.length) := by show _ = _; rw [← HLZ.out, rl_length]; exact size42
    have HSZs : Hid (ls.toArray.size = 256) := by show _ = _; rw [List.size_toArray, ← HLS.out, rl_length]
    have HSZz : Hid (lz.toArray.size = 256) := by show _ = _; rw [List.size_toArray, ← HLZ.out, rl_length]
    have HONs : Hid (ls.toArray.all (·.oneCell') = true) := by show _ = _; rw [← HLS.out]; exact rl_one _
    have HONz : Hid (lz.toArray.all (·.oneCell') = true) := by show _ = _; rw [← HLZ.out]; exact rl_one _
    have HATs : Hid (∀ b, b < 256 → ls[b]? = some (.int .i16 (F s b))) := fun b hb => by rw [← HLS.out]; exact rl_at _ b hb
    have HATz : Hid (∀ b, b < 256 → lz[b]? = some (.int .i16 (F 0 b))) := fun b hb => by rw [← HLZ.out]; exact rl_at _ b hb
    refine wp_region_free mixed (fun a0 d a W => ∃ (x16 x17 x18 x19 x20 x21 x22 x23 x24 x25 x26 x27 x28 x29 x30 x31 : Value), a = ((((((((((((((((a0.put (some 16) x16).put (some 17) x17).put (some 18) x18).put (some 19) x19).put (some 20) x20).put (some 21) x21).put (some 22) x22).put (some 23) x23).put (some 24) x24).put (some 25) x25).put (some 26) x26).put (some 27) x27).put (some 28) x28).put (some 29) x29).put (some 30) x30).put (some 31) x31) ∧ Hid (RF2 w n F U s gr cr gt ct gd ls lz d x16 x17 x18 x19 x20 x21 x22 x23 x24 x25 x26 x27 x28 x29 x30 x31 W)) (by kernel_rfl) ⟨undef, undef, undef, undef, undef, undef, undef, undef, undef, undef, undef, undef, undef, undef, undef, undef, by simp only [Act.put, List.setIfInBounds_toArray, List.set_cons_zero, List.set_cons_succ], ?_⟩ ?_ ?_
    · exact ⟨fun h => no_way h, fun h => no_way h, fun h => no_way h, fun h => no_way h, fun h => no_way h, fun h => no_way h, fun h => no_way h, fun h => no_way h, fun h => no_way h, fun h => no_way h, fun h => no_way h, fun h => no_way h, fun h => no_way h, fun h => no_way h, fun h => no_way h, fun _ => trivial, fun h => no_way h, fun _ => trivial, fun h => no_way h, fun h => no_way h, fun h => no_way h, HFM.out.db.of_block rfl, fun _ => HFM.out.same (Sm.drew _), fun h => no_way h, fun h => no_way h⟩
    · simp only [StepAll, and_true]
      refine ⟨?_, ?_, ?_, ?_, ?_, ?_, ?_, ?_, ?_, ?_, ?_, ?_, ?_, ?_, ?_, ?_, ?_, ?_⟩
      · intro d a W hI hd hdep
        obtain ⟨x16, x17, x18, x19, x20, x21, x22, x23, x24, x25, x26, x27, x28, x29, x30, x31, rfl, hF⟩ := hI
        clear hdep hd
        intro K hK
        simp only [Act.put, List.setIfInBounds_toArray, List.set_cons_zero, List.set_cons_succ]
        go_simp
        refine hK.out _ _ ⟨(.pointer (some ⟨gd, 0, none⟩)), x17, x18, x19, x20, x21, x22, x23, x24, x25, x26, x27, x28, x29, x30, x31, by simp only [Act.put, List.setIfInBounds_toArray, List.set_cons_zero, List.set_cons_succ], ?_⟩
        exact ⟨fun _ => rfl, fun h => hF.out.f1 (by simpa using h), fun h => hF.out.f2 (by simpa using h), fun h => hF.out.f3 (by simpa using h), fun h => hF.out.f4 (by simpa using h), fun h => hF.out.f5 (by simpa using h), fun h => hF.out.f6 (by simpa using h), fun h => hF.out.f7 (by simpa using h), fun h => hF.out.f8 (by simpa using h), fun h => hF.out.f9 (by simpa using h), fun h => hF.out.f10 (by simpa using h), fun h => hF.out.f11 (by simpa using h), fun h => hF.out.f12 (by simpa using h), fun h => hF.out.f13 (by simpa using h), fun h => hF.out.f14 (by simpa using h), fun h => hF.out.f15 (by simpa using h), fun h => hF.out.f16 (by simpa using h), fun h => hF.out.f17 (by simpa using h), fun h => by have := hF.out.p9 (by simpa using h); simpa using this, fun h => by have := hF.out.p13 (by simpa using h); simpa using this, fun h => by have := hF.out.q17 (by simpa using h); simpa using this, hF.out.db, fun h => hF.out.fs0 (by simpa using h), fun h k => hF.out.fs1 (by simpa using h) (by simpa using k), fun h => hF.out.fs2 (by simpa using h)⟩
      · intro d a W hI hd hdep
        obtain ⟨x16, x17, x18, x19, x20, x21, x22, x23, x24, x25, x26, x27, x28, x29, x30, x31, rfl, hF⟩ := hI
        have hd0 : d 0 = true := dep_of hdep 0 (by kernel_rfl)
        obtain rfl := hF.out.f0 hd0
        have ya := hF.out.db.cell (i := 0) (by omega)
        simp only [if_true] at ya
        clear hdep hd hd0
        intro K hK
        simp only [Act.put, List.setIfInBounds_toArray, List.set_cons_zero, List.set_cons_succ]
        go_simp
        refine hK.out _ _ ⟨(.pointer (some ⟨gd, 0, none⟩)), (.slice (some ⟨gr, 0, none⟩) n cr), x18, x19, x20, x21, x22, x23, x24, x25, x26, x27, x28, x29, x30, x31, by simp only [Act.put, List.setIfInBounds_toArray, List.set_cons_zero, List.set_cons_succ], ?_⟩
        exact ⟨fun h => hF.out.f0 (by simpa using h), fun _ => rfl, fun h => hF.out.f2 (by simpa using h), fun h => hF.out.f3 (by simpa using h), fun h => hF.out.f4 (by simpa using h), fun h => hF.out.f5 (by simpa using h), fun h => hF.out.f6 (by simpa using h), fun h => hF.out.f7 (by simpa using h), fun h => hF.out.f8 (by simpa using h), fun h => hF.out.f9 (by simpa using h), fun h => hF.out.f10 (by simpa using h), fun h => hF.out.f11 (by simpa using h), fun h => hF.out.f12 (by simpa using h), fun h => hF.out.f13 (by simpa using h), fun h => hF.out.f14 (by simpa using h), fun h => hF.out.f15 (by simpa using h), fun h => hF.out.f16 (by simpa using h), fun h => hF.out.f17 (by simpa using h), fun h => by have := hF.out.p9 (by simpa using h); simpa using this, fun h => by have := hF.out.p13 (by simpa using h); simpa using this, fun h => by have := hF.out.q17 (by simpa using h); simpa using this, hF.out.db, fun h => hF.out.fs0 (by simpa using h), fun h k => hF.out.fs1 (by simpa using h) (by simpa using k), fun h => hF.out.fs2 (by simpa using h)⟩
      · intro d a W hI hd hdep
        obtain ⟨x16, x17, x18, x19, x20, x21, x22, x23, x24, x25, x26, x27, x28, x29, x30, x31, rfl, hF⟩ := hI
        clear hdep hd
        intro K hK
        simp only [Act.put, List.setIfInBounds_toArray, List.set_cons_zero, List.set_cons_succ]
        go_simp
        refine hK.out _ _ ⟨x16, x17, (.pointer (some ⟨gd, 0, none⟩)), x19, x20, x21, x22, x23, x24, x25, x26, x27, x28, x29, x30, x31, by simp only [Act.put, List.setIfInBounds_toArray, List.set_cons_zero, List.set_cons_succ], ?_⟩
        exact ⟨fun h => hF.out.f0 (by simpa using h), fun h => hF.out.f1 (by simpa using h), fun _ => rfl, fun h => hF.out.f3 (by simpa using h), fun h => hF.out.f4 (by simpa using h), fun h => hF.out.f5 (by simpa using h), fun h => hF.out.f6 (by simpa using h), fun h => hF.out.f7 (by simpa using h), fun h => hF.out.f8 (by simpa using h), fun h => hF.out.f9 (by simpa using h), fun h => hF.out.f10 (by simpa using h), fun h => hF.out.f11 (by simpa using h), fun h => hF.out.f12 (by simpa using h), fun h => hF.out.f13 (by simpa using h), fun h => hF.out.f14 (by simpa using h), fun h => hF.out.f15 (by simpa using h), fun h => hF.out.f16 (by simpa using h), fun h => hF.out.f17 (by simpa using h), fun h => by have := hF.out.p9 (by simpa using h); simpa using this, fun h => by have := hF.out.p13 (by simpa using h); simpa using this, fun h => by have := hF.out.q17 (by simpa using h); simpa using this, hF.out.db, fun h => hF.out.fs0 (by simpa using h), fun h k => hF.out.fs1 (by simpa using h) (by simpa using k), fun h => hF.out.fs2 (by simpa using h)⟩
      · intro d a W hI hd hdep
        obtain ⟨x16, x17, x18, x19, x20, x21, x22, x23, x24, x25, x26, x27, x28, x29, x30, x31, rfl, hF⟩ := hI
        have hd2 : d 2 = true := dep_of hdep 2 (by kernel_rfl)
        obtain rfl := hF.out.f2 hd2
        have ya := hF.out.db.cell (i := 0) (by omega)
        simp only [if_true] at ya
        clear hdep hd hd2
        intro K hK
        simp only [Act.put, List.setIfInBounds_toArray, List.set_cons_zero, List.set_cons_succ]
        go_simp
        refine hK.out _ _ ⟨x16, x17, (.pointer (some ⟨gd, 0, none⟩)), (.slice (some ⟨gr, 0, none⟩) n cr), x20, x21, x22, x23, x24, x25, x26, x27, x28, x29, x30, x31, by simp only [Act.put, List.setIfInBounds_toArray, List.set_cons_zero, List.set_cons_succ], ?_⟩
        exact ⟨fun h => hF.out.f0 (by simpa using h), fun h => hF.out.f1 (by simpa using h), fun h => hF.out.f2 (by simpa using h), fun _ => rfl, fun h => hF.out.f4 (by simpa using h), fun h => hF.out.f5 (by simpa using h), fun h => hF.out.f6 (by simpa using h), fun h => hF.out.f7 (by simpa using h), fun h => hF.out.f8 (by simpa using h), fun h => hF.out.f9 (by simpa using h), fun h => hF.out.f10 (by simpa using h), fun h => hF.out.f11 (by simpa using h), fun h => hF.out.f12 (by simpa using h), fun h => hF.out.f13 (by simpa using h), fun h => hF.out.f14 (by simpa using h), fun h => hF.out.f15 (by simpa using h), fun h => hF.out.f16 (by simpa using h), fun h => hF.out.f17 (by simpa using h), fun h => by have := hF.out.p9 (by simpa using h); simpa using this, fun h => by have := hF.out.p13 (by simpa using h); simpa using this, fun h => by have := hF.out.q17 (by simpa using h); simpa using this, hF.out.db, fun h => hF.out.fs0 (by simpa using h), fun h k => hF.out.fs1 (by simpa using h) (by simpa using k), fun h => hF.out.fs2 (by simpa using h)⟩
      · intro d a W hI hd hdep
        obtain ⟨x16, x17, x18, x19, x20, x21, x22, x23, x24, x25, x26, x27, x28, x29, x30, x31, rfl, hF⟩ := hI
        clear hdep hd
        intro K hK
        simp only [Act.put, List.setIfInBounds_toArray, List.set_cons_zero, List.set_cons_succ]
        go_simp
        refine hK.out _ _ ⟨x16, x17, x18, x19, (.int .i64 (s : Int)), x21, x22, x23, x24, x25, x26, x27, x28, x29, x30, x31, by simp only [Act.put, List.setIfInBounds_toArray, List.set_cons_zero, List.set_cons_succ], ?_⟩
        exact ⟨fun h => hF.out.f0 (by simpa using h), fun h => hF.out.f1 (by simpa using h), fun h => hF.out.f2 (by simpa using h), fun h => hF.out.f3 (by simpa using h), fun _ => rfl, fun h => hF.out.f5 (by simpa using h), fun h => hF.out.f6 (by simpa using h), fun h => hF.out.f7 (by simpa using h), fun h => hF.out.f8 (by simpa using h), fun h => hF.out.f9 (by simpa using h), fun h => hF.out.f10 (by simpa using h), fun h => hF.out.f11 (by simpa using h), fun h => hF.out.f12 (by simpa using h), fun h => hF.out.f13 (by simpa using h), fun h => hF.out.f14 (by simpa using h), fun h => hF.out.f15 (by simpa using h), fun h => hF.out.f16 (by simpa using h), fun h => hF.out.f17 (by simpa using h), fun h => by have := hF.out.p9 (by simpa using h); simpa using this, fun h => by have := hF.out.p13 (by simpa using h); simpa using this, fun h => by have := hF.out.q17 (by simpa using h); simpa using this, hF.out.db, fun h => hF.out.fs0 (by simpa using h), fun h k => hF.out.fs1 (by simpa using h) (by simpa using k), fun h => hF.out.fs2 (by simpa using h)⟩
      · intro d a W hI hd hdep
        obtain ⟨x16, x17, x18, x19, x20, x21, x22, x23, x24, x25, x26, x27, x28, x29, x30, x31, rfl, hF⟩ := hI
        clear hdep hd
        intro K hK
        simp only [Act.put, List.setIfInBounds_toArray, List.set_cons_zero, List.set_cons_succ]
        go_simp
        refine hK.out _ _ ⟨x16, x17, x18, x19, x20, (.pointer (some ⟨gd, 0, none⟩)), x22, x23, x24, x25, x26, x27, x28, x29, x30, x31, by simp only [Act.put, List.setIfInBounds_toArray, List.set_cons_zero, List.set_cons_succ], ?_⟩
        exact ⟨fun h => hF.out.f0 (by simpa using h), fun h => hF.out.f1 (by simpa using h), fun h => hF.out.f2 (by simpa using h), fun h => hF.out.f3 (by simpa using h), fun h => hF.out.f4 (by simpa using h), fun _ => rfl, fun h => hF.out.f6 (by simpa using h), fun h => hF.out.f7 (by simpa using h), fun h => hF.out.f8 (by simpa using h), fun h => hF.out.f9 (by simpa using h), fun h => hF.out.f10 (by simpa using h), fun h => hF.out.f11 (by simpa using h), fun h => hF.out.f12 (by simpa using h), fun h => hF.out.f13 (by simpa using h), fun h => hF.out.f14 (by simpa using h), fun h => hF.out.f15 (by simpa using h), fun h => hF.out.f16 (by simpa using h), fun h => hF.out.f17 (by simpa using h), fun h => by have := hF.out.p9 (by simpa using h); simpa using this, fun h => by have := hF.out.p13 (by simpa using h); simpa using this, fun h => by have := hF.out.q17 (by simpa using h); simpa using this, hF.out.db, fun h => hF.out.fs0 (by simpa using h), fun h k => hF.out.fs1 (by simpa using h) (by simpa using k), fun h => hF.out.fs2 (by simpa using h)⟩
      · intro d a W hI hd hdep
        obtain ⟨x16, x17, x18, x19, x20, x21, x22, x23, x24, x25, x26, x27, x28, x29, x30, x31, rfl, hF⟩ := hI
        have hd5 : d 5 = true := dep_of hdep 5 (by kernel_rfl)
        obtain rfl := hF.out.f5 hd5
        have ya := hF.out.db.cell (i := 0) (by omega)
        simp only [if_true] at ya
        clear hdep hd hd5
        intro K hK
        simp only [Act.put, List.setIfInBounds_toArray, List.set_cons_zero, List.set_cons_succ]
        go_simp
        refine hK.out _ _ ⟨x16, x17, x18, x19, x20, (.pointer (some ⟨gd, 0, none⟩)), (.slice (some ⟨gr, 0, none⟩) n cr), x23, x24, x25, x26, x27, x28, x29, x30, x31, by simp only [Act.put, List.setIfInBounds_toArray, List.set_cons_zero, List.set_cons_succ], ?_⟩
        exact ⟨fun h => hF.out.f0 (by simpa using h), fun h => hF.out.f1 (by simpa using h), fun h => hF.out.f2 (by simpa using h), fun h => hF.out.f3 (by simpa using h), fun h => hF.out.f4 (by simpa using h), fun h => hF.out.f5 (by simpa using h), fun _ => rfl, fun h => hF.out.f7 (by simpa using h), fun h => hF.out.f8 (by simpa using h), fun h => hF.out.f9 (by simpa using h), fun h => hF.out.f10 (by simpa using h), fun h => hF.out.f11 (by simpa using h), fun h => hF.out.f12 (by simpa using h), fun h => hF.out.f13 (by simpa using h), fun h => hF.out.f14 (by simpa using h), fun h => hF.out.f15 (by simpa using h), fun h => hF.out.f16 (by simpa using h), fun h => hF.out.f17 (by simpa using h), fun h => by have := hF.out.p9 (by simpa using h); simpa using this, fun h => by have := hF.out.p13 (by simpa using h); simpa using this, fun h => by have := hF.out.q17 (by simpa using h); simpa using this, hF.out.db, fun h => hF.out.fs0 (by simpa using h), fun h k => hF.out.fs1 (by simpa using h) (by simpa using k), fun h => hF.out.fs2 (by simpa using h)⟩
      · intro d a W hI hd hdep
        obtain ⟨x16, x17, x18, x19, x20, x21, x22, x23, x24, x25, x26, x27, x28, x29, x30, x31, rfl, hF⟩ := hI
        clear hdep hd
        intro K hK
        simp only [Act.put, List.setIfInBounds_toArray, List.set_cons_zero, List.set_cons_succ]
        go_simp
        refine hK.out _ _ ⟨x16, x17, x18, x19, x20, x21, x22, (.int .i64 (s : Int)), x24, x25, x26, x27, x28, x29, x30, x31, by simp only [Act.put, List.setIfInBounds_toArray, List.set_cons_zero, List.set_cons_succ], ?_⟩
        exact ⟨fun h => hF.out.f0 (by simpa using h), fun h => hF.out.f1 (by simpa using h), fun h => hF.out.f2 (by simpa using h), fun h => hF.out.f3 (by simpa using h), fun h => hF.out.f4 (by simpa using h), fun h => hF.out.f5 (by simpa using h), fun h => hF.out.f6 (by simpa using h), fun _ => rfl, fun h => hF.out.f8 (by simpa using h), fun h => hF.out.f9 (by simpa using h), fun h => hF.out.f10 (by simpa using h), fun h => hF.out.f11 (by simpa using h), fun h => hF.out.f12 (by simpa using h), fun h => hF.out.f13 (by simpa using h), fun h => hF.out.f14 (by simpa using h), fun h => hF.out.f15 (by simpa using h), fun h => hF.out.f16 (by simpa using h), fun h => hF.out.f17 (by simpa using h), fun h => by have := hF.out.p9 (by simpa using h); simpa using this, fun h => by have := hF.out.p13 (by simpa using h); simpa using this, fun h => by have := hF.out.q17 (by simpa using h); simpa using this, hF.out.db, fun h => hF.out.fs0 (by simpa using h), fun h k => hF.out.fs1 (by simpa using h) (by simpa using k), fun h => hF.out.fs2 (by simpa using h)⟩
      · intro d a W hI hd hdep
        obtain ⟨x16, x17, x18, x19, x20, x21, x22, x23, x24, x25, x26, x27, x28, x29, x30, x31, rfl, hF⟩ := hI
        have hd6 : d 6 = true := dep_of hdep 6 (by kernel_rfl)
        have hd7 : d 7 = true := dep_of hdep 7 (by kernel_rfl)
        obtain rfl := hF.out.f6 hd6
        obtain rfl := hF.out.f7 hd7
        clear hdep hd hd6 hd7
        intro K hK
        simp only [Act.put, List.setIfInBounds_toArray, List.set_cons_zero, List.set_cons_succ]
        go_simp
        refine hK.out _ _ ⟨x16, x17, x18, x19, x20, x21, (.slice (some ⟨gr, 0, none⟩) n cr), (.int .i64 (s : Int)), (.pointer (some ⟨gr, s * 256, none⟩)), x25, x26, x27, x28, x29, x30, x31, by simp only [Act.put, List.setIfInBounds_toArray, List.set_cons_zero, List.set_cons_succ], ?_⟩
        exact ⟨fun h => hF.out.f0 (by simpa using h), fun h => hF.out.f1 (by simpa using h), fun h => hF.out.f2 (by simpa using h), fun h => hF.out.f3 (by simpa using h), fun h => hF.out.f4 (by simpa using h), fun h => hF.out.f5 (by simpa using h), fun h => hF.out.f6 (by simpa using h), fun h => hF.out.f7 (by simpa using h), fun _ => rfl, fun h => hF.out.f9 (by simpa using h), fun h => hF.out.f10 (by simpa using h), fun h => hF.out.f11 (by simpa using h), fun h => hF.out.f12 (by simpa using h), fun h => hF.out.f13 (by simpa using h), fun h => hF.out.f14 (by simpa using h), fun h => hF.out.f15 (by simpa using h), fun h => hF.out.f16 (by simpa using h), fun h => hF.out.f17 (by simpa using h), fun h => by have := hF.out.p9 (by simpa using h); simpa using this, fun h => by have := hF.out.p13 (by simpa using h); simpa using this, fun h => by have := hF.out.q17 (by simpa using h); simpa using this, hF.out.db, fun h => hF.out.fs0 (by simpa using h), fun h k => hF.out.fs1 (by simpa using h) (by simpa using k), fun h => hF.out.fs2 (by simpa using h)⟩
      · intro d a W hI hd hdep
        obtain ⟨x16, x17, x18, x19, x20, x21, x22, x23, x24, x25, x26, x27, x28, x29, x30, x31, rfl, hF⟩ := hI
        have hd8 : d 8 = true := dep_of hdep 8 (by kernel_rfl)
        obtain rfl := hF.out.f8 hd8
        have hfm := hF.out.fs0 (no_later hF.out.p9 hd)
        have hrg : W.rangeAt gr (s * 256) ls := by rw [← HLS.out]; exact hfm.rb.range HSN.out
        clear hfm
        clear hdep hd hd8
        intro K hK
        simp only [Act.put, List.setIfInBounds_toArray, List.set_cons_zero, List.set_cons_succ]
        refine wp_load_mid 42 _ rfl gr (s * 256) rfl ls _ hrg Try.underlying42 rfl HLLs.out ?_
        simp only [Act.put, List.setIfInBounds_toArray, List.set_cons_zero, List.set_cons_succ]
        refine hK.out _ _ ⟨x16, x17, x18, x19, x20, x21, x22, x23, (.pointer (some ⟨gr, s * 256, none⟩)), (.agg ls.toArray), x26, x27, x28, x29, x30, x31, by simp only [Act.put, List.setIfInBounds_toArray, List.set_cons_zero, List.set_cons_succ], ?_⟩
        exact ⟨fun h => hF.out.f0 (by simpa using h), fun h => hF.out.f1 (by simpa using h), fun h => hF.out.f2 (by simpa using h), fun h => hF.out.f3 (by simpa using h), fun h => hF.out.f4 (by simpa using h), fun h => hF.out.f5 (by simpa using h), fun h => hF.out.f6 (by simpa using h), fun h => hF.out.f7 (by simpa using h), fun h => hF.out.f8 (by simpa using h), fun _ => rfl, fun h => hF.out.f10 (by simpa using h), fun h => hF.out.f11 (by simpa using h), fun h => hF.out.f12 (by simpa using h), fun h => hF.out.f13 (by simpa using h), fun h => hF.out.f14 (by simpa using h), fun h => hF.out.f15 (by simpa using h), fun h => hF.out.f16 (by simpa using h), fun h => hF.out.f17 (by simpa using h), fun _ => by simp, fun h => by have := hF.out.p13 (by simpa using h); simpa using this, fun h => by have := hF.out.q17 (by simpa using h); simpa using this, hF.out.db, fun h => hF.out.fs0 (by simpa using h), fun h k => hF.out.fs1 (by simpa using h) (by simpa using k), fun h => hF.out.fs2 (by simpa using h)⟩
      · intro d a W hI hd hdep
        obtain ⟨x16, x17, x18, x19, x20, x21, x22, x23, x24, x25, x26, x27, x28, x29, x30, x31, rfl, hF⟩ := hI
        clear hdep hd
        intro K hK
        simp only [Act.put, List.setIfInBounds_toArray, List.set_cons_zero, List.set_cons_succ]
        go_simp
        refine hK.out _ _ ⟨x16, x17, x18, x19, x20, x21, x22, x23, x24, x25, (.pointer (some ⟨gd, 0, none⟩)), x27, x28, x29, x30, x31, by simp only [Act.put, List.setIfInBounds_toArray, List.set_cons_zero, List.set_cons_succ], ?_⟩
        exact ⟨fun h => hF.out.f0 (by simpa using h), fun h => hF.out.f1 (by simpa using h), fun h => hF.out.f2 (by simpa using h), fun h => hF.out.f3 (by simpa using h), fun h => hF.out.f4 (by simpa using h), fun h => hF.out.f5 (by simpa using h), fun h => hF.out.f6 (by simpa using h), fun h => hF.out.f7 (by simpa using h), fun h => hF.out.f8 (by simpa using h), fun h => hF.out.f9 (by simpa using h), fun _ => rfl, fun h => hF.out.f11 (by simpa using h), fun h => hF.out.f12 (by simpa using h), fun h => hF.out.f13 (by simpa using h), fun h => hF.out.f14 (by simpa using h), fun h => hF.out.f15 (by simpa using h), fun h => hF.out.f16 (by simpa using h), fun h => hF.out.f17 (by simpa using h), fun h => by have := hF.out.p9 (by simpa using h); simpa using this, fun h => by have := hF.out.p13 (by simpa using h); simpa using this, fun h => by have := hF.out.q17 (by simpa using h); simpa using this, hF.out.db, fun h => hF.out.fs0 (by simpa using h), fun h k => hF.out.fs1 (by simpa using h) (by simpa using k), fun h => hF.out.fs2 (by simpa using h)⟩
      · intro d a W hI hd hdep
        obtain ⟨x16, x17, x18, x19, x20, x21, x22, x23, x24, x25, x26, x27, x28, x29, x30, x31, rfl, hF⟩ := hI
        have hd10 : d 10 = true := dep_of hdep 10 (by kernel_rfl)
        obtain rfl := hF.out.f10 hd10
        have ya := hF.out.db.cell (i := 0) (by omega)
        simp only [if_true] at ya
        clear hdep hd hd10
        intro K hK
        simp only [Act.put, List.setIfInBounds_toArray, List.set_cons_zero, List.set_cons_succ]
        go_simp
        refine hK.out _ _ ⟨x16, x17, x18, x19, x20, x21, x22, x23, x24, x25, (.pointer (some ⟨gd, 0, none⟩)), (.slice (some ⟨gr, 0, none⟩) n cr), x28, x29, x30, x31, by simp only [Act.put, List.setIfInBounds_toArray, List.set_cons_zero, List.set_cons_succ], ?_⟩
        exact ⟨fun h => hF.out.f0 (by simpa using h), fun h => hF.out.f1 (by simpa using h), fun h => hF.out.f2 (by simpa using h), fun h => hF.out.f3 (by simpa using h), fun h => hF.out.f4 (by simpa using h), fun h => hF.out.f5 (by simpa using h), fun h => hF.out.f6 (by simpa using h), fun h => hF.out.f7 (by simpa using h), fun h => hF.out.f8 (by simpa using h), fun h => hF.out.f9 (by simpa using h), fun h => hF.out.f10 (by simpa using h), fun _ => rfl, fun h => hF.out.f12 (by simpa using h), fun h => hF.out.f13 (by simpa using h), fun h => hF.out.f14 (by simpa using h), fun h => hF.out.f15 (by simpa using h), fun h => hF.out.f16 (by simpa using h), fun h => hF.out.f17 (by simpa using h), fun h => by have := hF.out.p9 (by simpa using h); simpa using this, fun h => by have := hF.out.p13 (by simpa using h); simpa using this, fun h => by have := hF.out.q17 (by simpa using h); simpa using this, hF.out.db, fun h => hF.out.fs0 (by simpa using h), fun h k => hF.out.fs1 (by simpa using h) (by simpa using k), fun h => hF.out.fs2 (by simpa using h)⟩
      · intro d a W hI hd hdep
        obtain ⟨x16, x17, x18, x19, x20, x21, x22, x23, x24, x25, x26, x27, x28, x29, x30, x31, rfl, hF⟩ := hI
        have hd11 : d 11 = true := dep_of hdep 11 (by kernel_rfl)
        obtain rfl := hF.out.f11 hd11
        clear hdep hd hd11
        intro K hK
        simp only [Act.put, List.setIfInBounds_toArray, List.set_cons_zero, List.set_cons_succ]
        go_simp
        refine hK.out _ _ ⟨x16, x17, x18, x19, x20, x21, x22, x23, x24, x25, x26, (.slice (some ⟨gr, 0, none⟩) n cr), (.pointer (some ⟨gr, 0, none⟩)), x29, x30, x31, by simp only [Act.put, List.setIfInBounds_toArray, List.set_cons_zero, List.set_cons_succ], ?_⟩
        exact ⟨fun h => hF.out.f0 (by simpa using h), fun h => hF.out.f1 (by simpa using h), fun h => hF.out.f2 (by simpa using h), fun h => hF.out.f3 (by simpa using h), fun h => hF.out.f4 (by simpa using h), fun h => hF.out.f5 (by simpa using h), fun h => hF.out.f6 (by simpa using h), fun h => hF.out.f7 (by simpa using h), fun h => hF.out.f8 (by simpa using h), fun h => hF.out.f9 (by simpa using h), fun h => hF.out.f10 (by simpa using h), fun h => hF.out.f11 (by simpa using h), fun _ => rfl, fun h => hF.out.f13 (by simpa using h), fun h => hF.out.f14 (by simpa using h), fun h => hF.out.f15 (by simpa using h), fun h => hF.out.f16 (by simpa using h), fun h => hF.out.f17 (by simpa using h), fun h => by have := hF.out.p9 (by simpa using h); simpa using this, fun h => by have := hF.out.p13 (by simpa using h); simpa using this, fun h => by have := hF.out.q17 (by simpa using h); simpa using this, hF.out.db, fun h => hF.out.fs0 (by simpa using h), fun h k => hF.out.fs1 (by simpa using h) (by simpa using k), fun h => hF.out.fs2 (by simpa using h)⟩
      · intro d a W hI hd hdep
        obtain ⟨x16, x17, x18, x19, x20, x21, x22, x23, x24, x25, x26, x27, x28, x29, x30, x31, rfl, hF⟩ := hI
        have hd12 : d 12 = true := dep_of hdep 12 (by kernel_rfl)
        obtain rfl := hF.out.f12 hd12
        have hfm := hF.out.fs0 (no_later hF.out.p13 hd)
        have hrg : W.rangeAt gr 0 lz := by rw [← HLZ.out]; have := hfm.rb.range (i := 0) HN0.out.1; simpa using this
        clear hfm
        clear hdep hd hd12
        intro K hK
        simp only [Act.put, List.setIfInBounds_toArray, List.set_cons_zero, List.set_cons_succ]
        refine wp_load_mid 42 _ rfl gr (0) rfl lz _ hrg Try.underlying42 rfl HLLz.out ?_
        simp only [Act.put, List.setIfInBounds_toArray, List.set_cons_zero, List.set_cons_succ]
        refine hK.out _ _ ⟨x16, x17, x18, x19, x20, x21, x22, x23, x24, x25, x26, x27, (.pointer (some ⟨gr, 0, none⟩)), (.agg lz.toArray), x30, x31, by simp only [Act.put, List.setIfInBounds_toArray, List.set_cons_zero, List.set_cons_succ], ?_⟩
        exact ⟨fun h => hF.out.f0 (by simpa using h), fun h => hF.out.f1 (by simpa using h), fun h => hF.out.f2 (by simpa using h), fun h => hF.out.f3 (by simpa using h), fun h => hF.out.f4 (by simpa using h), fun h => hF.out.f5 (by simpa using h), fun h => hF.out.f6 (by simpa using h), fun h => hF.out.f7 (by simpa using h), fun h => hF.out.f8 (by simpa using h), fun h => hF.out.f9 (by simpa using h), fun h => hF.out.f10 (by simpa using h), fun h => hF.out.f11 (by simpa using h), fun h => hF.out.f12 (by simpa using h), fun _ => rfl, fun h => hF.out.f14 (by simpa using h), fun h => hF.out.f15 (by simpa using h), fun h => hF.out.f16 (by simpa using h), fun h => hF.out.f17 (by simpa using h), fun h => by have := hF.out.p9 (by simpa using h); simpa using this, fun _ => by simp, fun h => by have := hF.out.q17 (by simpa using h); simpa using this, hF.out.db, fun h => hF.out.fs0 (by simpa using h), fun h k => hF.out.fs1 (by simpa using h) (by simpa using k), fun h => hF.out.fs2 (by simpa using h)⟩
      · intro d a W hI hd hdep
        obtain ⟨x16, x17, x18, x19, x20, x21, x22, x23, x24, x25, x26, x27, x28, x29, x30, x31, rfl, hF⟩ := hI
        have hd1 : d 1 = true := dep_of hdep 1 (by kernel_rfl)
        obtain rfl := hF.out.f1 hd1
        clear hdep hd hd1
        intro K hK
        simp only [Act.put, List.setIfInBounds_toArray, List.set_cons_zero, List.set_cons_succ]
        go_simp
        refine hK.out _ _ ⟨x16, (.slice (some ⟨gr, 0, none⟩) n cr), x18, x19, x20, x21, x22, x23, x24, x25, x26, x27, x28, x29, (.pointer (some ⟨gr, 0, none⟩)), x31, by simp only [Act.put, List.setIfInBounds_toArray, List.set_cons_zero, List.set_cons_succ], ?_⟩
        exact ⟨fun h => hF.out.f0 (by simpa using h), fun h => hF.out.f1 (by simpa using h), fun h => hF.out.f2 (by simpa using h), fun h => hF.out.f3 (by simpa using h), fun h => hF.out.f4 (by simpa using h), fun h => hF.out.f5 (by simpa using h), fun h => hF.out.f6 (by simpa using h), fun h => hF.out.f7 (by simpa using h), fun h => hF.out.f8 (by simpa using h), fun h => hF.out.f9 (by simpa using h), fun h => hF.out.f10 (by simpa using h), fun h => hF.out.f11 (by simpa using h), fun h => hF.out.f12 (by simpa using h), fun h => hF.out.f13 (by simpa using h), fun _ => rfl, fun h => hF.out.f15 (by simpa using h), fun h => hF.out.f16 (by simpa using h), fun h => hF.out.f17 (by simpa using h), fun h => by have := hF.out.p9 (by simpa using h); simpa using this, fun h => by have := hF.out.p13 (by simpa using h); simpa using this, fun h => by have := hF.out.q17 (by simpa using h); simpa using this, hF.out.db, fun h => hF.out.fs0 (by simpa using h), fun h k => hF.out.fs1 (by simpa using h) (by simpa using k), fun h => hF.out.fs2 (by simpa using h)⟩
      · intro d a W hI hd hdep
        obtain ⟨x16, x17, x18, x19, x20, x21, x22, x23, x24, x25, x26, x27, x28, x29, x30, x31, rfl, hF⟩ := hI
        have hd14 : d 14 = true := dep_of hdep 14 (by kernel_rfl)
        have hd9 : d 9 = true := dep_of hdep 9 (by kernel_rfl)
        have hd13 : d 13 = true := dep_of hdep 13 (by kernel_rfl)
        obtain rfl := hF.out.f14 hd14
        obtain rfl := hF.out.f9 hd9
        obtain rfl := hF.out.f13 hd13
        have e15_9 := hd9
        have e15_13 := hd13
        have HFM : Hid (Fm w gr cr gt ct gd n F U W) := hF.out.fs0 hd
        have HN17 : Hid (d 17 = false) := no_later hF.out.q17 hd
        have hth : W.there gr 0 ls.toArray.size := by rw [HSZs.out]; have := HFM.out.rb.there (i := 0) HN0.out.1; simpa using this
        clear hdep hd hd14 hd9 hd13
        intro K hK
        simp only [Act.put, List.setIfInBounds_toArray, List.set_cons_zero, List.set_cons_succ]
        refine wp_store_mid 42 _ _ rfl gr 0 ls.toArray rfl rfl hth (by rw [HSZs.out]; exact size42) HONs.out ?_
        refine hK.out _ _ ⟨x16, x17, x18, x19, x20, x21, x22, x23, x24, (.agg ls.toArray), x26, x27, x28, (.agg lz.toArray), (.pointer (some ⟨gr, 0, none⟩)), x31, by simp only [Act.put, List.setIfInBounds_toArray, List.set_cons_zero, List.set_cons_succ], ?_⟩
        have hnew : Fm w gr cr gt ct gd n (fun r b => if r = 0 then F s b else F r b) U (W.setCells gr 0 ls.toArray.toList) := HFM.out.rset (setCells_below _ (by have := HFM.out.ne; omega) _ _ _ HFM.out.below) (fun k hk => heap_setCells_ne _ _ _ _ _ hk) (by have := HFM.out.rb.setRow (i := 0) HN0.out.1 (F s) ls (by have := HSZs.out; simpa using this) HATs.out; simpa using this)
        exact ⟨fun h => hF.out.f0 (by simpa using h), fun h => hF.out.f1 (by simpa using h), fun h => hF.out.f2 (by simpa using h), fun h => hF.out.f3 (by simpa using h), fun h => hF.out.f4 (by simpa using h), fun h => hF.out.f5 (by simpa using h), fun h => hF.out.f6 (by simpa using h), fun h => hF.out.f7 (by simpa using h), fun h => hF.out.f8 (by simpa using h), fun h => hF.out.f9 (by simpa using h), fun h => hF.out.f10 (by simpa using h), fun h => hF.out.f11 (by simpa using h), fun h => hF.out.f12 (by simpa using h), fun h => hF.out.f13 (by simpa using h), fun h => hF.out.f14 (by simpa using h), fun _ => trivial, fun h => hF.out.f16 (by simpa using h), fun h => hF.out.f17 (by simpa using h), fun _ => by simpa using e15_9, fun _ => by simpa using e15_13, fun _ => by simp, hnew.db, fun h => by simp at h, fun _ _ => hnew, fun h => by have := HN17.out; simp [this] at h⟩
      · intro d a W hI hd hdep
        obtain ⟨x16, x17, x18, x19, x20, x21, x22, x23, x24, x25, x26, x27, x28, x29, x30, x31, rfl, hF⟩ := hI
        have hd3 : d 3 = true := dep_of hdep 3 (by kernel_rfl)
        have hd4 : d 4 = true := dep_of hdep 4 (by kernel_rfl)
        obtain rfl := hF.out.f3 hd3
        obtain rfl := hF.out.f4 hd4
        clear hdep hd hd3 hd4
        intro K hK
        simp only [Act.put, List.setIfInBounds_toArray, List.set_cons_zero, List.set_cons_succ]
        go_simp
        refine hK.out _ _ ⟨x16, x17, x18, (.slice (some ⟨gr, 0, none⟩) n cr), (.int .i64 (s : Int)), x21, x22, x23, x24, x25, x26, x27, x28, x29, x30, (.pointer (some ⟨gr, s * 256, none⟩)), by simp only [Act.put, List.setIfInBounds_toArray, List.set_cons_zero, List.set_cons_succ], ?_⟩
        exact ⟨fun h => hF.out.f0 (by simpa using h), fun h => hF.out.f1 (by simpa using h), fun h => hF.out.f2 (by simpa using h), fun h => hF.out.f3 (by simpa using h), fun h => hF.out.f4 (by simpa using h), fun h => hF.out.f5 (by simpa using h), fun h => hF.out.f6 (by simpa using h), fun h => hF.out.f7 (by simpa using h), fun h => hF.out.f8 (by simpa using h), fun h => hF.out.f9 (by simpa using h), fun h => hF.out.f10 (by simpa using h), fun h => hF.out.f11 (by simpa using h), fun h => hF.out.f12 (by simpa using h), fun h => hF.out.f13 (by simpa using h), fun h => hF.out.f14 (by simpa using h), fun h => hF.out.f15 (by simpa using h), fun _ => rfl, fun h => hF.out.f17 (by simpa using h), fun h => by have := hF.out.p9 (by simpa using h); simpa using this, fun h => by have := hF.out.p13 (by simpa using h); simpa using this, fun h => by have := hF.out.q17 (by simpa using h); simpa using this, hF.out.db, fun h => hF.out.fs0 (by simpa using h), fun h k => hF.out.fs1 (by simpa using h) (by simpa using k), fun h => hF.out.fs2 (by simpa using h)⟩
      · intro d a W hI hd hdep
        obtain ⟨x16, x17, x18, x19, x20, x21, x22, x23, x24, x25, x26, x27, x28, x29, x30, x31, rfl, hF⟩ := hI
        have hd16 : d 16 = true := dep_of hdep 16 (by kernel_rfl)
        have hd13 : d 13 = true := dep_of hdep 13 (by kernel_rfl)
        have hd15 : d 15 = true := dep_of hdep 15 (by kernel_rfl)
        obtain rfl := hF.out.f16 hd16
        obtain rfl := hF.out.f13 hd13
        have e17_15 := hd15
        have HFM : Hid (Fm w gr cr gt ct gd n (fun r b => if r = 0 then F s b else F r b) U W) := hF.out.fs1 hd15 hd
        have hth : W.there gr (s * 256) lz.toArray.size := by rw [HSZz.out]; exact HFM.out.rb.there HSN.out
        clear hdep hd hd16 hd13 hd15
        intro K hK
        simp only [Act.put, List.setIfInBounds_toArray, List.set_cons_zero, List.set_cons_succ]
        refine wp_store_mid 42 _ _ rfl gr (s * 256) lz.toArray rfl rfl hth (by rw [HSZz.out]; exact size42) HONz.out ?_
        refine hK.out _ _ ⟨x16, x17, x18, x19, x20, x21, x22, x23, x24, x25, x26, x27, x28, (.agg lz.toArray), x30, (.pointer (some ⟨gr, s * 256, none⟩)), by simp only [Act.put, List.setIfInBounds_toArray, List.set_cons_zero, List.set_cons_succ], ?_⟩
        have hnew : Fm w gr cr gt ct gd n (fun r b => if r = s then F 0 b else (if r = 0 then F s b else F r b)) U (W.setCells gr (s * 256) lz.toArray.toList) := HFM.out.rset (setCells_below _ (by have := HFM.out.ne; omega) _ _ _ HFM.out.below) (fun k hk => heap_setCells_ne _ _ _ _ _ hk) (by have := HFM.out.rb.setRow (i := s) HSN.out (F 0) lz (by have := HSZz.out; simpa using this) HATz.out; simpa using this)
        exact ⟨fun h => hF.out.f0 (by simpa using h), fun h => hF.out.f1 (by simpa using h), fun h => hF.out.f2 (by simpa using h), fun h => hF.out.f3 (by simpa using h), fun h => hF.out.f4 (by simpa using h), fun h => hF.out.f5 (by simpa using h), fun h => hF.out.f6 (by simpa using h), fun h => hF.out.f7 (by simpa using h), fun h => hF.out.f8 (by simpa using h), fun h => hF.out.f9 (by simpa using h), fun h => hF.out.f10 (by simpa using h), fun h => hF.out.f11 (by simpa using h), fun h => hF.out.f12 (by simpa using h), fun h => hF.out.f13 (by simpa using h), fun h => hF.out.f14 (by simpa using h), fun h => hF.out.f15 (by simpa using h), fun h => hF.out.f16 (by simpa using h), fun _ => trivial, fun h => by have := hF.out.p9 (by simpa using h); simpa using this, fun h => by have := hF.out.p13 (by simpa using h); simpa using this, fun _ => by simpa using e17_15, hnew.db, fun h => by have := e17_15; simp [this] at h, fun _ h => by simp at h, fun _ => hnew⟩
    · intro d a W hI hall
      obtain ⟨x16, x17, x18, x19, x20, x21, x22, x23, x24, x25, x26, x27, x28, x29, x30, x31, rfl, hF⟩ := hI
      simp only [List.length_cons, List.length_nil] at hall
      obtain rfl := hF.out.f0 (hall 0 (by omega))
      obtain rfl := hF.out.f1 (hall 1 (by omega))
      obtain rfl := hF.out.f2 (hall 2 (by omega))
      obtain rfl := hF.out.f3 (hall 3 (by omega))
      obtain rfl := hF.out.f4 (hall 4 (by omega))
      obtain rfl := hF.out.f5 (hall 5 (by omega))
      obtain rfl := hF.out.f6 (hall 6 (by omega))
      obtain rfl := hF.out.f7 (hall 7 (by omega))
      obtain rfl := hF.out.f8 (hall 8 (by omega))
      obtain rfl := hF.out.f9 (hall 9 (by omega))
      obtain rfl := hF.out.f10 (hall 10 (by omega))
      obtain rfl := hF.out.f11 (hall 11 (by omega))
      obtain rfl := hF.out.f12 (hall 12 (by omega))
      obtain rfl := hF.out.f13 (hall 13 (by omega))
      obtain rfl := hF.out.f14 (hall 14 (by omega))
      obtain rfl := hF.out.f16 (hall 16 (by omega))
      have HFM2 : Hid (Fm w gr cr gt ct gd n (fun r b => if r = s then F 0 b else (if r = 0 then F s b else F r b)) U W) := hF.out.fs2 (hall 17 (by omega))
      clear hF hall HFM
      simp only [Act.put, List.setIfInBounds_toArray, List.set_cons_zero, List.set_cons_succ]
      obtain ⟨W2, rfl⟩ : ∃ W2, W2 = W := ⟨_, rfl⟩
      obtain ⟨F2x, HF2⟩ : ∃ q, Hid ((fun r b => if r = s then F 0 b else (if r = 0 then F s b else F r b)) = q) := ⟨_, (rfl : _ = _)⟩
      rw [HF2.out] at HFM2
      go_wp2_with fail
      refine wp_region_free mixed (fun a0 d a W => ∃ (x32 x33 x34 x35 x36 x37 x38 x39 x40 x41 x42 x43 x44 x45 x46 x47 : Value), a = ((((((((((((((((a0.put (some 32) x32).put (some 33) x33).put (some 34) x34).put (some 35) x35).put (some 36) x36).put (some 37) x37).put (some 38) x38).put (some 39) x39).put (some 40) x40).put (some 41) x41).put (some 42) x42).put (some 43) x43).put (some 44) x44).put (some 45) x45).put (some 46) x46).put (some 47) x47) ∧ Hid (RF3 w n F2x U s gr cr gt ct gd d x32 x33 x34 x35 x36 x37 x38 x39 x40 x41 x42 x43 x44 x45 x46 x47 W)) (by kernel_rfl) ⟨undef, undef, undef, undef, undef, undef, undef, undef, undef, undef, undef, undef, undef, undef, undef, undef, by simp only [Act.put, List.setIfInBounds_toArray, List.set_cons_zero, List.set_cons_succ], ?_⟩ ?_ ?_
      · exact ⟨fun h => no_way h, fun h => no_way h, fun h => no_way h, fun h => no_way h, fun h => no_way h, fun h => no_way h, fun h => no_way h, fun h => no_way h, fun h => no_way h, fun h => no_way h, fun h => no_way h, fun h => no_way h, fun h => no_way h, fun h => no_way h, fun h => no_way h, fun _ => trivial, fun h => no_way h, fun _ => trivial, fun h => no_way h, fun h => no_way h, fun h => no_way h, HFM2.out.db.of_block rfl, fun _ => HFM2.out.same (Sm.drew _), fun h => no_way h, fun h => no_way h⟩
      · simp only [StepAll, and_true]
        refine ⟨?_, ?_, ?_, ?_, ?_, ?_, ?_, ?_, ?_, ?_, ?_, ?_, ?_, ?_, ?_, ?_, ?_, ?_⟩
        · intro d a W hI hd hdep
          obtain ⟨x32, x33, x34, x35, x36, x37, x38, x39, x40, x41, x42, x43, x44, x45, x46, x47, rfl, hF⟩ := hI
          clear hdep hd
          intro K hK
          simp only [Act.put, List.setIfInBounds_toArray, List.set_cons_zero, List.set_cons_succ]
          go_simp
          refine hK.out _ _ ⟨(.pointer (some ⟨gd, 1, none⟩)), x33, x34, x35, x36, x37, x38, x39, x40, x41, x42, x43, x44, x45, x46, x47, by simp only [Act.put, List.setIfInBounds_toArray, List.set_cons_zero, List.set_cons_succ], ?_⟩
          exact ⟨fun _ => rfl, fun h => hF.out.f1 (by simpa using h), fun h => hF.out.f2 (by simpa using h), fun h => hF.out.f3 (by simpa using h), fun h => hF.out.f4 (by simpa using h), fun h => hF.out.f5 (by simpa using h), fun h => hF.out.f6 (by simpa using h), fun h => hF.out.f7 (by simpa using h), fun h => hF.out.f8 (by simpa using h), fun h => hF.out.f9 (by simpa using h), fun h => hF.out.f10 (by simpa using h), fun h => hF.out.f11 (by simpa using h), fun h => hF.out.f12 (by simpa using h), fun h => hF.out.f13 (by simpa using h), fun h => hF.out.f14 (by simpa using h), fun h => hF.out.f15 (by simpa using h), fun h => hF.out.f16 (by simpa using h), fun h => hF.out.f17 (by simpa using h), fun h => by have := hF.out.p9 (by simpa using h); simpa using this, fun h => by have := hF.out.p13 (by simpa using h); simpa using this, fun h => by have := hF.out.q17 (by simpa using h); simpa using this, hF.out.db, fun h => hF.out.fs0 (by simpa using h), fun h k => hF.out.fs1 (by simpa using h) (by simpa using k), fun h => hF.out.fs2 (by simpa using h)⟩
        · intro d a W hI hd hdep
          obtain ⟨x32, x33, x34, x35, x36, x37, x38, x39, x40, x41, x42, x43, x44, x45, x46, x47, rfl, hF⟩ := hI
          have hd0 : d 0 = true := dep_of hdep 0 (by kernel_rfl)
          obtain rfl := hF.out.f0 hd0
          have ya := hF.out.db.cell (i := 1) (by omega)
          rw [if_neg (by omega)] at ya
          clear hdep hd hd0
          intro K hK
          simp only [Act.put, List.setIfInBounds_toArray, List.set_cons_zero, List.set_cons_succ]
          go_simp
          refine hK.out _ _ ⟨(.pointer (some ⟨gd, 1, none⟩)), (.slice (some ⟨gt, 0, none⟩) n ct), x34, x35, x36, x37, x38, x39, x40, x41, x42, x43, x44, x45, x46, x47, by simp only [Act.put, List.setIfInBounds_toArray, List.set_cons_zero, List.set_cons_succ], ?_⟩
          exact ⟨fun h => hF.out.f0 (by simpa using h), fun _ => rfl, fun h => hF.out.f2 (by simpa using h), fun h => hF.out.f3 (by simpa using h), fun h => hF.out.f4 (by simpa using h), fun h => hF.out.f5 (by simpa using h), fun h => hF.out.f6 (by simpa using h), fun h => hF.out.f7 (by simpa using h), fun h => hF.out.f8 (by simpa using h), fun h => hF.out.f9 (by simpa using h), fun h => hF.out.f10 (by simpa using h), fun h => hF.out.f11 (by simpa using h), fun h => hF.out.f12 (by simpa using h), fun h => hF.out.f13 (by simpa using h), fun h => hF.out.f14 (by simpa using h), fun h => hF.out.f15 (by simpa using h), fun h => hF.out.f16 (by simpa using h), fun h => hF.out.f17 (by simpa using h), fun h => by have := hF.out.p9 (by simpa using h); simpa using this, fun h => by have := hF.out.p13 (by simpa using h); simpa using this, fun h => by have := hF.out.q17 (by simpa using h); simpa using this, hF.out.db, fun h => hF.out.fs0 (by simpa using h), fun h k => hF.out.fs1 (by simpa using h) (by simpa using k), fun h => hF.out.fs2 (by simpa using h)⟩
        · intro d a W hI hd hdep
          obtain ⟨x32, x33, x34, x35, x36, x37, x38, x39, x40, x41, x42, x43, x44, x45, x46, x47, rfl, hF⟩ := hI
          clear hdep hd
          intro K hK
          simp only [Act.put, List.setIfInBounds_toArray, List.set_cons_zero, List.set_cons_succ]
          go_simp
          refine hK.out _ _ ⟨x32, x33, (.pointer (some ⟨gd, 1, none⟩)), x35, x36, x37, x38, x39, x40, x41, x42, x43, x44, x45, x46, x47, by simp only [Act.put, List.setIfInBounds_toArray, List.set_cons_zero, List.set_cons_succ], ?_⟩
          exact ⟨fun h => hF.out.f0 (by simpa using h), fun h => hF.out.f1 (by simpa using h), fun _ => rfl, fun h => hF.out.f3 (by simpa using h), fun h => hF.out.f4 (by simpa using h), fun h => hF.out.f5 (by simpa using h), fun h => hF.out.f6 (by simpa using h), fun h => hF.out.f7 (by simpa using h), fun h => hF.out.f8 (by simpa using h), fun h => hF.out.f9 (by simpa using h), fun h => hF.out.f10 (by simpa using h), fun h => hF.out.f11 (by simpa using h), fun h => hF.out.f12 (by simpa using h), fun h => hF.out.f13 (by simpa using h), fun h => hF.out.f14 (by simpa using h), fun h => hF.out.f15 (by simpa using h), fun h => hF.out.f16 (by simpa using h), fun h => hF.out.f17 (by simpa using h), fun h => by have := hF.out.p9 (by simpa using h); simpa using this, fun h => by have := hF.out.p13 (by simpa using h); simpa using this, fun h => by have := hF.out.q17 (by simpa using h); simpa using this, hF.out.db, fun h => hF.out.fs0 (by simpa using h), fun h k => hF.out.fs1 (by simpa using h) (by simpa using k), fun h => hF.out.fs2 (by simpa using h)⟩
        · intro d a W hI hd hdep
          obtain ⟨x32, x33, x34, x35, x36, x37, x38, x39, x40, x41, x42, x43, x44, x45, x46, x47, rfl, hF⟩ := hI
          have hd2 : d 2 = true := dep_of hdep 2 (by kernel_rfl)
          obtain rfl := hF.out.f2 hd2
          have ya := hF.out.db.cell (i := 1) (by omega)
          rw [if_neg (by omega)] at ya
          clear hdep hd hd2
          intro K hK
          simp only [Act.put, List.setIfInBounds_toArray, List.set_cons_zero, List.set_cons_succ]
          go_simp
          refine hK.out _ _ ⟨x32, x33, (.pointer (some ⟨gd, 1, none⟩)), (.slice (some ⟨gt, 0, none⟩) n ct), x36, x37, x38, x39, x40, x41, x42, x43, x44, x45, x46, x47, by simp only [Act.put, List.setIfInBounds_toArray, List.set_cons_zero, List.set_cons_succ], ?_⟩
          exact ⟨fun h => hF.out.f0 (by simpa using h), fun h => hF.out.f1 (by simpa using h), fun h => hF.out.f2 (by simpa using h), fun _ => rfl, fun h => hF.out.f4 (by simpa using h), fun h => hF.out.f5 (by simpa using h), fun h => hF.out.f6 (by simpa using h), fun h => hF.out.f7 (by simpa using h), fun h => hF.out.f8 (by simpa using h), fun h => hF.out.f9 (by simpa using h), fun h => hF.out.f10 (by simpa using h), fun h => hF.out.f11 (by simpa using h), fun h => hF.out.f12 (by simpa using h), fun h => hF.out.f13 (by simpa using h), fun h => hF.out.f14 (by simpa using h), fun h => hF.out.f15 (by simpa using h), fun h => hF.out.f16 (by simpa using h), fun h => hF.out.f17 (by simpa using h), fun h => by have := hF.out.p9 (by simpa using h); simpa using this, fun h => by have := hF.out.p13 (by simpa using h); simpa using this, fun h => by have := hF.out.q17 (by simpa using h); simpa using this, hF.out.db, fun h => hF.out.fs0 (by simpa using h), fun h k => hF.out.fs1 (by simpa using h) (by simpa using k), fun h => hF.out.fs2 (by simpa using h)⟩
        · intro d a W hI hd hdep
          obtain ⟨x32, x33, x34, x35, x36, x37, x38, x39, x40, x41, x42, x43, x44, x45, x46, x47, rfl, hF⟩ := hI
          clear hdep hd
          intro K hK
          simp only [Act.put, List.setIfInBounds_toArray, List.set_cons_zero, List.set_cons_succ]
          go_simp
          refine hK.out _ _ ⟨x32, x33, x34, x35, (.int .i64 (s : Int)), x37, x38, x39, x40, x41, x42, x43, x44, x45, x46, x47, by simp only [Act.put, List.setIfInBounds_toArray, List.set_cons_zero, List.set_cons_succ], ?_⟩
          exact ⟨fun h => hF.out.f0 (by simpa using h), fun h => hF.out.f1 (by simpa using h), fun h => hF.out.f2 (by simpa using h), fun h => hF.out.f3 (by simpa using h), fun _ => rfl, fun h => hF.out.f5 (by simpa using h), fun h => hF.out.f6 (by simpa using h), fun h => hF.out.f7 (by simpa using h), fun h => hF.out.f8 (by simpa using h), fun h => hF.out.f9 (by simpa using h), fun h => hF.out.f10 (by simpa using h), fun h => hF.out.f11 (by simpa using h), fun h => hF.out.f12 (by simpa using h), fun h => hF.out.f13 (by simpa using h), fun h => hF.out.f14 (by simpa using h), fun h => hF.out.f15 (by simpa using h), fun h => hF.out.f16 (by simpa using h), fun h => hF.out.f17 (by simpa using h), fun h => by have := hF.out.p9 (by simpa using h); simpa using this, fun h => by have := hF.out.p13 (by simpa using h); simpa using this, fun h => by have := hF.out.q17 (by simpa using h); simpa using this, hF.out.db, fun h => hF.out.fs0 (by simpa using h), fun h k => hF.out.fs1 (by simpa using h) (by simpa using k), fun h => hF.out.fs2 (by simpa using h)⟩
        · intro d a W hI hd hdep
          obtain ⟨x32, x33, x34, x35, x36, x37, x38, x39, x40, x41, x42, x43, x44, x45, x46, x47, rfl, hF⟩ := hI
          clear hdep hd
          intro K hK
          simp only [Act.put, List.setIfInBounds_toArray, List.set_cons_zero, List.set_cons_succ]
          go_simp
          refine hK.out _ _ ⟨x32, x33, x34, x35, x36, (.pointer (some ⟨gd, 1, none⟩)), x38, x39, x40, x41, x42, x43, x44, x45, x46, x47, by simp only [Act.put, List.setIfInBounds_toArray, List.set_cons_zero, List.set_cons_succ], ?_⟩
          exact ⟨fun h => hF.out.f0 (by simpa using h), fun h => hF.out.f1 (by simpa using h), fun h => hF.out.f2 (by simpa using h), fun h => hF.out.f3 (by simpa using h), fun h => hF.out.f4 (by simpa using h), fun _ => rfl, fun h => hF.out.f6 (by simpa using h), fun h => hF.out.f7 (by simpa using h), fun h => hF.out.f8 (by simpa using h), fun h => hF.out.f9 (by simpa using h), fun h => hF.out.f10 (by simpa using h), fun h => hF.out.f11 (by simpa using h), fun h => hF.out.f12 (by simpa using h), fun h => hF.out.f13 (by simpa using h), fun h => hF.out.f14 (by simpa using h), fun h => hF.out.f15 (by simpa using h), fun h => hF.out.f16 (by simpa using h), fun h => hF.out.f17 (by simpa using h), fun h => by have := hF.out.p9 (by simpa using h); simpa using this, fun h => by have := hF.out.p13 (by simpa using h); simpa using this, fun h => by have := hF.out.q17 (by simpa using h); simpa using this, hF.out.db, fun h => hF.out.fs0 (by simpa using h), fun h k => hF.out.fs1 (by simpa using h) (by simpa using k), fun h => hF.out.fs2 (by simpa using h)⟩
        · intro d a W hI hd hdep
          obtain ⟨x32, x33, x34, x35, x36, x37, x38, x39, x40, x41, x42, x43, x44, x45, x46, x47, rfl, hF⟩ := hI
          have hd5 : d 5 = true := dep_of hdep 5 (by kernel_rfl)
          obtain rfl := hF.out.f5 hd5
          have ya := hF.out.db.cell (i := 1) (by omega)
          rw [if_neg (by omega)] at ya
          clear hdep hd hd5
          intro K hK
          simp only [Act.put, List.setIfInBounds_toArray, List.set_cons_zero, List.set_cons_succ]
          go_simp
          refine hK.out _ _ ⟨x32, x33, x34, x35, x36, (.pointer (some ⟨gd, 1, none⟩)), (.slice (some ⟨gt, 0, none⟩) n ct), x39, x40, x41, x42, x43, x44, x45, x46, x47, by simp only [Act.put, List.setIfInBounds_toArray, List.set_cons_zero, List.set_cons_succ], ?_⟩
          exact ⟨fun h => hF.out.f0 (by simpa using h), fun h => hF.out.f1 (by simpa using h), fun h => hF.out.f2 (by simpa using h), fun h => hF.out.f3 (by simpa using h), fun h => hF.out.f4 (by simpa using h), fun h => hF.out.f5 (by simpa using h), fun _ => rfl, fun h => hF.out.f7 (by simpa using h), fun h => hF.out.f8 (by simpa using h), fun h => hF.out.f9 (by simpa using h), fun h => hF.out.f10 (by simpa using h), fun h => hF.out.f11 (by simpa using h), fun h => hF.out.f12 (by simpa using h), fun h => hF.out.f13 (by simpa using h), fun h => hF.out.f14 (by simpa using h), fun h => hF.out.f15 (by simpa using h), fun h => hF.out.f16 (by simpa using h), fun h => hF.out.f17 (by simpa using h), fun h => by have := hF.out.p9 (by simpa using h); simpa using this, fun h => by have := hF.out.p13 (by simpa using h); simpa using this, fun h => by have := hF.out.q17 (by simpa using h); simpa using this, hF.out.db, fun h => hF.out.fs0 (by simpa using h), fun h k => hF.out.fs1 (by simpa using h) (by simpa using k), fun h => hF.out.fs2 (by simpa using h)⟩
        · intro d a W hI hd hdep
          obtain ⟨x32, x33, x34, x35, x36, x37, x38, x39, x40, x41, x42, x43, x44, x45, x46, x47, rfl, hF⟩ := hI
          clear hdep hd
          intro K hK
          simp only [Act.put, List.setIfInBounds_toArray, List.set_cons_zero, List.set_cons_succ]
          go_simp
          refine hK.out _ _ ⟨x32, x33, x34, x35, x36, x37, x38, (.int .i64 (s : Int)), x40, x41, x42, x43, x44, x45, x46, x47, by simp only [Act.put, List.setIfInBounds_toArray, List.set_cons_zero, List.set_cons_succ], ?_⟩
          exact ⟨fun h => hF.out.f0 (by simpa using h), fun h => hF.out.f1 (by simpa using h), fun h => hF.out.f2 (by simpa using h), fun h => hF.out.f3 (by simpa using h), fun h => hF.out.f4 (by simpa using h), fun h => hF.out.f5 (by simpa using h), fun h => hF.out.f6 (by simpa using h), fun _ => rfl, fun h => hF.out.f8 (by simpa using h), fun h => hF.out.f9 (by simpa using h), fun h => hF.out.f10 (by simpa using h), fun h => hF.out.f11 (by simpa using h), fun h => hF.out.f12 (by simpa using h), fun h => hF.out.f13 (by simpa using h), fun h => hF.out.f14 (by simpa using h), fun h => hF.out.f15 (by simpa using h), fun h => hF.out.f16 (by simpa using h), fun h => hF.out.f17 (by simpa using h), fun h => by have := hF.out.p9 (by simpa using h); simpa using this, fun h => by have := hF.out.p13 (by simpa using h); simpa using this, fun h => by have := hF.out.q17 (by simpa using h); simpa using this, hF.out.db, fun h => hF.out.fs0 (by simpa using h), fun h k => hF.out.fs1 (by simpa using h) (by simpa using k), fun h => hF.out.fs2 (by simpa using h)⟩
        · intro d a W hI hd hdep
          obtain ⟨x32, x33, x34, x35, x36, x37, x38, x39, x40, x41, x42, x43, x44, x45, x46, x47, rfl, hF⟩ := hI
          have hd6 : d 6 = true := dep_of hdep 6 (by kernel_rfl)
          have hd7 : d 7 = true := dep_of hdep 7 (by kernel_rfl)
          obtain rfl := hF.out.f6 hd6
          obtain rfl := hF.out.f7 hd7
          clear hdep hd hd6 hd7
          intro K hK
          simp only [Act.put, List.setIfInBounds_toArray, List.set_cons_zero, List.set_cons_succ]
          go_simp
          refine hK.out _ _ ⟨x32, x33, x34, x35, x36, x37, (.slice (some ⟨gt, 0, none⟩) n ct), (.int .i64 (s : Int)), (.pointer (some ⟨gt, s, none⟩)), x41, x42, x43, x44, x45, x46, x47, by simp only [Act.put, List.setIfInBounds_toArray, List.set_cons_zero, List.set_cons_succ], ?_⟩
          exact ⟨fun h => hF.out.f0 (by simpa using h), fun h => hF.out.f1 (by simpa using h), fun h => hF.out.f2 (by simpa using h), fun h => hF.out.f3 (by simpa using h), fun h => hF.out.f4 (by simpa using h), fun h => hF.out.f5 (by simpa using h), fun h => hF.out.f6 (by simpa using h), fun h => hF.out.f7 (by simpa using h), fun _ => rfl, fun h => hF.out.f9 (by simpa using h), fun h => hF.out.f10 (by simpa using h), fun h => hF.out.f11 (by simpa using h), fun h => hF.out.f12 (by simpa using h), fun h => hF.out.f13 (by simpa using h), fun h => hF.out.f14 (by simpa using h), fun h => hF.out.f15 (by simpa using h), fun h => hF.out.f16 (by simpa using h), fun h => hF.out.f17 (by simpa using h), fun h => by have := hF.out.p9 (by simpa using h); simpa using this, fun h => by have := hF.out.p13 (by simpa using h); simpa using this, fun h => by have := hF.out.q17 (by simpa using h); simpa using this, hF.out.db, fun h => hF.out.fs0 (by simpa using h), fun h k => hF.out.fs1 (by simpa using h) (by simpa using k), fun h => hF.out.fs2 (by simpa using h)⟩
        · intro d a W hI hd hdep
          obtain ⟨x32, x33, x34, x35, x36, x37, x38, x39, x40, x41, x42, x43, x44, x45, x46, x47, rfl, hF⟩ := hI
          have hd8 : d 8 = true := dep_of hdep 8 (by kernel_rfl)
          obtain rfl := hF.out.f8 hd8
          have hfm := hF.out.fs0 (no_later hF.out.p9 hd)
          have ya := hfm.tb.cell HSN.out
          clear hfm
          clear hdep hd hd8
          intro K hK
          simp only [Act.put, List.setIfInBounds_toArray, List.set_cons_zero, List.set_cons_succ]
          go_simp
          refine hK.out _ _ ⟨x32, x33, x34, x35, x36, x37, x38, x39, (.pointer (some ⟨gt, s, none⟩)), (.int .i64 (U s)), x42, x43, x44, x45, x46, x47, by simp only [Act.put, List.setIfInBounds_toArray, List.set_cons_zero, List.set_cons_succ], ?_⟩
          exact ⟨fun h => hF.out.f0 (by simpa using h), fun h => hF.out.f1 (by simpa using h), fun h => hF.out.f2 (by simpa using h), fun h => hF.out.f3 (by simpa using h), fun h => hF.out.f4 (by simpa using h), fun h => hF.out.f5 (by simpa using h), fun h => hF.out.f6 (by simpa using h), fun h => hF.out.f7 (by simpa using h), fun h => hF.out.f8 (by simpa using h), fun _ => rfl, fun h => hF.out.f10 (by simpa using h), fun h => hF.out.f11 (by simpa using h), fun h => hF.out.f12 (by simpa using h), fun h => hF.out.f13 (by simpa using h), fun h => hF.out.f14 (by simpa using h), fun h => hF.out.f15 (by simpa using h), fun h => hF.out.f16 (by simpa using h), fun h => hF.out.f17 (by simpa using h), fun _ => by simp, fun h => by have := hF.out.p13 (by simpa using h); simpa using this, fun h => by have := hF.out.q17 (by simpa using h); simpa using this, hF.out.db, fun h => hF.out.fs0 (by simpa using h), fun h k => hF.out.fs1 (by simpa using h) (by simpa using k), fun h => hF.out.fs2 (by simpa using h)⟩
        · intro d a W hI hd hdep
          obtain ⟨x32, x33, x34, x35, x36, x37, x38, x39, x40, x41, x42, x43, x44, x45, x46, x47, rfl, hF⟩ := hI
          clear hdep hd
          intro K hK
          simp only [Act.put, List.setIfInBounds_toArray, List.set_cons_zero, List.set_cons_succ]
          go_simp
          refine hK.out _ _ ⟨x32, x33, x34, x35, x36, x37, x38, x39, x40, x41, (.pointer (some ⟨gd, 1, none⟩)), x43, x44, x45, x46, x47, by simp only [Act.put, List.setIfInBounds_toArray, List.set_cons_zero, List.set_cons_succ], ?_⟩
          exact ⟨fun h => hF.out.f0 (by simpa using h), fun h => hF.out.f1 (by simpa using h), fun h => hF.out.f2 (by simpa using h), fun h => hF.out.f3 (by simpa using h), fun h => hF.out.f4 (by simpa using h), fun h => hF.out.f5 (by simpa using h), fun h => hF.out.f6 (by simpa using h), fun h => hF.out.f7 (by simpa using h), fun h => hF.out.f8 (by simpa using h), fun h => hF.out.f9 (by simpa using h), fun _ => rfl, fun h => hF.out.f11 (by simpa using h), fun h => hF.out.f12 (by simpa using h), fun h => hF.out.f13 (by simpa using h), fun h => hF.out.f14 (by simpa using h), fun h => hF.out.f15 (by simpa using h), fun h => hF.out.f16 (by simpa using h), fun h => hF.out.f17 (by simpa using h), fun h => by have := hF.out.p9 (by simpa using h); simpa using this, fun h => by have := hF.out.p13 (by simpa using h); simpa using this, fun h => by have := hF.out.q17 (by simpa using h); simpa using this, hF.out.db, fun h => hF.out.fs0 (by simpa using h), fun h k => hF.out.fs1 (by simpa using h) (by simpa using k), fun h => hF.out.fs2 (by simpa using h)⟩
        · intro d a W hI hd hdep
          obtain ⟨x32, x33, x34, x35, x36, x37, x38, x39, x40, x41, x42, x43, x44, x45, x46, x47, rfl, hF⟩ := hI
          have hd10 : d 10 = true := dep_of hdep 10 (by kernel_rfl)
          obtain rfl := hF.out.f10 hd10
          have ya := hF.out.db.cell (i := 1) (by omega)
          rw [if_neg (by omega)] at ya
          clear hdep hd hd10
          intro K hK
          simp only [Act.put, List.setIfInBounds_toArray, List.set_cons_zero, List.set_cons_succ]
          go_simp
          refine hK.out _ _ ⟨x32, x33, x34, x35, x36, x37, x38, x39, x40, x41, (.pointer (some ⟨gd, 1, none⟩)), (.slice (some ⟨gt, 0, none⟩) n ct), x44, x45, x46, x47, by simp only [Act.put, List.setIfInBounds_toArray, List.set_cons_zero, List.set_cons_succ], ?_⟩
          exact ⟨fun h => hF.out.f0 (by simpa using h), fun h => hF.out.f1 (by simpa using h), fun h => hF.out.f2 (by simpa using h), fun h => hF.out.f3 (by simpa using h), fun h => hF.out.f4 (by simpa using h), fun h => hF.out.f5 (by simpa using h), fun h => hF.out.f6 (by simpa using h), fun h => hF.out.f7 (by simpa using h), fun h => hF.out.f8 (by simpa using h), fun h => hF.out.f9 (by simpa using h), fun h => hF.out.f10 (by simpa using h), fun _ => rfl, fun h => hF.out.f12 (by simpa using h), fun h => hF.out.f13 (by simpa using h), fun h => hF.out.f14 (by simpa using h), fun h => hF.out.f15 (by simpa using h), fun h => hF.out.f16 (by simpa using h), fun h => hF.out.f17 (by simpa using h), fun h => by have := hF.out.p9 (by simpa using h); simpa using this, fun h => by have := hF.out.p13 (by simpa using h); simpa using this, fun h => by have := hF.out.q17 (by simpa using h); simpa using this, hF.out.db, fun h => hF.out.fs0 (by simpa using h), fun h k => hF.out.fs1 (by simpa using h) (by simpa using k), fun h => hF.out.fs2 (by simpa using h)⟩
        · intro d a W hI hd hdep
          obtain ⟨x32, x33, x34, x35, x36, x37, x38, x39, x40, x41, x42, x43, x44, x45, x46, x47, rfl, hF⟩ := hI
          have hd11 : d 11 = true := dep_of hdep 11 (by kernel_rfl)
          obtain rfl := hF.out.f11 hd11
          clear hdep hd hd11
          intro K hK
          simp only [Act.put, List.setIfInBounds_toArray, List.set_cons_zero, List.set_cons_succ]
          go_simp
          refine hK.out _ _ ⟨x32, x33, x34, x35, x36, x37, x38, x39, x40, x41, x42, (.slice (some ⟨gt, 0, none⟩) n ct), (.pointer (some ⟨gt, 0, none⟩)), x45, x46, x47, by simp only [Act.put, List.setIfInBounds_toArray, List.set_cons_zero, List.set_cons_succ], ?_⟩
          exact ⟨fun h => hF.out.f0 (by simpa using h), fun h => hF.out.f1 (by simpa using h), fun h => hF.out.f2 (by simpa using h), fun h => hF.out.f3 (by simpa using h), fun h => hF.out.f4 (by simpa using h), fun h => hF.out.f5 (by simpa using h), fun h => hF.out.f6 (by simpa using h), fun h => hF.out.f7 (by simpa using h), fun h => hF.out.f8 (by simpa using h), fun h => hF.out.f9 (by simpa using h), fun h => hF.out.f10 (by simpa using h), fun h => hF.out.f11 (by simpa using h), fun _ => rfl, fun h => hF.out.f13 (by simpa using h), fun h => hF.out.f14 (by simpa using h), fun h => hF.out.f15 (by simpa using h), fun h => hF.out.f16 (by simpa using h), fun h => hF.out.f17 (by simpa using h), fun h => by have := hF.out.p9 (by simpa using h); simpa using this, fun h => by have := hF.out.p13 (by simpa using h); simpa using this, fun h => by have := hF.out.q17 (by simpa using h); simpa using this, hF.out.db, fun h => hF.out.fs0 (by simpa using h), fun h k => hF.out.fs1 (by simpa using h) (by simpa using k), fun h => hF.out.fs2 (by simpa using h)⟩
        · intro d a W hI hd hdep
          obtain ⟨x32, x33, x34, x35, x36, x37, x38, x39, x40, x41, x42, x43, x44, x45, x46, x47, rfl, hF⟩ := hI
          have hd12 : d 12 = true := dep_of hdep 12 (by kernel_rfl)
          obtain rfl := hF.out.f12 hd12
          have hfm := hF.out.fs0 (no_later hF.out.p13 hd)
          have ya := hfm.tb.cell (i := 0) HN0.out.1
          clear hfm
          clear hdep hd hd12
          intro K hK
          simp only [Act.put, List.setIfInBounds_toArray, List.set_cons_zero, List.set_cons_succ]
          go_simp
          refine hK.out _ _ ⟨x32, x33, x34, x35, x36, x37, x38, x39, x40, x41, x42, x43, (.pointer (some ⟨gt, 0, none⟩)), (.int .i64 (U 0)), x46, x47, by simp only [Act.put, List.setIfInBounds_toArray, List.set_cons_zero, List.set_cons_succ], ?_⟩
          exact ⟨fun h => hF.out.f0 (by simpa using h), fun h => hF.out.f1 (by simpa using h), fun h => hF.out.f2 (by simpa using h), fun h => hF.out.f3 (by simpa using h), fun h => hF.out.f4 (by simpa using h), fun h => hF.out.f5 (by simpa using h), fun h => hF.out.f6 (by simpa using h), fun h => hF.out.f7 (by simpa using h), fun h => hF.out.f8 (by simpa using h), fun h => hF.out.f9 (by simpa using h), fun h => hF.out.f10 (by simpa using h), fun h => hF.out.f11 (by simpa using h), fun h => hF.out.f12 (by simpa using h), fun _ => rfl, fun h => hF.out.f14 (by simpa using h), fun h => hF.out.f15 (by simpa using h), fun h => hF.out.f16 (by simpa using h), fun h => hF.out.f17 (by simpa using h), fun h => by have := hF.out.p9 (by simpa using h); simpa using this, fun _ => by simp, fun h => by have := hF.out.q17 (by simpa using h); simpa using this, hF.out.db, fun h => hF.out.fs0 (by simpa using h), fun h k => hF.out.fs1 (by simpa using h) (by simpa using k), fun h => hF.out.fs2 (by simpa using h)⟩
        · intro d a W hI hd hdep
          obtain ⟨x32, x33, x34, x35, x36, x37, x38, x39, x40, x41, x42, x43, x44, x45, x46, x47, rfl, hF⟩ := hI
          have hd1 : d 1 = true := dep_of hdep 1 (by kernel_rfl)
          obtain rfl := hF.out.f1 hd1
          clear hdep hd hd1
          intro K hK
          simp only [Act.put, List.setIfInBounds_toArray, List.set_cons_zero, List.set_cons_succ]
          go_simp
          refine hK.out _ _ ⟨x32, (.slice (some ⟨gt, 0, none⟩) n ct), x34, x35, x36, x37, x38, x39, x40, x41, x42, x43, x44, x45, (.pointer (some ⟨gt, 0, none⟩)), x47, by simp only [Act.put, List.setIfInBounds_toArray, List.set_cons_zero, List.set_cons_succ], ?_⟩
          exact ⟨fun h => hF.out.f0 (by simpa using h), fun h => hF.out.f1 (by simpa using h), fun h => hF.out.f2 (by simpa using h), fun h => hF.out.f3 (by simpa using h), fun h => hF.out.f4 (by simpa using h), fun h => hF.out.f5 (by simpa using h), fun h => hF.out.f6 (by simpa using h), fun h => hF.out.f7 (by simpa using h), fun h => hF.out.f8 (by simpa using h), fun h => hF.out.f9 (by simpa using h), fun h => hF.out.f10 (by simpa using h), fun h => hF.out.f11 (by simpa using h), fun h => hF.out.f12 (by simpa using h), fun h => hF.out.f13 (by simpa using h), fun _ => rfl, fun h => hF.out.f15 (by simpa using h), fun h => hF.out.f16 (by simpa using h), fun h => hF.out.f17 (by simpa using h), fun h => by have := hF.out.p9 (by simpa using h); simpa using this, fun h => by have := hF.out.p13 (by simpa using h); simpa using this, fun h => by have := hF.out.q17 (by simpa using h); simpa using this, hF.out.db, fun h => hF.out.fs0 (by simpa using h), fun h k => hF.out.fs1 (by simpa using h) (by simpa using k), fun h => hF.out.fs2 (by simpa using h)⟩
        · intro d a W hI hd hdep
          obtain ⟨x32, x33, x34, x35, x36, x37, x38, x39, x40, x41, x42, x43, x44, x45, x46, x47, rfl, hF⟩ := hI
          have hd14 : d 14 = true := dep_of hdep 14 (by kernel_rfl)
          have hd9 : d 9 = true := dep_of hdep 9 (by kernel_rfl)
          have hd13 : d 13 = true := dep_of hdep 13 (by kernel_rfl)
          obtain rfl := hF.out.f14 hd14
          obtain rfl := hF.out.f9 hd9
          obtain rfl := hF.out.f13 hd13
          have e15_9 := hd9
          have e15_13 := hd13
          have HFM : Hid (Fm w gr cr gt ct gd n F2x U W) := hF.out.fs0 hd
          have HN17 : Hid (d 17 = false) := no_later hF.out.q17 hd
          have ya := HFM.out.tb.cell (i := 0) HN0.out.1
          have yb := HFM.out.tb.frozen 0
          clear hdep hd hd14 hd9 hd13
          intro K hK
          simp only [Act.put, List.setIfInBounds_toArray, List.set_cons_zero, List.set_cons_succ]
          go_simp
          refine hK.out _ _ ⟨x32, x33, x34, x35, x36, x37, x38, x39, x40, (.int .i64 (U s)), x42, x43, x44, (.int .i64 (U 0)), (.pointer (some ⟨gt, 0, none⟩)), x47, by simp only [Act.put, List.setIfInBounds_toArray, List.set_cons_zero, List.set_cons_succ], ?_⟩
          have hnew : Fm w gr cr gt ct gd n F2x (fun r => if r = 0 then U s else U r) (W.setCell ⟨gt, 0, none⟩ (.int .i64 (U s))) := HFM.out.tset (HFM.out.below.setCell (by have := HFM.out.ne; simp; omega) _) (fun k hk => Below.heap_setCell _ _ _ _ hk) (HFM.out.tb.set (U s))
          exact ⟨fun h => hF.out.f0 (by simpa using h), fun h => hF.out.f1 (by simpa using h), fun h => hF.out.f2 (by simpa using h), fun h => hF.out.f3 (by simpa using h), fun h => hF.out.f4 (by simpa using h), fun h => hF.out.f5 (by simpa using h), fun h => hF.out.f6 (by simpa using h), fun h => hF.out.f7 (by simpa using h), fun h => hF.out.f8 (by simpa using h), fun h => hF.out.f9 (by simpa using h), fun h => hF.out.f10 (by simpa using h), fun h => hF.out.f11 (by simpa using h), fun h => hF.out.f12 (by simpa using h), fun h => hF.out.f13 (by simpa using h), fun h => hF.out.f14 (by simpa using h), fun _ => trivial, fun h => hF.out.f16 (by simpa using h), fun h => hF.out.f17 (by simpa using h), fun _ => by simpa using e15_9, fun _ => by simpa using e15_13, fun _ => by simp, hnew.db, fun h => by simp at h, fun _ _ => hnew, fun h => by have := HN17.out; simp [this] at h⟩
        · intro d a W hI hd hdep
          obtain ⟨x32, x33, x34, x35, x36, x37, x38, x39, x40, x41, x42, x43, x44, x45, x46, x47, rfl, hF⟩ := hI
          have hd3 : d 3 = true := dep_of hdep 3 (by kernel_rfl)
          have hd4 : d 4 = true := dep_of hdep 4 (by kernel_rfl)
          obtain rfl := hF.out.f3 hd3
          obtain rfl := hF.out.f4 hd4
          clear hdep hd hd3 hd4
          intro K hK
          simp only [Act.put, List.setIfInBounds_toArray, List.set_cons_zero, List.set_cons_succ]
          go_simp
          refine hK.out _ _ ⟨x32, x33, x34, (.slice (some ⟨gt, 0, none⟩) n ct), (.int .i64 (s : Int)), x37, x38, x39, x40, x41, x42, x43, x44, x45, x46, (.pointer (some ⟨gt, s, none⟩)), by simp only [Act.put, List.setIfInBounds_toArray, List.set_cons_zero, List.set_cons_succ], ?_⟩
          exact ⟨fun h => hF.out.f0 (by simpa using h), fun h => hF.out.f1 (by simpa using h), fun h => hF.out.f2 (by simpa using h), fun h => hF.out.f3 (by simpa using h), fun h => hF.out.f4 (by simpa using h), fun h => hF.out.f5 (by simpa using h), fun h => hF.out.f6 (by simpa using h), fun h => hF.out.f7 (by simpa using h), fun h => hF.out.f8 (by simpa using h), fun h => hF.out.f9 (by simpa using h), fun h => hF.out.f10 (by simpa using h), fun h => hF.out.f11 (by simpa using h), fun h => hF.out.f12 (by simpa using h), fun h => hF.out.f13 (by simpa using h), fun h => hF.out.f14 (by simpa using h), fun h => hF.out.f15 (by simpa using h), fun _ => rfl, fun h => hF.out.f17 (by simpa using h), fun h => by have := hF.out.p9 (by simpa using h); simpa using this, fun h => by have := hF.out.p13 (by simpa using h); simpa using this, fun h => by have := hF.out.q17 (by simpa using h); simpa using this, hF.out.db, fun h => hF.out.fs0 (by simpa using h), fun h k => hF.out.fs1 (by simpa using h) (by simpa using k), fun h => hF.out.fs2 (by simpa using h)⟩
        · intro d a W hI hd hdep
          obtain ⟨x32, x33, x34, x35, x36, x37, x38, x39, x40, x41, x42, x43, x44, x45, x46, x47, rfl, hF⟩ := hI
          have hd16 : d 16 = true := dep_of hdep 16 (by kernel_rfl)
          have hd13 : d 13 = true := dep_of hdep 13 (by kernel_rfl)
          have hd15 : d 15 = true := dep_of hdep 15 (by kernel_rfl)
          obtain rfl := hF.out.f16 hd16
          obtain rfl := hF.out.f13 hd13
          have e17_15 := hd15
          have HFM : Hid (Fm w gr cr gt ct gd n F2x (fun r => if r = 0 then U s else U r) W) := hF.out.fs1 hd15 hd
          have ya := HFM.out.tb.cell HSN.out
          have yb := HFM.out.tb.frozen s
          clear hdep hd hd16 hd13 hd15
          intro K hK
          simp only [Act.put, List.setIfInBounds_toArray, List.set_cons_zero, List.set_cons_succ]
          go_simp
          refine hK.out _ _ ⟨x32, x33, x34, x35, x36, x37, x38, x39, x40, x41, x42, x43, x44, (.int .i64 (U 0)), x46, (.pointer (some ⟨gt, s, none⟩)), by simp only [Act.put, List.setIfInBounds_toArray, List.set_cons_zero, List.set_cons_succ], ?_⟩
          have hnew : Fm w gr cr gt ct gd n F2x (fun r => if r = s then U 0 else (if r = 0 then U s else U r)) (W.setCell ⟨gt, s, none⟩ (.int .i64 (U 0))) := HFM.out.tset (HFM.out.below.setCell (by have := HFM.out.ne; simp; omega) _) (fun k hk => Below.heap_setCell _ _ _ _ hk) (HFM.out.tb.set (U 0))
          exact ⟨fun h => hF.out.f0 (by simpa using h), fun h => hF.out.f1 (by simpa using h), fun h => hF.out.f2 (by simpa using h), fun h => hF.out.f3 (by simpa using h), fun h => hF.out.f4 (by simpa using h), fun h => hF.out.f5 (by simpa using h), fun h => hF.out.f6 (by simpa using h), fun h => hF.out.f7 (by simpa using h), fun h => hF.out.f8 (by simpa using h), fun h => hF.out.f9 (by simpa using h), fun h => hF.out.f10 (by simpa using h), fun h => hF.out.f11 (by simpa using h), fun h => hF.out.f12 (by simpa using h), fun h => hF.out.f13 (by simpa using h), fun h => hF.out.f14 (by simpa using h), fun h => hF.out.f15 (by simpa using h), fun h => hF.out.f16 (by simpa using h), fun _ => trivial, fun h => by have := hF.out.p9 (by simpa using h); simpa using this, fun h => by have := hF.out.p13 (by simpa using h); simpa using this, fun _ => by simpa using e17_15, hnew.db, fun h => by have := e17_15; simp [this] at h, fun _ h => by simp at h, fun _ => hnew⟩
      · intro d a W hI hall
        obtain ⟨x32, x33, x34, x35, x36, x37, x38, x39, x40, x41, x42, x43, x44, x45, x46, x47, rfl, hF⟩ := hI
        simp only [List.length_cons, List.length_nil] at hall
        obtain rfl := hF.out.f0 (hall 0 (by omega))
        obtain rfl := hF.out.f1 (hall 1 (by omega))
        obtain rfl := hF.out.f2 (hall 2 (by omega))
        obtain rfl := hF.out.f3 (hall 3 (by omega))
        obtain rfl := hF.out.f4 (hall 4 (by omega))
        obtain rfl := hF.out.f5 (hall 5 (by omega))
        obtain rfl := hF.out.f6 (hall 6 (by omega))
        obtain rfl := hF.out.f7 (hall 7 (by omega))
        obtain rfl := hF.out.f8 (hall 8 (by omega))
        obtain rfl := hF.out.f9 (hall 9 (by omega))
        obtain rfl := hF.out.f10 (hall 10 (by omega))
        obtain rfl := hF.out.f11 (hall 11 (by omega))
        obtain rfl := hF.out.f12 (hall 12 (by omega))
        obtain rfl := hF.out.f13 (hall 13 (by omega))
        obtain rfl := hF.out.f14 (hall 14 (by omega))
        obtain rfl := hF.out.f16 (hall 16 (by omega))
        have HFM3 : Hid (Fm w gr cr gt ct gd n F2x (fun r => if r = s then U 0 else (if r = 0 then U s else U r)) W) := hF.out.fs2 (hall 17 (by omega))
        clear hF hall HFM2
        simp only [Act.put, List.setIfInBounds_toArray, List.set_cons_zero, List.set_cons_succ]
        obtain ⟨W3, rfl⟩ : ∃ W3, W3 = W := ⟨_, rfl⟩
        obtain ⟨U3x, HU3⟩ : ∃ q, Hid ((fun r => if r = s then U 0 else (if r = 0 then U s else U r)) = q) := ⟨_, (rfl : _ = _)⟩
        rw [HU3.out] at HFM3
        have HFB : Hid (∀ i j, -32768 ≤ F2x i j ∧ F2x i j ≤ 32767) := fun i j => by
          rw [← HF2.out]
          show -32768 ≤ (if i = s then F 0 j else (if i = 0 then F s j else F i j)) ∧ (if i = s then F 0 j else (if i = 0 then F s j else F i j)) ≤ 32767
          split
          · exact HWF.out _ _
          · split <;> exact HWF.out _ _
        have hw16 : IntKind.i16.wrap (s : Int) = (s : Int) := wrap16 (by omega)
        have ya := HFM3.out.db.cell (i := 0) (by omega)
        simp only [if_true] at ya
        go_wp2_with fail
        clear ya
        go_loopw [51] (fun iv wr => ∃ k : Nat, k ≤ n ∧ iv = .int .i64 (k : Int) ∧ Hid (Fm w gr cr gt ct gd n (swF s F2x k 0) U3x wr)) (fun iv _ => n - (intOf iv).toNat)
        case atStart => exact ⟨0, by omega, rfl, HFM3.out.congr fun i j _ _ => by simp [swF]⟩
        case round =>
          clear HFM3
          obtain ⟨k, hk, rfl, HX⟩ := hrel
          obtain ⟨W0, rfl⟩ : ∃ W0, W0 = wr := ⟨_, rfl⟩
          by_cases hlt : k < n
          · have hk0 : (0 : Int) ≤ (k : Int) := by omega
            have hk1 : (k : Int) < (n : Int) := by omega
            have HRG : Hid (W0.rangeAt gr (k * 256) (rl (F2x k))) := range_of_cells fun b hb => by rw [HX.out.rb.cell hlt hb]; simp [swF]
            have HL : Hid ((rl (F2x k)).length = 256) := rl_length _
            have HIX : Hid (∀ j : Nat, j < 256 → ∀ w, (Instr.index 42 (.agg (rl (F2x k)).toArray) (.int .i64 (j : Int))).run Try.prog w = .ok (.int .i16 (F2x k j)) w) := fun j hj => index_row (F2x k) j hj
            obtain ⟨l1, HLN⟩ : ∃ q, Hid (rl (F2x k) = q) := ⟨_, (rfl : _ = _)⟩
            rw [HLN.out] at HRG HL HIX
            have ya := HX.out.db.cell (i := 0) (by omega)
            simp only [if_true] at ya
            go_wp2_with (refine wpList_load_mid rfl 42 _ rfl gr (k * 256) rfl l1 _ HRG.out Try.underlying42 rfl (by rw [HL.out]; exact size42) ?_)
            clear ya HRG
            go_loopw [59] (fun iv wr => ∃ j : Nat, j ≤ 256 ∧ iv = .int .i64 (j : Int) ∧ Hid (Fm w gr cr gt ct gd n (swF s F2x k j) U3x wr)) (fun iv _ => 256 - (intOf iv).toNat)
            case atStart => exact ⟨0, by omega, rfl, HX⟩
            case round =>
              clear HX
              obtain ⟨j, hj, rfl, HY⟩ := hrel
              obtain ⟨W5, rfl⟩ : ∃ W5, W5 = wr := ⟨_, rfl⟩
              by_cases hjt : j < 256
              · have hj0 : (0 : Int) ≤ (j : Int) := by omega
                have hj1 : (j : Int) < 256 := by omega
                have hix := HIX.out j hjt
                have hzb := HFB.out k j
                have ya := HY.out.db.cell (i := 0) (by omega)
                simp only [if_true] at ya
                have y0 := HY.out.rb.cell hlt hjt
                have y1 := HY.out.rb.frozen (k * 256 + j)
                rw [show swF s F2x k j k j = F2x k j by simp [swF]] at y0
                obtain ⟨z, HZ⟩ : ∃ q, Hid (F2x k j = q) := ⟨_, (rfl : _ = _)⟩
                rw [HZ.out] at hix hzb y0
                have hwr := wrap_small hzb
                by_cases h1 : z = (s : Int)
                · subst h1
                  have HNX : Hid (Fm w gr cr gt ct gd n (swF s F2x k (j + 1)) U3x (W5.setCell ⟨gr, k * 256 + j, none⟩ (.int .i16 0))) := (HY.out.rset (HY.out.below.setCell (by have := HY.out.ne; simp; omega) _) (fun q hq => Below.heap_setCell _ _ _ _ hq) (HY.out.rb.set hlt hjt 0)).congr fun r b _ _ => swF_next (by rw [HZ.out]; simp [swv]) r b
                  go_wp2_with fail
                  go_roundw
                  case rel => exact ⟨j + 1, by omega, by go_num, HNX⟩
                  case measure => simp [intOf]; omega
                · have hb1 : (z == (s : Int)) = false := by simp [h1]
                  by_cases h2 : z = 0
                  · subst h2
                    have HNX : Hid (Fm w gr cr gt ct gd n (swF s F2x k (j + 1)) U3x (W5.setCell ⟨gr, k * 256 + j, none⟩ (.int .i16 (s : Int)))) := (HY.out.rset (HY.out.below.setCell (by have := HY.out.ne; simp; omega) _) (fun q hq => Below.heap_setCell _ _ _ _ hq) (HY.out.rb.set hlt hjt (s : Int))).congr fun r b _ _ => swF_next (by rw [HZ.out]; unfold swv; rw [if_neg h1, if_pos rfl]) r b
                    go_wp2_with fail
                    go_roundw
                    case rel => exact ⟨j + 1, by omega, by go_num, HNX⟩
                    case measure => simp [intOf]; omega
                  · have hb2 : (z == 0) = false := by simp [h2]
                    have HNX : Hid (Fm w gr cr gt ct gd n (swF s F2x k (j + 1)) U3x W5) := HY.out.congr fun r b _ _ => swF_skip (by rw [HZ.out]; unfold swv; rw [if_neg h1, if_neg h2]) r b
                    go_wp2_with fail
                    go_roundw
                    case rel => exact ⟨j + 1, by omega, by go_num, HNX⟩
                    case measure => simp [intOf]; omega
              · have hj1 : ¬ (j : Int) < 256 := by omega
                have HNX : Hid (Fm w gr cr gt ct gd n (swF s F2x (k + 1) 0) U3x W5) := HY.out.congr fun r b _ hb => by
                  unfold swF
                  by_cases e : r < k ∨ (r = k ∧ b < j)
                  · rw [if_pos e, if_pos (by omega)]
                  · rw [if_neg e, if_neg (by omega)]
                go_wp2_with fail
                go_roundw
                case rel => exact ⟨k + 1, by omega, by go_num, HNX⟩
                case measure => simp [intOf]; omega
          · have hke : k = n := by omega
            subst hke
            have hk1 : ¬ (k : Int) < (k : Int) := by omega
            have d0 := HX.out.db.cell (i := 0) (by omega)
            simp only [if_true] at d0
            have d1 := HX.out.db.cell (i := 1) (by omega)
            rw [if_neg (by omega)] at d1
            have r0 := HX.out.rs.cell (i := 0) (by omega)
            have r1 := HX.out.rs.cell (i := 1) (by omega)
            have s0 := HX.out.rs.frozen 0
            have s1 := HX.out.rs.frozen 1
            go_wp2_with fail
            have hrow := row_two_set HX.out.rs (.slice (some ⟨gr, 0, none⟩) k cr) (.slice (some ⟨gt, 0, none⟩) k ct)
            have hsame := same_two W0 (w.heap.size + 1) (.slice (some ⟨gr, 0, none⟩) k cr) (.slice (some ⟨gt, 0, none⟩) k ct)
            have hc0 := hrow.cell (i := 0) (by omega)
            have hc1 := hrow.cell (i := 1) (by omega)
            simp only [if_true] at hc0
            rw [if_neg (by omega)] at hc1
            have hne := HX.out.ne
            have hrb := HX.out.rb.of_block (hsame.2.2.2.2 gr (by omega))
            have htb := HX.out.tb.of_block (hsame.2.2.2.2 gt (by omega))
            have hB : Below w.heap.size w ((W0.setCell ⟨w.heap.size + 1, 0, none⟩ (.slice (some ⟨gr, 0, none⟩) k cr)).setCell ⟨w.heap.size + 1, 1, none⟩ (.slice (some ⟨gt, 0, none⟩) k ct)) := (HX.out.below.setCell (by simp) _).setCell (by simp) _
            refine bodyPost_ret (v := .agg #[.slice (some ⟨gr, 0, none⟩) k cr, .slice (some ⟨gt, 0, none⟩) k ct]) (by simp [results, Try.results17, go_sem, hc0, hc1]) rfl ⟨_, _, rfl, ?_, ?_, hB⟩
            · obtain ⟨_, _, _, hx1, hx2, _⟩ := HRW.out
              refine ⟨_, _, rfl, by omega, fun i j => ?_, Or.inr ⟨gr, 0, rfl, hrb.lt, fun i hi j hj => ?_⟩⟩
              · show -32768 ≤ (if i < k ∧ j < 256 then swv s (F (swp s i) j) else 0) ∧ (if i < k ∧ j < 256 then swv s (F (swp s i) j) else 0) ≤ 32767
                have := hx2 (swp s i) j
                split
                · unfold swv; split
                  · omega
                  · split <;> omega
                · omega
              · rw [Nat.zero_add, hrb.cell hi hj]
                show _ = some (Value.int .i16 (if i < k ∧ j < 256 then swv s (F (swp s i) j) else 0))
                rw [if_pos (show i < k ∧ j < 256 from ⟨hi, hj⟩)]
                unfold swF
                rw [if_pos (Or.inl hi), ← HF2.out, swp_fun]
            · obtain ⟨_, _, _, hx1, hx2, _⟩ := HTS.out
              refine ⟨_, _, rfl, by omega, fun i => hx2 _, Or.inr ⟨gt, 0, rfl, htb.lt, fun i hi => ?_⟩⟩
              rw [Nat.zero_add, htb.cell hi, ← HU3.out, swp_one]

end Go.Proofs.Ytlgcggfenljdnaa
