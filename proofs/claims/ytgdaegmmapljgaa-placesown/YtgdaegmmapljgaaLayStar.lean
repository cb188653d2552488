/-
  plan.layRex at a star, and at every right tree.
-/
import Derived.Test.YtgdaegmmapljgaaLayAlt
import Derived.Laws.OwnMore
namespace Go.Proofs.Ytgdaegmmapljgaa
open Go.RowKit
open Cls Rex
theorem fl_set : ∀ (qs : List (Cl × Value)) (i : Nat) (h : i < qs.length) (v : Value), (fl qs).set (i * 5 + 4) v = fl (qs.set i (qs[i].1, v))
  | q :: qs, 0, _, v => by simp [fl]
  | q :: qs, i + 1, h, v => by
    have e : (i + 1) * 5 + 4 = (i * 5 + 4) + 5 := by omega
    have := fl_set qs i (by simpa using h) v
    rw [e]
    simp [fl, List.set] at this ⊢
    exact this
theorem fl_len (qs : List (Cl × Value)) : (fl qs).length = qs.length * 5 := by
  induction qs with
  | nil => rfl
  | cons q qs ih => simp [fl] at ih ⊢; omega
/-- One step's next numbers, put anew. -/
theorem Pl.openAt {B pp : Nat} {f e : Value} {ps : List St} {W : World} (h : Pl B pp f e ps W) (i : Nat) (hi : i < ps.length) : ∃ (g cap : Nat) (v0 : Value), W.cell? ⟨pp, 0, none⟩ = some (.slice (some ⟨g, 0, none⟩) ps.length cap) ∧ W.cell? ⟨g, i * 5 + 4, none⟩ = some v0 ∧ W.frozen? ⟨g, i * 5 + 4, none⟩ = false ∧ B ≤ g ∧ g < W.heap.size ∧
    ∀ W' nv l, Below W.heap.size W W' → Nxs W' B nv l → Pl B pp f e (ps.set i (ps[i].1, l)) (W'.setCell ⟨g, i * 5 + 4, none⟩ nv) ∧ Keep3 W' (W'.setCell ⟨g, i * 5 + 4, none⟩ nv) := by
  obtain ⟨sv, qs, h1, h2, h3, h4⟩ := h
  have hq : i < qs.length := by omega
  have h2' := h2.2
  rcases h2' with ⟨_, h0⟩ | ⟨g, cap, cur, rfl, hBg, hg, hr⟩
  · omega
  have hj : i * 5 + 4 < (fl qs).length := by rw [fl_len]; omega
  refine ⟨g, cap, (fl qs)[i * 5 + 4], by rw [← h3]; simp [World.cell?, h1], ?_, h2.frozenAt _, hBg, blk_lt hg, ?_⟩
  · rw [h2.cellAt (i * 5 + 4) (by omega)]; exact List.getElem?_eq_getElem hj
  · intro W' nv l hb hn
    have hg' := blk_next hb hg
    have h2' : W'.ownsRow B 97 5 (.slice (some ⟨g, 0, none⟩) qs.length cap) qs.length (fl qs) := ⟨h2.1, .inr ⟨g, cap, cur, rfl, hBg, hg', hr⟩⟩
    have hs := h2'.stored (i * 5 + 4) nv
    have hk : Keep3 W' (W'.setCell ⟨g, i * 5 + 4, none⟩ nv) := (Keep3.refl W').set hg' (Or.inr rfl) nv
    refine ⟨⟨.slice (some ⟨g, 0, none⟩) qs.length cap, qs.set i (qs[i].1, nv), ?_, ?_, by simpa using h3, ?_⟩, hk⟩
    · refine (Below.heap_setCell _ _ _ _ (fun e => ?_)).trans (blk_next hb h1)
      simp only at e
      subst e
      rw [h1] at hg
      simp at hg
    · rw [List.length_set, ← fl_set qs i hq nv]; exact hs.1
    · intro j k1 k2
      rw [List.length_set] at k1 k2
      by_cases e : i = j
      · subst e
        simp only [List.getElem_set_self]
        exact ⟨(h4 i hq hi).1, hn.keep hk⟩
      · simp only [List.getElem_set_ne e]
        exact ⟨(h4 j k1 k2).1, ((h4 j k1 k2).2.keep ((Keep3.refl W).below hb)).keep hk⟩
theorem s1_next {W W' : World} {B bx b o cap : Nat} {k0 : Int} {c0 : Cl} {a0 : Option Addr} {n0 p0 : Nat} {z : Array Value} (hz : W.heap[bx]? = some (.cells z 44)) (hb : b < B) (h : W.cell? ⟨bx, 5, none⟩ = some (.slice (some ⟨b, o, none⟩) 1 cap) ∧ W.cell? ⟨b, o, none⟩ = some (.int .i64 k0) ∧ W.cell? ⟨b, o + 1, none⟩ = some (.int .u64 (c0.1.toNat : Int)) ∧ W.cell? ⟨b, o + 2, none⟩ = some (.int .u64 (c0.2.1.toNat : Int)) ∧ W.cell? ⟨b, o + 3, none⟩ = some (.int .u64 (c0.2.2.1.toNat : Int)) ∧ W.cell? ⟨b, o + 4, none⟩ = some (.int .u64 (c0.2.2.2.toNat : Int)) ∧ W.cell? ⟨b, o + 5, none⟩ = some (.slice a0 n0 p0)) (hB : Below B W W') (hk : Keep3 W W') : W'.cell? ⟨bx, 5, none⟩ = some (.slice (some ⟨b, o, none⟩) 1 cap) ∧ W'.cell? ⟨b, o, none⟩ = some (.int .i64 k0) ∧ W'.cell? ⟨b, o + 1, none⟩ = some (.int .u64 (c0.1.toNat : Int)) ∧ W'.cell? ⟨b, o + 2, none⟩ = some (.int .u64 (c0.2.1.toNat : Int)) ∧ W'.cell? ⟨b, o + 3, none⟩ = some (.int .u64 (c0.2.2.1.toNat : Int)) ∧ W'.cell? ⟨b, o + 4, none⟩ = some (.int .u64 (c0.2.2.2.toNat : Int)) ∧ W'.cell? ⟨b, o + 5, none⟩ = some (.slice a0 n0 p0) := by
  obtain ⟨h0, h1, h2, h3, h4, h5, h6⟩ := h
  exact ⟨keep_cell hz h0 (by decide) (by decide) hk, (hB.cell hb).trans h1, (hB.cell hb).trans h2, (hB.cell hb).trans h3, (hB.cell hb).trans h4, (hB.cell hb).trans h5, (hB.cell hb).trans h6⟩
theorem rxone_kid {w : World} {B : Nat} {v : Value} {k : Int} {s : T} (hx : Rx w B v (.mk k empty [s])) : ∃ (b o cap : Nat) (k0 : Int) (c0 : Cl) (a0 : Option Addr) (n0 p0 : Nat), v = .agg #[.int .i64 k, .int .u64 0, .int .u64 0, .int .u64 0, .int .u64 0, .slice (some ⟨b, o, none⟩) 1 cap] ∧ b < B ∧ Rx w B (.agg #[.int .i64 k0, .int .u64 (c0.1.toNat : Int), .int .u64 (c0.2.1.toNat : Int), .int .u64 (c0.2.2.1.toNat : Int), .int .u64 (c0.2.2.2.toNat : Int), .slice a0 n0 p0]) s ∧ w.cell? ⟨b, o, none⟩ = some (.int .i64 k0) ∧ w.cell? ⟨b, o + 1, none⟩ = some (.int .u64 (c0.1.toNat : Int)) ∧ w.cell? ⟨b, o + 2, none⟩ = some (.int .u64 (c0.2.1.toNat : Int)) ∧ w.cell? ⟨b, o + 3, none⟩ = some (.int .u64 (c0.2.2.1.toNat : Int)) ∧ w.cell? ⟨b, o + 4, none⟩ = some (.int .u64 (c0.2.2.2.toNat : Int)) ∧ w.cell? ⟨b, o + 5, none⟩ = some (.slice a0 n0 p0) := by
  obtain ⟨k', c, ao, cap, kids, vals, rfl, ht, _, _, hc, hr⟩ := hx.shape
  simp only [T.mk.injEq] at ht
  obtain ⟨rfl, rfl, rfl⟩ := ht
  rcases hc with h | ⟨b, o, rfl, hbB, hcl⟩
  · cases h
  have r0 := hr 0 (by simp)
  have hc0 := hcl 0 (by simp)
  obtain ⟨k0, c0, a0, n0, p0, e0, q0⟩ := kid_cells r0 hc0
  simp only [Nat.zero_mul, Nat.add_zero] at q0
  refine ⟨b, o, cap, k0, c0, a0, n0, p0, rfl, hbB, ?_, q0⟩
  rw [← e0]; exact r0
set_option maxHeartbeats 4000000 in
set_option maxRecDepth 20000 in
theorem lr_star {s : T} {x : E} (h1 : LR s x) : LR (.mk 6 empty [s]) (.star x) := by
  intro v ps nx B pp f e w hx hP hBp hBw hlen
  obtain ⟨b, o, cap, k0, c0, a0, n0, p0, rfl, hbB, r0, hcl⟩ := rxone_kid hx
  simp only [E.nodes] at hlen
  obtain ⟨bx, HBX⟩ : ∃ bx, Hid (w.heap.size = bx) := ⟨_, (rfl : w.heap.size = w.heap.size)⟩
  have HR : Hid (Rx w B (.agg #[.int .i64 k0, .int .u64 (c0.1.toNat : Int), .int .u64 (c0.2.1.toNat : Int), .int .u64 (c0.2.2.1.toNat : Int), .int .u64 (c0.2.2.2.toNat : Int), .slice a0 n0 p0]) s ∧ Pl B pp f e ps w) := ⟨r0, hP⟩
  have hb0 := box_keep w (.cells #[.int .i64 6, .int .u64 0, .int .u64 0, .int .u64 0, .int .u64 0, .slice (some ⟨b, o, none⟩) 1 cap] 44)
  have HZ : Hid ((w.alloc (.cells #[.int .i64 6, .int .u64 0, .int .u64 0, .int .u64 0, .int .u64 0, .slice (some ⟨b, o, none⟩) 1 cap] 44)).heap[bx]? = some (.cells #[.int .i64 6, .int .u64 0, .int .u64 0, .int .u64 0, .int .u64 0, .slice (some ⟨b, o, none⟩) 1 cap] 44)) := by
    show _ = _
    rw [← HBX.out]; exact block_new w _
  generalize hwr : w.alloc (.cells #[.int .i64 6, .int .u64 0, .int .u64 0, .int .u64 0, .int .u64 0, .slice (some ⟨b, o, none⟩) 1 cap] 44) = wr at hb0 HZ
  have HWR : Hid (w.alloc (.cells #[.int .i64 6, .int .u64 0, .int .u64 0, .int .u64 0, .int .u64 0, .slice (some ⟨b, o, none⟩) 1 cap] 44) = wr) := hwr
  clear hwr
  have hS : wr.cell? ⟨bx, 5, none⟩ = some (.slice (some ⟨b, o, none⟩) 1 cap) ∧ wr.cell? ⟨b, o, none⟩ = some (.int .i64 k0) ∧ wr.cell? ⟨b, o + 1, none⟩ = some (.int .u64 (c0.1.toNat : Int)) ∧ wr.cell? ⟨b, o + 2, none⟩ = some (.int .u64 (c0.2.1.toNat : Int)) ∧ wr.cell? ⟨b, o + 3, none⟩ = some (.int .u64 (c0.2.2.1.toNat : Int)) ∧ wr.cell? ⟨b, o + 4, none⟩ = some (.int .u64 (c0.2.2.2.toNat : Int)) ∧ wr.cell? ⟨b, o + 5, none⟩ = some (.slice a0 n0 p0) := by
    have hw : ∀ j v, w.cell? ⟨b, j, none⟩ = some v → wr.cell? ⟨b, j, none⟩ = some v := fun j v h => cell_next h hb0
    obtain ⟨x0, x1, x2, x3, x4, x5⟩ := hcl
    exact ⟨by simp [World.cell?, HZ.out], hw _ _ x0, hw _ _ x1, hw _ _ x2, hw _ _ x3, hw _ _ x4, hw _ _ x5⟩
  have HS : Hid (wr.cell? ⟨bx, 5, none⟩ = some (.slice (some ⟨b, o, none⟩) 1 cap) ∧ wr.cell? ⟨b, o, none⟩ = some (.int .i64 k0) ∧ wr.cell? ⟨b, o + 1, none⟩ = some (.int .u64 (c0.1.toNat : Int)) ∧ wr.cell? ⟨b, o + 2, none⟩ = some (.int .u64 (c0.2.1.toNat : Int)) ∧ wr.cell? ⟨b, o + 3, none⟩ = some (.int .u64 (c0.2.2.1.toNat : Int)) ∧ wr.cell? ⟨b, o + 4, none⟩ = some (.int .u64 (c0.2.2.2.toNat : Int)) ∧ wr.cell? ⟨b, o + 5, none⟩ = some (.slice a0 n0 p0)) := hS
  have hBW : B ≤ wr.heap.size := Nat.le_trans hBw hb0.size
  obtain ⟨pn, HPN⟩ : ∃ n : Nat, Hid (ps.length = n) := ⟨_, (rfl : ps.length = ps.length)⟩
  obtain ⟨ps2, HP2⟩ : ∃ l : List St, Hid ((lay x (ps ++ [(empty, [])]) ps.length).1 = l) := ⟨_, (rfl : (lay x (ps ++ [(empty, [])]) ps.length).1 = (lay x (ps ++ [(empty, [])]) ps.length).1)⟩
  obtain ⟨r2v, HV2⟩ : ∃ r : Nat, Hid ((lay x (ps ++ [(empty, [])]) ps.length).2 = r) := ⟨_, (rfl : (lay x (ps ++ [(empty, [])]) ps.length).2 = (lay x (ps ++ [(empty, [])]) ps.length).2)⟩
  have HC1 : Hid (Calls Try.prog 62 #[.pointer (some ⟨pp, 0, none⟩), .agg #[.int .u64 0, .int .u64 0, .int .u64 0, .int .u64 0, .slice none 0 0]] wr fun e' w' => e' = .returned (.int .i64 (pn : Int)) ∧ Pl B pp f e (ps ++ [(empty, [])]) w' ∧ Below B wr w' ∧ Keep3 wr w') := by
    have h := lay_empty B pp f e ps wr (HR.out.2.keep hb0) hBp hBW (by omega)
    rw [HPN.out] at h
    exact h
  have HC2 : Hid (∀ W1, Below B wr W1 → Pl B pp f e (ps ++ [(empty, [])]) W1 → B ≤ W1.heap.size → Calls Try.prog 63 #[.pointer (some ⟨pp, 0, none⟩), .agg #[.int .i64 k0, .int .u64 (c0.1.toNat : Int), .int .u64 (c0.2.1.toNat : Int), .int .u64 (c0.2.2.1.toNat : Int), .int .u64 (c0.2.2.2.toNat : Int), .slice a0 n0 p0], .int .i64 (pn : Int)] W1 fun e' w' => e' = .returned (.int .i64 (r2v : Int)) ∧ Pl B pp f e ps2 w' ∧ Below B W1 w' ∧ Keep3 W1 w') := fun W1 hb hp hB => by
    have h := h1 _ (ps ++ [(empty, [])]) ps.length B pp f e W1 ((HR.out.1.next (hb0.mono hBw)).next hb) hp hBp hB (by simp only [List.length_append, List.length_cons, List.length_nil]; omega)
    rw [HV2.out, HP2.out, HPN.out] at h
    exact h
  have hpl : pn < ps2.length ∧ ps2.length ≤ 200 := by
    have h := lay_len x (ps ++ [(empty, [])]) ps.length
    rw [HP2.out] at h
    have := HPN.out
    simp only [List.length_append, List.length_cons, List.length_nil] at h
    omega
  have HG : Hid (ps2[pn]? = some (empty, [])) := by
    have h := lay_keep x (ps ++ [(empty, [])]) ps.length ps.length (by simp)
    rw [HP2.out, HPN.out] at h
    show _ = _
    rw [h, ← HPN.out]; simp
  have HEND : Hid ((lay (.star x) ps nx).1 = ps2.set pn (empty, [nx, r2v]) ∧ (lay (.star x) ps nx).2 = pn) := by
    show _ ∧ _
    simp only [lay]
    rw [HP2.out, HV2.out, HPN.out]
    exact ⟨rfl, rfl⟩
  clear r0 hP hx hcl hS HPN HP2 HV2
  go_enter Try.func63, Try.ntmps63
  go_wp2_with fail
  rw [HBX.out, HWR.out]
  refine HC1.out.mono ?_
  rintro e1 W1 ⟨rfl, hp1, hb1, hk1⟩
  have HB1 : Hid (Below B wr W1 ∧ Keep3 wr W1) := ⟨hb1, hk1⟩
  have HC2' := HC2.out W1 hb1 hp1 (Nat.le_trans hBW hb1.size)
  have HC2W : Hid (Calls Try.prog 63 #[.pointer (some ⟨pp, 0, none⟩), .agg #[.int .i64 k0, .int .u64 (c0.1.toNat : Int), .int .u64 (c0.2.1.toNat : Int), .int .u64 (c0.2.2.1.toNat : Int), .int .u64 (c0.2.2.2.toNat : Int), .slice a0 n0 p0], .int .i64 (pn : Int)] W1 fun e' w' => e' = .returned (.int .i64 (r2v : Int)) ∧ Pl B pp f e ps2 w' ∧ Below B W1 w' ∧ Keep3 W1 w') := HC2'
  obtain ⟨s0, s1, s2, s3, s4, s5, s6⟩ := s1_next HZ.out hbB HS.out hb1 hk1
  have HBS : Hid (B ≤ W1.heap.size) := Nat.le_trans hBW hb1.size
  clear hb1 hk1 hp1 HC2' HC1 HC2
  go_wp2_with fail
  refine HC2W.out.mono ?_
  rintro e1 W2 ⟨rfl, hp2, hb2, hk2⟩
  have HB2 : Hid (Below B W1 W2 ∧ Keep3 W1 W2 ∧ B ≤ W2.heap.size) := ⟨hb2, hk2, Nat.le_trans HBS.out hb2.size⟩
  obtain ⟨g, gc, v0, t0, t1, t2, hBg, hgs, hset⟩ := hp2.openAt pn hpl.1
  have HSET : Hid (∀ W' nv l, Below W2.heap.size W2 W' → Nxs W' B nv l → Pl B pp f e (ps2.set pn (ps2[pn].1, l)) (W'.setCell ⟨g, pn * 5 + 4, none⟩ nv) ∧ Keep3 W' (W'.setCell ⟨g, pn * 5 + 4, none⟩ nv)) := hset
  have hbz := box_keep W2 (.cells #[.int .i64 (nx : Int), .int .i64 (r2v : Int)] 3)
  have hnew := block_new W2 (.cells #[.int .i64 (nx : Int), .int .i64 (r2v : Int)] 3)
  have u1 := cell_next t1 hbz
  have u2 := (hbz.frozen (p := ⟨g, pn * 5 + 4, none⟩) hgs).trans t2
  have HN : Hid ((W2.alloc (.cells #[.int .i64 (nx : Int), .int .i64 (r2v : Int)] 3)).heap[W2.heap.size]? = some (.cells #[.int .i64 (nx : Int), .int .i64 (r2v : Int)] 3)) := hnew
  have hpn := hpl.1
  clear s0 s1 s2 s3 s4 s5 s6 hb2 hk2 hp2 HC2W hset hnew
  go_wp2_with fail
  go_ret
  have hse := HSET.out _ (.slice (some ⟨W2.heap.size, 0, none⟩) 2 2) [nx, r2v] hbz (Or.inr ⟨W2.heap.size, rfl, HB2.out.2.2, HN.out⟩)
  have heq : (W2.alloc (.cells #[.int .i64 (nx : Int), .int .i64 (r2v : Int)] 3)).setCell ⟨g, pn * 5 + 4, none⟩ (.slice (some ⟨W2.heap.size, 0, none⟩) 2 2) = (W2.setCell ⟨g, pn * 5 + 4, none⟩ (.slice (some ⟨W2.heap.size, 0, none⟩) 2 2)).alloc (.cells #[.int .i64 (nx : Int), .int .i64 (r2v : Int)] 3) := by
    exact World.setCell_alloc_past _ _ _ _ hgs
  rw [heq] at hse
  have hem : ps2[pn].1 = empty := by
    have h := HG.out
    rw [List.getElem?_eq_getElem hpn] at h
    rw [Option.some.inj h]
  rw [hem] at hse
  rw [HEND.out.1, HEND.out.2]
  refine ⟨rfl, hse.1, ?_, ?_⟩
  · refine (hb0.mono hBw).trans (HB1.out.1.trans (HB2.out.1.trans ?_))
    rw [← heq]
    exact ((Below.refl B W2).alloc HB2.out.2.2 _).setCell hBg _
  · exact ((Keep3.refl w).below hb0).trans (HB1.out.2.trans (HB2.out.2.1.trans (((Keep3.refl W2).below hbz).trans hse.2)))
/-- The contract of plan.layRex. -/
theorem layRex_any {t : T} {x : E} (h : Is t x) : LR t x := by
  induction h with
  | none => exact lr_none
  | emp => exact lr_emp
  | byte h => exact lr_byte h
  | cat _ _ h1 h2 => exact lr_cat h1 h2
  | alt _ _ h1 h2 => exact lr_alt h1 h2
  | star _ h => exact lr_star h
end Go.Proofs.Ytgdaegmmapljgaa
