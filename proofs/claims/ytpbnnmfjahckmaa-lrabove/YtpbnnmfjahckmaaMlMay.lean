/-
  The contract of lr.mayBeDone.
-/
import Derived.Test.YtpbnnmfjahckmaaMlLow
namespace Go.Proofs.Ytpbnnmfjahckmaa
open Go.RowKit
open Cg

theorem info84 : (Try.prog.info? 84).map (fun i => (i.zero, i.size, i.bytes)) = some (some (.slice none 0 0), 1, 24) := by kernel_rfl
theorem info104 : (Try.prog.info? 104).map (fun i => (i.zero, i.size, i.bytes)) = some (some (.agg #[.int .i64 0, .int .i64 0]), 2, 16) := by kernel_rfl
/-- The cells of acts. -/
def acl : List Sy → List Value
  | [] => []
  | x :: l => .int .i64 x.1 :: .int .i64 x.2 :: acl l
theorem acl_app (l m : List Sy) : acl (l ++ m) = acl l ++ acl m := by
  induction l with
  | nil => rfl
  | cons c l ih => simp [acl, ih]
/-- Rows of acts, one for each column. -/
structure Mz (w : World) (T n : Nat) (pv : Value) (ps : List Pd) (ob : Nat) (f : Nat → Value) (L : Nat → List Sy) (W : World) : Prop where
  gb : Gb w w.heap.size (T : Int) (n : Int) pv ps W
  ge : w.heap.size + 1 ≤ ob
  o : W.rowIs ob 84 (T + 1) f
  r : ∀ c, c < T + 1 → W.ownsRow (w.heap.size + 1) 104 2 (f c) (L c).length (acl (L c))
  ne : ∀ c d q, c < T + 1 → d < T + 1 → (f c).ownBlock = some q → (f d).ownBlock = some q → c = d
theorem gb_grown {w0 : World} {t n : Int} {pv : Value} {ps : List Pd} {W W' : World} (h : Gb w0 w0.heap.size t n pv ps W) (hp : Pds w0 pv ps) {row : Option Nat} (hg : W.grownBy W' row) (hr : ∀ q, row = some q → w0.heap.size + 1 ≤ q) : Gb w0 w0.heap.size t n pv ps W' := by
  have hbw : Below w0.heap.size w0 W' := Below.grown h.below hg h.below.size (fun q hq => by have := hr q hq; omega)
  have hgc : ∀ j, W'.cell? ⟨w0.heap.size, j, none⟩ = W.cell? ⟨w0.heap.size, j, none⟩ := fun j => World.cell?_of_block (a := ⟨w0.heap.size, j, none⟩) (hg.block w0.heap.size h.lt (fun e => by have := hr _ e.symm; omega))
  exact ⟨hbw, Nat.lt_of_lt_of_le h.lt hg.size, Nat.le_refl _, (hgc 0).trans h.c0, (hgc 1).trans h.c1, (hgc 2).trans h.c2, hp.below hbw⟩
theorem gb_set {w0 : World} {t n : Int} {pv : Value} {ps : List Pd} {W : World} (h : Gb w0 w0.heap.size t n pv ps W) (hp : Pds w0 pv ps) {b i : Nat} {v : Value} (hb : w0.heap.size + 1 ≤ b) : Gb w0 w0.heap.size t n pv ps (W.setCell ⟨b, i, none⟩ v) := by
  have hbw : Below w0.heap.size w0 (W.setCell ⟨b, i, none⟩ v) := h.below.setCell (by simp; omega) v
  have hgc : ∀ j, (W.setCell ⟨b, i, none⟩ v).cell? ⟨w0.heap.size, j, none⟩ = W.cell? ⟨w0.heap.size, j, none⟩ := fun j => World.cell?_of_block (a := ⟨w0.heap.size, j, none⟩) (mset_ne W i v (show w0.heap.size ≠ b by omega))
  exact ⟨hbw, by have := h.lt; simpa [World.setCell] using this, Nat.le_refl _, (hgc 0).trans h.c0, (hgc 1).trans h.c1, (hgc 2).trans h.c2, hp.below hbw⟩
section
variable {w : World} {T n : Nat} {pv : Value} {ps : List Pd} {ob : Nat} {f : Nat → Value} {L : Nat → List Sy} {W W' : World}
theorem Mz.next (h : Mz w T n pv ps ob f L W) (hb : Below W.heap.size W W') : Mz w T n pv ps ob f L W' :=
  ⟨h.gb.next hb, h.ge, h.o.of_block (hb.block _ h.o.lt), fun c hc => own_below (h.r c hc) hb, h.ne⟩
theorem Mz.congr {L' : Nat → List Sy} (h : Mz w T n pv ps ob f L W) (e : ∀ c, L c = L' c) : Mz w T n pv ps ob f L' W := by
  have : L = L' := funext e
  rw [← this]; exact h
theorem Mz.put (h : Mz w T n pv ps ob f L W) (hp : Pds w pv ps) {c g k cp : Nat} {m : List Sy} (hc : c < T + 1) {row : Option Nat} (hg : W.grownBy W' row) (hrow : row = (f c).ownBlock) (ho : W'.ownsRow (w.heap.size + 1) 104 2 (.slice (some ⟨g, 0, none⟩) k cp) m.length (acl m)) (hn : (f c).ownBlock = some g ∨ W.heap.size ≤ g) :
    Mz w T n pv ps ob (upd f c (.slice (some ⟨g, 0, none⟩) k cp)) (upd L c m) (W'.setCell ⟨ob, c, none⟩ (.slice (some ⟨g, 0, none⟩) k cp)) := by
  subst hrow
  have hob : (f c).ownBlock ≠ some ob := fun e => by
    obtain ⟨cur, h1⟩ := mown_blk (h.r c hc) e
    obtain ⟨c', h2, -⟩ := h.o
    rw [h1] at h2; cases h2
  have ho' : W'.rowIs ob 84 (T + 1) f := h.o.of_block (hg.block _ h.o.lt (fun e => hob e.symm))
  have hkeep : ∀ d, d < T + 1 → d ≠ c → (W'.setCell ⟨ob, c, none⟩ (.slice (some ⟨g, 0, none⟩) k cp)).ownsRow (w.heap.size + 1) 104 2 (f d) (L d).length (acl (L d)) := fun d hd hdc => row_keep (h.r d hd) fun q hq => by
    have h1 : q ≠ ob := fun e => by
      subst e
      obtain ⟨cur, h1⟩ := mown_blk (h.r d hd) hq
      obtain ⟨c', h2, -⟩ := h.o
      rw [h1] at h2; cases h2
    exact (mset_ne W' c _ h1).trans (hg.block q ((h.r d hd).lt q hq).2 (fun e => hdc (h.ne d c q hd hc hq e.symm)))
  have hgob : g ≠ ob := fun e => by
    subst e
    obtain ⟨cur, h1⟩ := mown_blk ho rfl
    obtain ⟨c', h2, -⟩ := ho'
    rw [h1] at h2; cases h2
  refine ⟨gb_set (gb_grown h.gb hp hg (fun q hq => ((h.r c hc).lt q hq).1)) hp h.ge, h.ge, ?_, fun d hd => ?_, fun d e q hd he h1 h2 => ?_⟩
  · exact (ho'.set c _).congr fun i hi => by unfold upd; split <;> rfl
  · by_cases e : d = c
    · subst e
      rw [upd_at, upd_at]
      exact row_keep ho fun q hq => by
        have : q = g := by simpa [Value.ownBlock, eq_comm] using hq
        subst this
        exact mset_ne W' d _ hgob
    · rw [upd_ne _ _ e, upd_ne _ _ e]; exact hkeep d hd e
  · have fresh : ∀ d, d < T + 1 → d ≠ c → (f d).ownBlock ≠ some g := fun d hd hdc h3 => by
      rcases hn with hn | hn
      · exact hdc (h.ne d c g hd hc h3 hn)
      · have := ((h.r d hd).lt g h3).2; omega
    by_cases e1 : d = c
    · by_cases e2 : e = c
      · rw [e1, e2]
      · subst e1
        rw [upd_at] at h1
        rw [upd_ne _ _ e2] at h2
        have : q = g := by simpa [Value.ownBlock, eq_comm] using h1
        subst this
        exact absurd h2 (fresh e he e2)
    · by_cases e2 : e = c
      · subst e2
        rw [upd_at] at h2
        rw [upd_ne _ _ e1] at h1
        have : q = g := by simpa [Value.ownBlock, eq_comm] using h2
        subst this
        exact absurd h1 (fresh d hd e1)
      · rw [upd_ne _ _ e1] at h1
        rw [upd_ne _ _ e2] at h2
        exact h.ne d e q hd he h1 h2
end
structure RMy (wr : World) (gb ib ob B T n : Nat) (pv : Value) (lk pr : Nat) (ax0 ax1 : Int) (va : Option Addr) (vn vc : Nat) (xs : List Value) (gb2 : Nat) (gr : Nat) (cr : Nat) (d : Nat → Bool) (x48 x49 x50 x51 x52 x53 x54 x55 x56 x57 x58 x59 x60 x61 x62 : Value) (W : World) : Prop where
  f0 : d 0 = true → x48 = (.slice (some ⟨ob, 0, none⟩) (T + 1) (T + 1))
  f1 : d 1 = true → x49 = (.pointer (some ⟨ib, 2, none⟩))
  f2 : d 2 = true → x50 = (.int .i64 (lk : Int))
  f3 : d 3 = true → x51 = (.slice (some ⟨ob, 0, none⟩) (T + 1) (T + 1))
  f4 : d 4 = true → x52 = (.pointer (some ⟨ib, 2, none⟩))
  f5 : d 5 = true → x53 = (.int .i64 (lk : Int))
  f6 : d 6 = true → x54 = (.pointer (some ⟨ob, lk, none⟩))
  f7 : d 7 = true → x55 = (.slice va vn vc)
  f8 : d 8 = true → x56 = (.agg #[.int .i64 (T : Int), .int .i64 (n : Int), pv])
  f9 : d 9 = true → x57 = (.pointer (some ⟨ib, 0, none⟩))
  f10 : d 10 = true → x58 = (.int .i64 (pr : Int))
  f11 : d 11 = true → x59 = (.agg #[.int .i64 ax0, .int .i64 ax1])
  f12 : d 12 = true → x60 = (.slice (some ⟨gb2, 0, none⟩) 1 1)
  f13 : d 13 = true → x61 = (.slice (some ⟨gr, 0, none⟩) (vn + 1) cr)
  f14 : d 14 = true → x62 = (.pointer (some ⟨ob, lk, none⟩))
  f15 : d 15 = true → True
  ol : ∀ i, i < 15 → d 15 = true → d i = true
  cA : d 13 = true → d 12 = true
  kp : d 15 = false → wr.grownBy W (Value.ownBlock (.slice va vn vc))
  r0 : d 13 = false → W.ownsRow B 104 2 (.slice va vn vc) vn xs
  b0 : d 12 = true → d 13 = false → W.heap[gb2]? = some (.cells #[.int .i64 ax0, .int .i64 ax1] 104)
  r1 : d 13 = true → d 15 = false → W.ownsRow B 104 2 (.slice (some ⟨gr, 0, none⟩) (vn + 1) cr) (vn + 1) (xs ++ [.int .i64 ax0, .int .i64 ax1]) ∧ ((Value.ownBlock (.slice va vn vc)) = some gr ∨ wr.heap.size ≤ gr)
  fin : d 15 = true → ∃ V, wr.grownBy V (Value.ownBlock (.slice va vn vc)) ∧ V.ownsRow B 104 2 (.slice (some ⟨gr, 0, none⟩) (vn + 1) cr) (vn + 1) (xs ++ [.int .i64 ax0, .int .i64 ax1]) ∧ ((Value.ownBlock (.slice va vn vc)) = some gr ∨ wr.heap.size ≤ gr) ∧ W = V.setCell ⟨ob, lk, none⟩ (.slice (some ⟨gr, 0, none⟩) (vn + 1) cr)

/-- What mayBeDone leaves. -/
def MbQ (w : World) (T n : Nat) (pv : Value) (ps : List Pd) (nx : List Int) (s : List It) (e : Ending) (w' : World) : Prop :=
  ∃ ob f, e = .returned (.slice (some ⟨ob, 0, none⟩) (T + 1) (T + 1)) ∧ Mz w T n pv ps ob f (cnd T ps nx s) w'
set_option maxHeartbeats 16000000 in
set_option maxRecDepth 20000 in
theorem mayBe_any (T n : Nat) (pv : Value) (ps : List Pd) (sv : Value) (s : List It) (no : Option Addr) (nc : Nat) (nx : List Int) (w : World) (hp : Pds w pv ps) (hk : chk (T : Int) (n : Int) ps = 0) (hs : Its w sv s) (ok : ∀ x ∈ s, OkIt T ps x) (hsl : s.length ≤ 20000) (hn : Ints w (.slice no (T + n) nc) nx) (hnl : nx.length = T + n) (hnc : T + n ≤ nc) :
    Calls Try.prog 46 #[.agg #[.int .i64 (T : Int), .int .i64 (n : Int), pv], sv, .slice no (T + n) nc] w fun e w' => MbQ w T n pv ps nx s e w' := by
  obtain ⟨i1, hi1, hy0, hy1, hy2⟩ := minfo_parts info104
  have HTN : Hid (T ≤ 30 ∧ n ≤ 20 ∧ 1 ≤ n) := by have := okTN_le (chk_zero hk).1; exact ⟨by omega, by omega, by omega⟩
  have HPD : Hid (Pds w pv ps) := hp
  have HSI : Hid (Its w sv s) := hs
  have HOK : Hid (∀ x ∈ s, OkIt T ps x) := ok
  have HSL : Hid (s.length ≤ 20000) := hsl
  obtain ⟨po, pc, rfl⟩ := hp.len
  obtain ⟨so, sc, rfl, hsm, hsc⟩ := hs
  rw [List.length_map] at hsm ⊢
  have hsm := hsm.1
  obtain ⟨no2, nc2, hne, hnm, hncc⟩ := hn
  simp only [Value.slice.injEq] at hne
  obtain ⟨rfl, -, rfl⟩ := hne
  obtain ⟨nb, nof, rfl, hnb, hnz⟩ := hncc.resolve_left (by intro e; rw [e] at hnl; simp at hnl; have := HTN.out; omega)
  have HNZ : Hid (∀ i (hi : i < nx.length), w.cell? ⟨nb, nof + i, none⟩ = some (.int .i64 nx[i])) := hnz
  have HNL : Hid (nx.length = T + n ∧ nb < w.heap.size) := ⟨hnl, hnb⟩
  have HGB : Hid (Gb w w.heap.size (T : Int) (n : Int) (.slice po ps.length pc) ps (w.alloc (Obj.cells #[.int .i64 (T : Int), .int .i64 (n : Int), .slice po ps.length pc] 24))) := Gb.box hp (T : Int) (n : Int)
  have hmk := run_make_row' (P := Try.prog) 25 84 (.slice none 0 0) 24 Try.underlying25 info84 rfl .i64 .i64 (T + 1) (by have := HTN.out; omega) (by have := HTN.out; omega)
  have ea : (((T + 1 : Nat)) : Int) = (T : Int) + 1 := by omega
  rw [ea] at hmk
  have hT30 : (T : Int) ≤ 30 := by have := HTN.out; omega
  have hT0 : (0 : Int) ≤ (T : Int) := by omega
  have hTn : (T : Int) ≤ (nc : Int) := by omega
  have hwr : IntKind.i64.wrap ((T : Int) + 1) = (T : Int) + 1 := by rw [IntKind.wrap_i64]; omega
  have HSC : Hid _ := hsc
  clear hp hk ok hsl hnm hnl hnb hnz hncc hsc
  go_enter Try.func46, Try.ntmps46
  go_upto_region 1 with fail
  obtain ⟨w1, HW1⟩ : ∃ z, Hid (w.alloc (Obj.cells #[.int .i64 (T : Int), .int .i64 (n : Int), .slice po ps.length pc] 24) = z) := ⟨_, (rfl : w.alloc _ = _)⟩
  rw [HW1.out] at HGB ⊢
  have g0 := HGB.out.c0
  have HMZ0 : Hid (Mz w T n (.slice po ps.length pc) ps w1.heap.size (fun _ => .slice none 0 0) (shF T nx 0) (w1.alloc (Obj.cells (madeCells #[Value.slice none 0 0] (T + 1)) 84))) :=
    ⟨HGB.out.next (below_alloc _ _), HGB.out.lt, World.rowIs_made w1 (.slice none 0 0) (T + 1) 84, fun c hc => by unfold shF; rw [if_neg (by omega)]; exact World.ownsRow_nil _ _ _ _, fun c d q _ _ h => by simp [Value.ownBlock] at h⟩
  have g1 : (w1.alloc (Obj.cells (madeCells #[Value.slice none 0 0] (T + 1)) 84)).cell? ⟨w.heap.size, 0, none⟩ = some (.int .i64 (T : Int)) := HMZ0.out.gb.c0
  clear HW1
  go_upto_region 3 with fail
  obtain ⟨ob, HOBE⟩ : ∃ z, Hid (w1.heap.size = z) := ⟨_, (rfl : w1.heap.size = _)⟩
  rw [HOBE.out] at HMZ0 ⊢
  generalize w1.alloc (Obj.cells (madeCells #[Value.slice none 0 0] (T + 1)) 84) = w2 at HMZ0 g1 ⊢
  clear hmk g0 g1 HGB HOBE hwr ea
  go_loopw [21] (fun y wr => ∃ i : Nat, i ≤ T ∧ y = .int .i64 (i : Int) ∧ Hid (∃ f, Mz w T n (.slice po ps.length pc) ps ob f (shF T nx i) wr ∧ ∀ c, i ≤ c → f c = .slice none 0 0)) (fun y _ => T - (intOf y).toNat)
  case atStart => exact ⟨0, by omega, rfl, _, HMZ0.out, fun _ _ => rfl⟩
  case round =>
    obtain ⟨i, hi, rfl, HI⟩ := hrel
    clear HMZ0
    by_cases hlt : i < T
    · have hk1 : (i : Int) < (T : Int) := by omega
      have hk0 : (0 : Int) ≤ (i : Int) := by omega
      obtain ⟨f, hmz, hf0⟩ := HI.out
      have HMZ : Hid (_) := hmz
      have HF0 : Hid (∀ c, i ≤ c → f c = .slice none 0 0) := hf0
      have hin : i < nx.length := by have := HNL.out.1; omega
      have x0 : wr.cell? ⟨nb, nof + i, none⟩ = some (.int .i64 nx[i]) := (hmz.gb.below.cell (p := ⟨nb, nof + i, none⟩) HNL.out.2).trans (HNZ.out i hin)
      have HGD : Hid (nx.getD i (-1) = nx[i]) := by show _ = _; rw [List.getD_eq_getElem?_getD, List.getElem?_eq_getElem hin]; rfl
      have kz := hmz.o.cell (i := i) (by omega)
      rw [hf0 i (Nat.le_refl _)] at kz
      generalize nx[i] = z at x0 HGD
      clear HI hf0
      by_cases hz : z = -1
      · have HNX : Hid (∃ f, Mz w T n (.slice po ps.length pc) ps ob f (shF T nx (i + 1)) wr ∧ ∀ c, i + 1 ≤ c → f c = .slice none 0 0) := by
          refine ⟨f, HMZ.out.congr fun c => ?_, fun c hc => HF0.out c (by omega)⟩
          unfold shF
          by_cases h1 : c < i
          · rw [if_pos h1, if_pos (by omega)]
          · rw [if_neg h1]
            by_cases h2 : c = i
            · subst h2
              rw [if_pos (by omega)]
              unfold shA
              rw [if_neg (fun e => e.2 (by rw [HGD.out]; exact hz))]
            · rw [if_neg (by omega)]
        have hb : (z != -1) = false := by simpa using hz
        clear hmz hz HMZ
        go_wp2_with fail
        go_roundw
        case rel => exact ⟨i + 1, by omega, by go_num, HNX.out⟩
        case measure => simp [intOf]; omega
      · have hb : (z != -1) = true := by simpa using hz
        have hab := below_alloc wr (Obj.cells #[.int .i64 1, .int .i64 z] 104)
        have hm2 := hmz.next hab
        have kz2 := hm2.o.cell (i := i) (by omega)
        rw [HF0.out i (Nat.le_refl _)] at kz2
        have kf2 := World.rowIs.frozen hm2.o i
        have HNX : Hid (∃ f, Mz w T n (.slice po ps.length pc) ps ob f (shF T nx (i + 1)) ((wr.alloc (Obj.cells #[.int .i64 1, .int .i64 z] 104)).setCell ⟨ob, i, none⟩ (.slice (some ⟨wr.heap.size, 0, none⟩) 1 1)) ∧ ∀ c, i + 1 ≤ c → f c = .slice none 0 0) := by
          have hrow : (wr.alloc (Obj.cells #[.int .i64 1, .int .i64 z] 104)).ownsRow (w.heap.size + 1) 104 2 (.slice (some ⟨wr.heap.size, 0, none⟩) 1 1) ([((1, z) : Sy)]).length (acl [(1, z)]) :=
            ⟨by simp [acl], Or.inr ⟨wr.heap.size, 1, _, rfl, HMZ.out.gb.lt, heap_alloc_new _ _, by simp, by unfold maxLen; omega, rfl, by simp [acl]⟩⟩
          refine ⟨_, (HMZ.out.put (row := none) HPD.out (c := i) (by omega) (mgb_alloc (mgb_refl _ _) _) (by rw [HF0.out i (Nat.le_refl _)]; rfl) hrow (Or.inr (Nat.le_refl _))).congr fun c => ?_, fun c hc => by rw [upd_ne _ _ (by omega)]; exact HF0.out c (by omega)⟩
          unfold shF
          by_cases h2 : c = i
          · subst h2
            rw [upd_at, if_pos (by omega)]
            unfold shA
            rw [if_pos ⟨hlt, by rw [HGD.out]; exact hz⟩, HGD.out]
          · rw [upd_ne _ _ h2]
            by_cases h1 : c < i
            · rw [if_pos h1, if_pos (by omega)]
            · rw [if_neg h1, if_neg (by omega)]
        clear hmz hz HMZ hab hm2
        go_upto_region 7 with fail
        generalize (wr.alloc (Obj.cells #[.int .i64 1, .int .i64 z] 104)).setCell ⟨ob, i, none⟩ (.slice (some ⟨wr.heap.size, 0, none⟩) 1 1) = w3 at HNX ⊢
        clear kz kz2 kf2 x0
        go_wp2_with fail
        go_roundw
        case rel => exact ⟨i + 1, by omega, by go_num, HNX.out⟩
        case measure => simp [intOf]; omega
    · obtain rfl : T = i := by omega
      obtain ⟨f0, hmz0, -⟩ := HI.out
      have HMZ1 : Hid (Mz w T n (.slice po ps.length pc) ps ob f0 (fun c => shA T nx c ++ rdL ps (s.take 0) c) wr) := hmz0.congr fun c => by rw [shF_end, List.take_zero, rdL_nil, List.append_nil]
      clear HI hmz0
      go_upto_region 9 with fail
      go_loopw [37] (fun y wr => ∃ i : Nat, i ≤ s.length ∧ y = .int .i64 (i : Int) ∧ Hid (∃ f, Mz w T n (.slice po ps.length pc) ps ob f (fun c => shA T nx c ++ rdL ps (s.take i) c) wr)) (fun y _ => s.length - (intOf y).toNat)
      case atStart => exact ⟨0, by omega, rfl, _, HMZ1.out⟩
      case round =>
        obtain ⟨i, hi, rfl, HI⟩ := hrel
        clear HMZ1
        by_cases hlt : i < s.length
        · have hk1 : (i : Int) < (s.length : Int) := by omega
          have hk0 : (0 : Int) ≤ (i : Int) := by omega
          obtain ⟨f, hmz⟩ := HI.out
          obtain ⟨b1, o1, rfl, x0, x1, x2⟩ := Its.at HSC.out hmz.gb.below hlt
          have HOX := HOK.out s[i] (List.getElem_mem hlt)
          have HNX0 : Hid (∀ c, shA T nx c ++ rdL ps (s.take (i + 1)) c = (shA T nx c ++ rdL ps (s.take i) c) ++ (if doneI ps s[i] = true ∧ s[i].2.2 = c then [actX ps s[i].1] else [])) := fun c => by rw [rdL_next hlt, List.append_assoc]
          have HFEW : Hid (∀ c, (shA T nx c ++ rdL ps (s.take i) c).length ≤ 20001) := fun c => by
            have h1 := rdL_le ps (s.take i) c
            have h2 : (shA T nx c).length ≤ 1 := by unfold shA; split <;> simp
            rw [List.length_take] at h1
            rw [List.length_append]
            have := HSL.out
            omega
          generalize s[i] = x at x0 x1 x2 HOX HNX0
          have HMZa : Hid (_) := hmz.next (below_alloc wr (Obj.cells #[.int .i64 (x.1 : Int), .int .i64 (x.2.1 : Int), .int .i64 (x.2.2 : Int)] 145))
          have HIBa : Hid (_) := heap_alloc_new wr (Obj.cells #[.int .i64 (x.1 : Int), .int .i64 (x.2.1 : Int), .int .i64 (x.2.2 : Int)] 145)
          have HQW : Hid (w.heap.size + 1 ≤ wr.heap.size) := hmz.gb.lt
          clear HI hmz
          go_upto_region 11 with fail
          obtain ⟨q, HQQ⟩ : ∃ z, Hid (wr.heap.size = z) := ⟨_, (rfl : wr.heap.size = _)⟩
          obtain ⟨w2, HW2⟩ : ∃ z, Hid (wr.alloc (Obj.cells #[.int .i64 (x.1 : Int), .int .i64 (x.2.1 : Int), .int .i64 (x.2.2 : Int)] 145) = z) := ⟨_, (rfl : wr.alloc _ = _)⟩
          rw [HW2.out] at HMZa HIBa ⊢
          rw [HQQ.out] at HIBa HQW ⊢
          clear HW2 HQQ x0 x1 x2
          have hltb := HMZa.out.gb.lt
          have hltq := mheap_lt HIBa.out
          have e0 := mcell_blk HIBa.out 0
          have e1 := mcell_blk HIBa.out 1
          simp only [List.getElem?_toArray, List.getElem?_cons_zero, List.getElem?_cons_succ] at e0 e1
          have k0 : ∀ p : Kp (Sb w2), p.W.cell? ⟨w.heap.size, 0, none⟩ = some (.int .i64 (T : Int)) := fun p => (Below.cell (w := w2) p.h (p := ⟨w.heap.size, 0, none⟩) hltb).trans HMZa.out.gb.c0
          have k1 : ∀ p : Kp (Sb w2), p.W.cell? ⟨w.heap.size, 1, none⟩ = some (.int .i64 (n : Int)) := fun p => (Below.cell (w := w2) p.h (p := ⟨w.heap.size, 1, none⟩) hltb).trans HMZa.out.gb.c1
          have k2 : ∀ p : Kp (Sb w2), p.W.cell? ⟨w.heap.size, 2, none⟩ = some (.slice po ps.length pc) := fun p => (Below.cell (w := w2) p.h (p := ⟨w.heap.size, 2, none⟩) hltb).trans HMZa.out.gb.c2
          have k3 : ∀ p : Kp (Sb w2), p.W.cell? ⟨q, 0, none⟩ = some (.int .i64 (x.1 : Int)) := fun p => (Below.cell (w := w2) p.h (p := ⟨q, 0, none⟩) hltq).trans e0
          have k4 : ∀ p : Kp (Sb w2), p.W.cell? ⟨q, 1, none⟩ = some (.int .i64 (x.2.1 : Int)) := fun p => (Below.cell (w := w2) p.h (p := ⟨q, 1, none⟩) hltq).trans e1
          have HC1 : Hid (∀ p : Kp (Sb w2), Calls Try.prog 74 #[.agg #[.int .i64 (T : Int), .int .i64 (n : Int), .slice po ps.length pc], .int .i64 (x.1 : Int)] p.W fun e w'' => e = .returned (.int .i64 ((bod ps x.1).length : Int)) ∧ ∃ q : Kp (Sb w2), w'' = q.W) := fun p => Kp.calls p Sb.next (width_any _ _ _ ps x.1 HOX.p _ (HMZa.out.gb.pds.below p.h))
          have hne : Nonempty (Kp (Sb w2)) := ⟨⟨_, Sb.drew w2⟩⟩
          refine wp_region_kept mixed (by kernel_rfl) (Sb.drew w2) ?_
          repeat (go_big_quiet_step (first | (go_at_call 74; with_reducible exact HC1.out _)))
          refine wpQuiet_nil ?_
          intro W2 hw2
          obtain ⟨p2, rfl⟩ := hw2
          have HB3 : Hid (Below w2.heap.size w2 p2.W) := p2.h
          generalize p2.W = w3 at HB3 ⊢
          clear p2 k0 k1 k2 k3 k4 HC1 hne e0 e1 hltb hltq
          have HMZ : Hid (_) := HMZa.out.next HB3.out
          have HIB0 : Hid (_) := mbox_next HIBa.out HB3.out
          clear HMZa HIBa HB3
          by_cases hdn : x.2.1 = (bod ps x.1).length
          · have hb : ((x.2.1 : Int) == ((bod ps x.1).length : Int)) = true := by simp [hdn]
            obtain ⟨pr, dt, lk⟩ := x
            simp only at hb hdn HNX0 HIB0 HOX ⊢
            have HLK : Hid (lk < T + 1) := by have := HOX.k; show _ < _; simp only at this; omega
            obtain ⟨L, HL⟩ : ∃ L, Hid ((fun c => shA T nx c ++ rdL ps (s.take i) c) = L) := ⟨_, (rfl : (fun c => shA T nx c ++ rdL ps (s.take i) c) = _)⟩
            have HLf : Hid (∀ c, shA T nx c ++ rdL ps (s.take i) c = L c) := fun c => congrFun HL.out c
            have HMZL : Hid (Mz w T n (.slice po ps.length pc) ps ob f L w3) := by have := HMZ.out; rw [HL.out] at this; exact this
            obtain ⟨ax0, ax1, HAX⟩ : ∃ ax0 ax1, Hid (actX ps pr = (ax0, ax1)) := ⟨_, _, (rfl : actX ps pr = ((actX ps pr).1, (actX ps pr).2))⟩
            obtain ⟨M, HM⟩ : ∃ M, Hid (L lk = M) := ⟨_, (rfl : L lk = _)⟩
            have HSTEP : Hid (∀ c, shA T nx c ++ rdL ps (s.take (i + 1)) c = upd L lk (M ++ [(ax0, ax1)]) c) := fun c => by
              rw [HNX0.out c, HLf.out c]
              by_cases e : c = lk
              · subst e
                rw [upd_at, if_pos ⟨by simp [doneI, hdn], rfl⟩, HM.out, HAX.out]
              · rw [upd_ne _ _ e, if_neg (fun h => e h.2.symm), List.append_nil]
            have hr := HMZL.out.r lk HLK.out
            obtain ⟨va, vn, vc, hfv⟩ := own_form hr
            have HFV : Hid (f lk = .slice va vn vc) := hfv
            rw [hfv, HM.out] at hr
            obtain rfl : vn = M.length := by
              rcases hr.2 with ⟨h1, h2⟩ | ⟨q, cap, cur, hv, -⟩
              · cases h1; exact h2.symm
              · cases hv; rfl
            obtain ⟨vn, HVNE⟩ : ∃ k, Hid (k = M.length) := ⟨_, rfl⟩
            have HVN : Hid (M.length = vn) := HVNE.out.symm
            rw [HVN.out] at hr HFV
            have HOWN : Hid (w3.ownsRow (w.heap.size + 1) 104 2 (.slice va vn vc) vn (acl M)) := hr
            have HBOUND : Hid (vn ≤ 20001) := by
              have := HFEW.out lk
              rw [HLf.out lk, HM.out, HVN.out] at this
              exact this
            have HBW : Hid (w.heap.size + 1 ≤ w3.heap.size) := HMZL.out.gb.lt
            have HIB : Hid (q < w3.heap.size ∧ some q ≠ (Value.slice va vn vc).ownBlock ∧ w3.heap[q]? = some (.cells #[.int .i64 (pr : Int), .int .i64 (dt : Int), .int .i64 (lk : Int)] 145)) := ⟨mheap_lt HIB0.out, fun e => mown_box HOWN.out HIB0.out (by decide) e.symm, HIB0.out⟩
            have kob := HMZL.out.o.cell HLK.out
            rw [HFV.out] at kob
            have HOB : Hid (ob < w3.heap.size ∧ some ob ≠ (Value.slice va vn vc).ownBlock ∧ w3.cell? ⟨ob, lk, none⟩ = some (.slice va vn vc) ∧ w3.frozen? ⟨ob, lk, none⟩ = false) := ⟨HMZL.out.o.lt, (fun e => by
              obtain ⟨cur, h1⟩ := mown_blk HOWN.out e.symm
              obtain ⟨c', h2, -⟩ := HMZL.out.o
              rw [h1] at h2
              cases h2), kob, World.rowIs.frozen HMZL.out.o lk⟩
            have HGBX : Hid (w.heap.size < w3.heap.size ∧ some w.heap.size ≠ (Value.slice va vn vc).ownBlock ∧ w3.cell? ⟨w.heap.size, 0, none⟩ = some (.int .i64 (T : Int)) ∧ w3.cell? ⟨w.heap.size, 1, none⟩ = some (.int .i64 (n : Int)) ∧ w3.cell? ⟨w.heap.size, 2, none⟩ = some (.slice po ps.length pc)) := ⟨HMZL.out.gb.lt, fun e => by have := (HOWN.out.lt _ e.symm).1; omega, HMZL.out.gb.c0, HMZL.out.gb.c1, HMZL.out.gb.c2⟩
            have HCL : Hid (∀ W, w3.grownBy W (Value.slice va vn vc).ownBlock → Calls Try.prog 75 #[.agg #[.int .i64 (T : Int), .int .i64 (n : Int), .slice po ps.length pc], .int .i64 (pr : Int)] W fun e w' => e = .returned (.agg #[.int .i64 ax0, .int .i64 ax1]) ∧ Below W.heap.size W w') := fun W hW => by
              have h1 := actBehind_any (T : Int) (n : Int) (.slice po ps.length pc) ps pr W (HPD.out.below (Below.grown HMZL.out.gb.below hW HMZL.out.gb.below.size (fun q hq => by have := (HOWN.out.lt q hq).1; omega)))
              rw [HAX.out] at h1
              exact h1
            have HMZ := HMZL
            clear hr hfv kob HVNE hdn HNX0 HL HLf HFEW HMZL HOX HIB0
            go_upto_region 12 with fail
            first | rw [hb] | skip
            clear hb
            refine wp_region_free mixed (fun a0 d a W => ∃ (gb2 : Nat) (gr : Nat) (cr : Nat) (x48 x49 x50 x51 x52 x53 x54 x55 x56 x57 x58 x59 x60 x61 x62 : Value), a = (((((((((((((((a0.put (some 48) x48).put (some 49) x49).put (some 50) x50).put (some 51) x51).put (some 52) x52).put (some 53) x53).put (some 54) x54).put (some 55) x55).put (some 56) x56).put (some 57) x57).put (some 58) x58).put (some 59) x59).put (some 60) x60).put (some 61) x61).put (some 62) x62) ∧ Hid (RMy w3 w.heap.size q ob (w.heap.size + 1) T n (.slice po ps.length pc) lk pr ax0 ax1 va vn vc (acl M) gb2 gr cr d x48 x49 x50 x51 x52 x53 x54 x55 x56 x57 x58 x59 x60 x61 x62 W)) (by kernel_rfl) ⟨0, 0, 0, u48, u49, u50, u51, u52, u53, u54, u55, u56, u57, u58, u59, u60, u61, u62, by first | (simp only [Act.put, List.setIfInBounds_toArray, List.set_cons_zero, List.set_cons_succ]; done) | (simp only [Act.put, List.setIfInBounds_toArray, List.set_cons_zero, List.set_cons_succ]; rfl), ?_⟩ ?_ ?_
            · exact ⟨fun h => no_way h, fun h => no_way h, fun h => no_way h, fun h => no_way h, fun h => no_way h, fun h => no_way h, fun h => no_way h, fun h => no_way h, fun h => no_way h, fun h => no_way h, fun h => no_way h, fun h => no_way h, fun h => no_way h, fun h => no_way h, fun h => no_way h, fun _ => trivial, fun _ _ h => no_way h, fun h => no_way h, fun _ => mgb_drew (mgb_refl _ _), fun _ => HOWN.out, fun h => no_way h, fun h => no_way h, fun h => no_way h⟩
            · simp only [StepAll, and_true]
              refine ⟨?_, ?_, ?_, ?_, ?_, ?_, ?_, ?_, ?_, ?_, ?_, ?_, ?_, ?_, ?_, ?_⟩
              · intro d a W hI hd hdep
                obtain ⟨gb2, gr, cr, x48, x49, x50, x51, x52, x53, x54, x55, x56, x57, x58, x59, x60, x61, x62, rfl, hF⟩ := hI
                clear hdep hd
                intro K hK
                simp only [Act.put, List.setIfInBounds_toArray, List.set_cons_zero, List.set_cons_succ]
                go_simp
                refine hK.out _ _ ⟨gb2, gr, cr, (.slice (some ⟨ob, 0, none⟩) (T + 1) (T + 1)), x49, x50, x51, x52, x53, x54, x55, x56, x57, x58, x59, x60, x61, x62, by first | (simp only [Act.put, List.setIfInBounds_toArray, List.set_cons_zero, List.set_cons_succ]; done) | (simp only [Act.put, List.setIfInBounds_toArray, List.set_cons_zero, List.set_cons_succ]; rfl), ?_⟩
                exact ⟨fun _ => rfl, fun h => hF.out.f1 (by simpa using h), fun h => hF.out.f2 (by simpa using h), fun h => hF.out.f3 (by simpa using h), fun h => hF.out.f4 (by simpa using h), fun h => hF.out.f5 (by simpa using h), fun h => hF.out.f6 (by simpa using h), fun h => hF.out.f7 (by simpa using h), fun h => hF.out.f8 (by simpa using h), fun h => hF.out.f9 (by simpa using h), fun h => hF.out.f10 (by simpa using h), fun h => hF.out.f11 (by simpa using h), fun h => hF.out.f12 (by simpa using h), fun h => hF.out.f13 (by simpa using h), fun h => hF.out.f14 (by simpa using h), fun h => hF.out.f15 (by simpa using h), fun i hi h => by have := hF.out.ol i hi (by simpa using h); simp [this], fun h => by have := hF.out.cA (by simpa using h); simpa using this, fun h => hF.out.kp (by simpa using h), fun h => hF.out.r0 (by simpa using h), fun h h2 => hF.out.b0 (by simpa using h) (by simpa using h2), fun h h2 => hF.out.r1 (by simpa using h) (by simpa using h2), fun h => hF.out.fin (by simpa using h)⟩
              · intro d a W hI hd hdep
                obtain ⟨gb2, gr, cr, x48, x49, x50, x51, x52, x53, x54, x55, x56, x57, x58, x59, x60, x61, x62, rfl, hF⟩ := hI
                clear hdep hd
                intro K hK
                simp only [Act.put, List.setIfInBounds_toArray, List.set_cons_zero, List.set_cons_succ]
                go_simp
                refine hK.out _ _ ⟨gb2, gr, cr, x48, (.pointer (some ⟨q, 2, none⟩)), x50, x51, x52, x53, x54, x55, x56, x57, x58, x59, x60, x61, x62, by first | (simp only [Act.put, List.setIfInBounds_toArray, List.set_cons_zero, List.set_cons_succ]; done) | (simp only [Act.put, List.setIfInBounds_toArray, List.set_cons_zero, List.set_cons_succ]; rfl), ?_⟩
                exact ⟨fun h => hF.out.f0 (by simpa using h), fun _ => rfl, fun h => hF.out.f2 (by simpa using h), fun h => hF.out.f3 (by simpa using h), fun h => hF.out.f4 (by simpa using h), fun h => hF.out.f5 (by simpa using h), fun h => hF.out.f6 (by simpa using h), fun h => hF.out.f7 (by simpa using h), fun h => hF.out.f8 (by simpa using h), fun h => hF.out.f9 (by simpa using h), fun h => hF.out.f10 (by simpa using h), fun h => hF.out.f11 (by simpa using h), fun h => hF.out.f12 (by simpa using h), fun h => hF.out.f13 (by simpa using h), fun h => hF.out.f14 (by simpa using h), fun h => hF.out.f15 (by simpa using h), fun i hi h => by have := hF.out.ol i hi (by simpa using h); simp [this], fun h => by have := hF.out.cA (by simpa using h); simpa using this, fun h => hF.out.kp (by simpa using h), fun h => hF.out.r0 (by simpa using h), fun h h2 => hF.out.b0 (by simpa using h) (by simpa using h2), fun h h2 => hF.out.r1 (by simpa using h) (by simpa using h2), fun h => hF.out.fin (by simpa using h)⟩
              · intro d a W hI hd hdep
                obtain ⟨gb2, gr, cr, x48, x49, x50, x51, x52, x53, x54, x55, x56, x57, x58, x59, x60, x61, x62, rfl, hF⟩ := hI
                have hd1 : d 1 = true := dep_of hdep 1 (by kernel_rfl)
                obtain rfl := hF.out.f1 hd1
                have HNL : Hid (d 15 = false) := no_later (hF.out.ol 2 (by omega)) hd
                have hkp := hF.out.kp HNL.out
                have y2 := mcell_blk ((hkp.block q HIB.out.1 HIB.out.2.1).trans HIB.out.2.2) 2
                simp only [List.getElem?_toArray, List.getElem?_cons_zero, List.getElem?_cons_succ] at y2
                clear hkp
                clear hdep hd hd1
                intro K hK
                simp only [Act.put, List.setIfInBounds_toArray, List.set_cons_zero, List.set_cons_succ]
                go_simp
                refine hK.out _ _ ⟨gb2, gr, cr, x48, (.pointer (some ⟨q, 2, none⟩)), (.int .i64 (lk : Int)), x51, x52, x53, x54, x55, x56, x57, x58, x59, x60, x61, x62, by first | (simp only [Act.put, List.setIfInBounds_toArray, List.set_cons_zero, List.set_cons_succ]; done) | (simp only [Act.put, List.setIfInBounds_toArray, List.set_cons_zero, List.set_cons_succ]; rfl), ?_⟩
                exact ⟨fun h => hF.out.f0 (by simpa using h), fun h => hF.out.f1 (by simpa using h), fun _ => rfl, fun h => hF.out.f3 (by simpa using h), fun h => hF.out.f4 (by simpa using h), fun h => hF.out.f5 (by simpa using h), fun h => hF.out.f6 (by simpa using h), fun h => hF.out.f7 (by simpa using h), fun h => hF.out.f8 (by simpa using h), fun h => hF.out.f9 (by simpa using h), fun h => hF.out.f10 (by simpa using h), fun h => hF.out.f11 (by simpa using h), fun h => hF.out.f12 (by simpa using h), fun h => hF.out.f13 (by simpa using h), fun h => hF.out.f14 (by simpa using h), fun h => hF.out.f15 (by simpa using h), fun i hi h => by have := hF.out.ol i hi (by simpa using h); simp [this], fun h => by have := hF.out.cA (by simpa using h); simpa using this, fun h => hF.out.kp (by simpa using h), fun h => hF.out.r0 (by simpa using h), fun h h2 => hF.out.b0 (by simpa using h) (by simpa using h2), fun h h2 => hF.out.r1 (by simpa using h) (by simpa using h2), fun h => hF.out.fin (by simpa using h)⟩
              · intro d a W hI hd hdep
                obtain ⟨gb2, gr, cr, x48, x49, x50, x51, x52, x53, x54, x55, x56, x57, x58, x59, x60, x61, x62, rfl, hF⟩ := hI
                clear hdep hd
                intro K hK
                simp only [Act.put, List.setIfInBounds_toArray, List.set_cons_zero, List.set_cons_succ]
                go_simp
                refine hK.out _ _ ⟨gb2, gr, cr, x48, x49, x50, (.slice (some ⟨ob, 0, none⟩) (T + 1) (T + 1)), x52, x53, x54, x55, x56, x57, x58, x59, x60, x61, x62, by first | (simp only [Act.put, List.setIfInBounds_toArray, List.set_cons_zero, List.set_cons_succ]; done) | (simp only [Act.put, List.setIfInBounds_toArray, List.set_cons_zero, List.set_cons_succ]; rfl), ?_⟩
                exact ⟨fun h => hF.out.f0 (by simpa using h), fun h => hF.out.f1 (by simpa using h), fun h => hF.out.f2 (by simpa using h), fun _ => rfl, fun h => hF.out.f4 (by simpa using h), fun h => hF.out.f5 (by simpa using h), fun h => hF.out.f6 (by simpa using h), fun h => hF.out.f7 (by simpa using h), fun h => hF.out.f8 (by simpa using h), fun h => hF.out.f9 (by simpa using h), fun h => hF.out.f10 (by simpa using h), fun h => hF.out.f11 (by simpa using h), fun h => hF.out.f12 (by simpa using h), fun h => hF.out.f13 (by simpa using h), fun h => hF.out.f14 (by simpa using h), fun h => hF.out.f15 (by simpa using h), fun i hi h => by have := hF.out.ol i hi (by simpa using h); simp [this], fun h => by have := hF.out.cA (by simpa using h); simpa using this, fun h => hF.out.kp (by simpa using h), fun h => hF.out.r0 (by simpa using h), fun h h2 => hF.out.b0 (by simpa using h) (by simpa using h2), fun h h2 => hF.out.r1 (by simpa using h) (by simpa using h2), fun h => hF.out.fin (by simpa using h)⟩
              · intro d a W hI hd hdep
                obtain ⟨gb2, gr, cr, x48, x49, x50, x51, x52, x53, x54, x55, x56, x57, x58, x59, x60, x61, x62, rfl, hF⟩ := hI
                clear hdep hd
                intro K hK
                simp only [Act.put, List.setIfInBounds_toArray, List.set_cons_zero, List.set_cons_succ]
                go_simp
                refine hK.out _ _ ⟨gb2, gr, cr, x48, x49, x50, x51, (.pointer (some ⟨q, 2, none⟩)), x53, x54, x55, x56, x57, x58, x59, x60, x61, x62, by first | (simp only [Act.put, List.setIfInBounds_toArray, List.set_cons_zero, List.set_cons_succ]; done) | (simp only [Act.put, List.setIfInBounds_toArray, List.set_cons_zero, List.set_cons_succ]; rfl), ?_⟩
                exact ⟨fun h => hF.out.f0 (by simpa using h), fun h => hF.out.f1 (by simpa using h), fun h => hF.out.f2 (by simpa using h), fun h => hF.out.f3 (by simpa using h), fun _ => rfl, fun h => hF.out.f5 (by simpa using h), fun h => hF.out.f6 (by simpa using h), fun h => hF.out.f7 (by simpa using h), fun h => hF.out.f8 (by simpa using h), fun h => hF.out.f9 (by simpa using h), fun h => hF.out.f10 (by simpa using h), fun h => hF.out.f11 (by simpa using h), fun h => hF.out.f12 (by simpa using h), fun h => hF.out.f13 (by simpa using h), fun h => hF.out.f14 (by simpa using h), fun h => hF.out.f15 (by simpa using h), fun i hi h => by have := hF.out.ol i hi (by simpa using h); simp [this], fun h => by have := hF.out.cA (by simpa using h); simpa using this, fun h => hF.out.kp (by simpa using h), fun h => hF.out.r0 (by simpa using h), fun h h2 => hF.out.b0 (by simpa using h) (by simpa using h2), fun h h2 => hF.out.r1 (by simpa using h) (by simpa using h2), fun h => hF.out.fin (by simpa using h)⟩
              · intro d a W hI hd hdep
                obtain ⟨gb2, gr, cr, x48, x49, x50, x51, x52, x53, x54, x55, x56, x57, x58, x59, x60, x61, x62, rfl, hF⟩ := hI
                have hd4 : d 4 = true := dep_of hdep 4 (by kernel_rfl)
                obtain rfl := hF.out.f4 hd4
                have HNL : Hid (d 15 = false) := no_later (hF.out.ol 5 (by omega)) hd
                have hkp := hF.out.kp HNL.out
                have y2 := mcell_blk ((hkp.block q HIB.out.1 HIB.out.2.1).trans HIB.out.2.2) 2
                simp only [List.getElem?_toArray, List.getElem?_cons_zero, List.getElem?_cons_succ] at y2
                clear hkp
                clear hdep hd hd4
                intro K hK
                simp only [Act.put, List.setIfInBounds_toArray, List.set_cons_zero, List.set_cons_succ]
                go_simp
                refine hK.out _ _ ⟨gb2, gr, cr, x48, x49, x50, x51, (.pointer (some ⟨q, 2, none⟩)), (.int .i64 (lk : Int)), x54, x55, x56, x57, x58, x59, x60, x61, x62, by first | (simp only [Act.put, List.setIfInBounds_toArray, List.set_cons_zero, List.set_cons_succ]; done) | (simp only [Act.put, List.setIfInBounds_toArray, List.set_cons_zero, List.set_cons_succ]; rfl), ?_⟩
                exact ⟨fun h => hF.out.f0 (by simpa using h), fun h => hF.out.f1 (by simpa using h), fun h => hF.out.f2 (by simpa using h), fun h => hF.out.f3 (by simpa using h), fun h => hF.out.f4 (by simpa using h), fun _ => rfl, fun h => hF.out.f6 (by simpa using h), fun h => hF.out.f7 (by simpa using h), fun h => hF.out.f8 (by simpa using h), fun h => hF.out.f9 (by simpa using h), fun h => hF.out.f10 (by simpa using h), fun h => hF.out.f11 (by simpa using h), fun h => hF.out.f12 (by simpa using h), fun h => hF.out.f13 (by simpa using h), fun h => hF.out.f14 (by simpa using h), fun h => hF.out.f15 (by simpa using h), fun i hi h => by have := hF.out.ol i hi (by simpa using h); simp [this], fun h => by have := hF.out.cA (by simpa using h); simpa using this, fun h => hF.out.kp (by simpa using h), fun h => hF.out.r0 (by simpa using h), fun h h2 => hF.out.b0 (by simpa using h) (by simpa using h2), fun h h2 => hF.out.r1 (by simpa using h) (by simpa using h2), fun h => hF.out.fin (by simpa using h)⟩
              · intro d a W hI hd hdep
                obtain ⟨gb2, gr, cr, x48, x49, x50, x51, x52, x53, x54, x55, x56, x57, x58, x59, x60, x61, x62, rfl, hF⟩ := hI
                have hd3 : d 3 = true := dep_of hdep 3 (by kernel_rfl)
                have hd5 : d 5 = true := dep_of hdep 5 (by kernel_rfl)
                obtain rfl := hF.out.f3 hd3
                obtain rfl := hF.out.f5 hd5
                have hi0 : (0 : Int) ≤ (lk : Int) := by omega
                have hi1 : (lk : Int) < (T : Int) + 1 := by have := HLK.out; omega
                clear hdep hd hd3 hd5
                intro K hK
                simp only [Act.put, List.setIfInBounds_toArray, List.set_cons_zero, List.set_cons_succ]
                go_simp
                refine hK.out _ _ ⟨gb2, gr, cr, x48, x49, x50, (.slice (some ⟨ob, 0, none⟩) (T + 1) (T + 1)), x52, (.int .i64 (lk : Int)), (.pointer (some ⟨ob, lk, none⟩)), x55, x56, x57, x58, x59, x60, x61, x62, by first | (simp only [Act.put, List.setIfInBounds_toArray, List.set_cons_zero, List.set_cons_succ]; done) | (simp only [Act.put, List.setIfInBounds_toArray, List.set_cons_zero, List.set_cons_succ]; rfl), ?_⟩
                exact ⟨fun h => hF.out.f0 (by simpa using h), fun h => hF.out.f1 (by simpa using h), fun h => hF.out.f2 (by simpa using h), fun h => hF.out.f3 (by simpa using h), fun h => hF.out.f4 (by simpa using h), fun h => hF.out.f5 (by simpa using h), fun _ => rfl, fun h => hF.out.f7 (by simpa using h), fun h => hF.out.f8 (by simpa using h), fun h => hF.out.f9 (by simpa using h), fun h => hF.out.f10 (by simpa using h), fun h => hF.out.f11 (by simpa using h), fun h => hF.out.f12 (by simpa using h), fun h => hF.out.f13 (by simpa using h), fun h => hF.out.f14 (by simpa using h), fun h => hF.out.f15 (by simpa using h), fun i hi h => by have := hF.out.ol i hi (by simpa using h); simp [this], fun h => by have := hF.out.cA (by simpa using h); simpa using this, fun h => hF.out.kp (by simpa using h), fun h => hF.out.r0 (by simpa using h), fun h h2 => hF.out.b0 (by simpa using h) (by simpa using h2), fun h h2 => hF.out.r1 (by simpa using h) (by simpa using h2), fun h => hF.out.fin (by simpa using h)⟩
              · intro d a W hI hd hdep
                obtain ⟨gb2, gr, cr, x48, x49, x50, x51, x52, x53, x54, x55, x56, x57, x58, x59, x60, x61, x62, rfl, hF⟩ := hI
                have hd6 : d 6 = true := dep_of hdep 6 (by kernel_rfl)
                obtain rfl := hF.out.f6 hd6
                have HNL : Hid (d 15 = false) := no_later (hF.out.ol 7 (by omega)) hd
                have hkp := hF.out.kp HNL.out
                have ya : W.cell? ⟨ob, lk, none⟩ = some (.slice va vn vc) := (mgb_old hkp (p := ⟨ob, lk, none⟩) HOB.out.1 HOB.out.2.1).trans HOB.out.2.2.1
                clear hkp
                clear hdep hd hd6
                intro K hK
                simp only [Act.put, List.setIfInBounds_toArray, List.set_cons_zero, List.set_cons_succ]
                go_simp
                refine hK.out _ _ ⟨gb2, gr, cr, x48, x49, x50, x51, x52, x53, (.pointer (some ⟨ob, lk, none⟩)), (.slice va vn vc), x56, x57, x58, x59, x60, x61, x62, by first | (simp only [Act.put, List.setIfInBounds_toArray, List.set_cons_zero, List.set_cons_succ]; done) | (simp only [Act.put, List.setIfInBounds_toArray, List.set_cons_zero, List.set_cons_succ]; rfl), ?_⟩
                exact ⟨fun h => hF.out.f0 (by simpa using h), fun h => hF.out.f1 (by simpa using h), fun h => hF.out.f2 (by simpa using h), fun h => hF.out.f3 (by simpa using h), fun h => hF.out.f4 (by simpa using h), fun h => hF.out.f5 (by simpa using h), fun h => hF.out.f6 (by simpa using h), fun _ => rfl, fun h => hF.out.f8 (by simpa using h), fun h => hF.out.f9 (by simpa using h), fun h => hF.out.f10 (by simpa using h), fun h => hF.out.f11 (by simpa using h), fun h => hF.out.f12 (by simpa using h), fun h => hF.out.f13 (by simpa using h), fun h => hF.out.f14 (by simpa using h), fun h => hF.out.f15 (by simpa using h), fun i hi h => by have := hF.out.ol i hi (by simpa using h); simp [this], fun h => by have := hF.out.cA (by simpa using h); simpa using this, fun h => hF.out.kp (by simpa using h), fun h => hF.out.r0 (by simpa using h), fun h h2 => hF.out.b0 (by simpa using h) (by simpa using h2), fun h h2 => hF.out.r1 (by simpa using h) (by simpa using h2), fun h => hF.out.fin (by simpa using h)⟩
              · intro d a W hI hd hdep
                obtain ⟨gb2, gr, cr, x48, x49, x50, x51, x52, x53, x54, x55, x56, x57, x58, x59, x60, x61, x62, rfl, hF⟩ := hI
                have HNL : Hid (d 15 = false) := no_later (hF.out.ol 8 (by omega)) hd
                have hkp := hF.out.kp HNL.out
                have y0 : W.cell? ⟨w.heap.size, 0, none⟩ = some (.int .i64 (T : Int)) := (mgb_old hkp (p := ⟨w.heap.size, 0, none⟩) HGBX.out.1 HGBX.out.2.1).trans HGBX.out.2.2.1
                have y1 : W.cell? ⟨w.heap.size, 1, none⟩ = some (.int .i64 (n : Int)) := (mgb_old hkp (p := ⟨w.heap.size, 1, none⟩) HGBX.out.1 HGBX.out.2.1).trans HGBX.out.2.2.2.1
                have y2 : W.cell? ⟨w.heap.size, 2, none⟩ = some (.slice po ps.length pc) := (mgb_old hkp (p := ⟨w.heap.size, 2, none⟩) HGBX.out.1 HGBX.out.2.1).trans HGBX.out.2.2.2.2
                clear hkp
                clear hdep hd
                intro K hK
                simp only [Act.put, List.setIfInBounds_toArray, List.set_cons_zero, List.set_cons_succ]
                go_simp
                refine hK.out _ _ ⟨gb2, gr, cr, x48, x49, x50, x51, x52, x53, x54, x55, (.agg #[.int .i64 (T : Int), .int .i64 (n : Int), .slice po ps.length pc]), x57, x58, x59, x60, x61, x62, by first | (simp only [Act.put, List.setIfInBounds_toArray, List.set_cons_zero, List.set_cons_succ]; done) | (simp only [Act.put, List.setIfInBounds_toArray, List.set_cons_zero, List.set_cons_succ]; rfl), ?_⟩
                exact ⟨fun h => hF.out.f0 (by simpa using h), fun h => hF.out.f1 (by simpa using h), fun h => hF.out.f2 (by simpa using h), fun h => hF.out.f3 (by simpa using h), fun h => hF.out.f4 (by simpa using h), fun h => hF.out.f5 (by simpa using h), fun h => hF.out.f6 (by simpa using h), fun h => hF.out.f7 (by simpa using h), fun _ => rfl, fun h => hF.out.f9 (by simpa using h), fun h => hF.out.f10 (by simpa using h), fun h => hF.out.f11 (by simpa using h), fun h => hF.out.f12 (by simpa using h), fun h => hF.out.f13 (by simpa using h), fun h => hF.out.f14 (by simpa using h), fun h => hF.out.f15 (by simpa using h), fun i hi h => by have := hF.out.ol i hi (by simpa using h); simp [this], fun h => by have := hF.out.cA (by simpa using h); simpa using this, fun h => hF.out.kp (by simpa using h), fun h => hF.out.r0 (by simpa using h), fun h h2 => hF.out.b0 (by simpa using h) (by simpa using h2), fun h h2 => hF.out.r1 (by simpa using h) (by simpa using h2), fun h => hF.out.fin (by simpa using h)⟩
              · intro d a W hI hd hdep
                obtain ⟨gb2, gr, cr, x48, x49, x50, x51, x52, x53, x54, x55, x56, x57, x58, x59, x60, x61, x62, rfl, hF⟩ := hI
                clear hdep hd
                intro K hK
                simp only [Act.put, List.setIfInBounds_toArray, List.set_cons_zero, List.set_cons_succ]
                go_simp
                refine hK.out _ _ ⟨gb2, gr, cr, x48, x49, x50, x51, x52, x53, x54, x55, x56, (.pointer (some ⟨q, 0, none⟩)), x58, x59, x60, x61, x62, by first | (simp only [Act.put, List.setIfInBounds_toArray, List.set_cons_zero, List.set_cons_succ]; done) | (simp only [Act.put, List.setIfInBounds_toArray, List.set_cons_zero, List.set_cons_succ]; rfl), ?_⟩
                exact ⟨fun h => hF.out.f0 (by simpa using h), fun h => hF.out.f1 (by simpa using h), fun h => hF.out.f2 (by simpa using h), fun h => hF.out.f3 (by simpa using h), fun h => hF.out.f4 (by simpa using h), fun h => hF.out.f5 (by simpa using h), fun h => hF.out.f6 (by simpa using h), fun h => hF.out.f7 (by simpa using h), fun h => hF.out.f8 (by simpa using h), fun _ => rfl, fun h => hF.out.f10 (by simpa using h), fun h => hF.out.f11 (by simpa using h), fun h => hF.out.f12 (by simpa using h), fun h => hF.out.f13 (by simpa using h), fun h => hF.out.f14 (by simpa using h), fun h => hF.out.f15 (by simpa using h), fun i hi h => by have := hF.out.ol i hi (by simpa using h); simp [this], fun h => by have := hF.out.cA (by simpa using h); simpa using this, fun h => hF.out.kp (by simpa using h), fun h => hF.out.r0 (by simpa using h), fun h h2 => hF.out.b0 (by simpa using h) (by simpa using h2), fun h h2 => hF.out.r1 (by simpa using h) (by simpa using h2), fun h => hF.out.fin (by simpa using h)⟩
              · intro d a W hI hd hdep
                obtain ⟨gb2, gr, cr, x48, x49, x50, x51, x52, x53, x54, x55, x56, x57, x58, x59, x60, x61, x62, rfl, hF⟩ := hI
                have hd9 : d 9 = true := dep_of hdep 9 (by kernel_rfl)
                obtain rfl := hF.out.f9 hd9
                have HNL : Hid (d 15 = false) := no_later (hF.out.ol 10 (by omega)) hd
                have hkp := hF.out.kp HNL.out
                have y0 := mcell_blk ((hkp.block q HIB.out.1 HIB.out.2.1).trans HIB.out.2.2) 0
                simp only [List.getElem?_toArray, List.getElem?_cons_zero] at y0
                clear hkp
                clear hdep hd hd9
                intro K hK
                simp only [Act.put, List.setIfInBounds_toArray, List.set_cons_zero, List.set_cons_succ]
                go_simp
                refine hK.out _ _ ⟨gb2, gr, cr, x48, x49, x50, x51, x52, x53, x54, x55, x56, (.pointer (some ⟨q, 0, none⟩)), (.int .i64 (pr : Int)), x59, x60, x61, x62, by first | (simp only [Act.put, List.setIfInBounds_toArray, List.set_cons_zero, List.set_cons_succ]; done) | (simp only [Act.put, List.setIfInBounds_toArray, List.set_cons_zero, List.set_cons_succ]; rfl), ?_⟩
                exact ⟨fun h => hF.out.f0 (by simpa using h), fun h => hF.out.f1 (by simpa using h), fun h => hF.out.f2 (by simpa using h), fun h => hF.out.f3 (by simpa using h), fun h => hF.out.f4 (by simpa using h), fun h => hF.out.f5 (by simpa using h), fun h => hF.out.f6 (by simpa using h), fun h => hF.out.f7 (by simpa using h), fun h => hF.out.f8 (by simpa using h), fun h => hF.out.f9 (by simpa using h), fun _ => rfl, fun h => hF.out.f11 (by simpa using h), fun h => hF.out.f12 (by simpa using h), fun h => hF.out.f13 (by simpa using h), fun h => hF.out.f14 (by simpa using h), fun h => hF.out.f15 (by simpa using h), fun i hi h => by have := hF.out.ol i hi (by simpa using h); simp [this], fun h => by have := hF.out.cA (by simpa using h); simpa using this, fun h => hF.out.kp (by simpa using h), fun h => hF.out.r0 (by simpa using h), fun h h2 => hF.out.b0 (by simpa using h) (by simpa using h2), fun h h2 => hF.out.r1 (by simpa using h) (by simpa using h2), fun h => hF.out.fin (by simpa using h)⟩
              · intro d a W hI hd hdep
                obtain ⟨gb2, gr, cr, x48, x49, x50, x51, x52, x53, x54, x55, x56, x57, x58, x59, x60, x61, x62, rfl, hF⟩ := hI
                have hd8 : d 8 = true := dep_of hdep 8 (by kernel_rfl)
                have hd10 : d 10 = true := dep_of hdep 10 (by kernel_rfl)
                obtain rfl := hF.out.f8 hd8
                obtain rfl := hF.out.f10 hd10
                have HNL : Hid (d 15 = false) := no_later (hF.out.ol 11 (by omega)) hd
                have hkp := hF.out.kp HNL.out
                have hcall := HCL.out W hkp
                clear hdep hd hd8 hd10
                intro K hK
                simp only [Act.put, List.setIfInBounds_toArray, List.set_cons_zero, List.set_cons_succ]
                go_simp
                refine hcall.mono ?_
                rintro _ W2 ⟨rfl, hb9⟩
                clear hcall
                go_simp
                refine hK.out _ _ ⟨gb2, gr, cr, x48, x49, x50, x51, x52, x53, x54, x55, (.agg #[.int .i64 (T : Int), .int .i64 (n : Int), .slice po ps.length pc]), x57, (.int .i64 (pr : Int)), (.agg #[.int .i64 ax0, .int .i64 ax1]), x60, x61, x62, by first | (simp only [Act.put, List.setIfInBounds_toArray, List.set_cons_zero, List.set_cons_succ]; done) | (simp only [Act.put, List.setIfInBounds_toArray, List.set_cons_zero, List.set_cons_succ]; rfl), ?_⟩
                exact ⟨fun h => hF.out.f0 (by simpa using h), fun h => hF.out.f1 (by simpa using h), fun h => hF.out.f2 (by simpa using h), fun h => hF.out.f3 (by simpa using h), fun h => hF.out.f4 (by simpa using h), fun h => hF.out.f5 (by simpa using h), fun h => hF.out.f6 (by simpa using h), fun h => hF.out.f7 (by simpa using h), fun h => hF.out.f8 (by simpa using h), fun h => hF.out.f9 (by simpa using h), fun h => hF.out.f10 (by simpa using h), fun _ => rfl, fun h => hF.out.f12 (by simpa using h), fun h => hF.out.f13 (by simpa using h), fun h => hF.out.f14 (by simpa using h), fun h => hF.out.f15 (by simpa using h), fun i hi h => by have := hF.out.ol i hi (by simpa using h); simp [this], fun h => by have := hF.out.cA (by simpa using h); simpa using this, fun _ => mgb_below (hF.out.kp HNL.out) hb9, fun h => own_below (hF.out.r0 (by simpa using h)) hb9, fun h h2 => mbox_next (hF.out.b0 (by simpa using h) (by simpa using h2)) hb9, fun h h2 => ⟨own_below (hF.out.r1 (by simpa using h) (by simpa using h2)).1 hb9, (hF.out.r1 (by simpa using h) (by simpa using h2)).2⟩, fun h => by have := HNL.out; simp [this] at h⟩
              · intro d a W hI hd hdep
                obtain ⟨gb2, gr, cr, x48, x49, x50, x51, x52, x53, x54, x55, x56, x57, x58, x59, x60, x61, x62, rfl, hF⟩ := hI
                have hd11 : d 11 = true := dep_of hdep 11 (by kernel_rfl)
                obtain rfl := hF.out.f11 hd11
                have HNL : Hid (d 15 = false) := no_later (hF.out.ol 12 (by omega)) hd
                have hkp := hF.out.kp HNL.out
                have HN8 : Hid (d 13 = false) := no_later hF.out.cA hd
                clear hdep hd hd11
                intro K hK
                simp only [Act.put, List.setIfInBounds_toArray, List.set_cons_zero, List.set_cons_succ]
                go_simp
                refine hK.out _ _ ⟨W.heap.size, gr, cr, x48, x49, x50, x51, x52, x53, x54, x55, x56, x57, x58, (.agg #[.int .i64 ax0, .int .i64 ax1]), (.slice (some ⟨W.heap.size, 0, none⟩) 1 1), x61, x62, by first | (simp only [Act.put, List.setIfInBounds_toArray, List.set_cons_zero, List.set_cons_succ]; done) | (simp only [Act.put, List.setIfInBounds_toArray, List.set_cons_zero, List.set_cons_succ]; rfl), ?_⟩
                exact ⟨fun h => hF.out.f0 (by simpa using h), fun h => hF.out.f1 (by simpa using h), fun h => hF.out.f2 (by simpa using h), fun h => hF.out.f3 (by simpa using h), fun h => hF.out.f4 (by simpa using h), fun h => hF.out.f5 (by simpa using h), fun h => hF.out.f6 (by simpa using h), fun h => hF.out.f7 (by simpa using h), fun h => hF.out.f8 (by simpa using h), fun h => hF.out.f9 (by simpa using h), fun h => hF.out.f10 (by simpa using h), fun h => hF.out.f11 (by simpa using h), fun _ => rfl, fun h => by have := HN8.out; simp [this] at h, fun h => hF.out.f14 (by simpa using h), fun h => hF.out.f15 (by simpa using h), fun i hi h => by have := hF.out.ol i hi (by simpa using h); simp [this], fun _ => by simp, fun _ => mgb_alloc (hF.out.kp HNL.out) _, fun _ => (hF.out.r0 HN8.out).alloc _, fun _ _ => heap_alloc_new _ _, fun h => by have := HN8.out; simp [this] at h, fun h => by have := HNL.out; simp [this] at h⟩
              · intro d a W hI hd hdep
                obtain ⟨gb2, gr, cr, x48, x49, x50, x51, x52, x53, x54, x55, x56, x57, x58, x59, x60, x61, x62, rfl, hF⟩ := hI
                have hd7 : d 7 = true := dep_of hdep 7 (by kernel_rfl)
                have hd12 : d 12 = true := dep_of hdep 12 (by kernel_rfl)
                have hd11 : d 11 = true := dep_of hdep 11 (by kernel_rfl)
                obtain rfl := hF.out.f7 hd7
                obtain rfl := hF.out.f12 hd12
                obtain rfl := hF.out.f11 hd11
                have HNL : Hid (d 15 = false) := no_later (hF.out.ol 13 (by omega)) hd
                have hkp := hF.out.kp HNL.out
                have HD7 : Hid (d 12 = true) := hd12
                have hm := run_append_lies (P := Try.prog) W 84 84 (w.heap.size + 1) 104 i1 _ 2 16 Try.underlying84 hi1 hy0 hy1 hy2 rfl (by omega) (.slice va vn vc) vn (acl M) (hF.out.r0 hd) ⟨gb2, 0, none⟩ 1 1 [.int .i64 ax0, .int .i64 ax1] rfl (World.news_of_block (t := 104) (fr := (0, 0)) (hF.out.b0 hd12 hd)) (by simp [Value.oneCell']) (by omega) (by unfold maxLen; have := HBOUND.out; omega) (by have := HBOUND.out; omega) (Nat.le_trans HBW.out hkp.size) W.heap.size rfl
                have hmm := hm.choose_spec.choose_spec.choose_spec
                generalize hm.choose_spec.choose_spec.choose = W1 at hmm
                generalize hm.choose_spec.choose = cr1 at hmm
                generalize hm.choose = gr1 at hmm
                have hrun := hmm.1
                have HM : Hid (W1.ownsRow (w.heap.size + 1) 104 2 (.slice (some ⟨gr1, 0, none⟩) (vn + 1) cr1) (vn + 1) ((acl M) ++ [.int .i64 ax0, .int .i64 ax1]) ∧ W.grownBy W1 (Value.ownBlock (.slice va vn vc)) ∧ ((Value.ownBlock (.slice va vn vc)) = some gr1 ∨ w3.heap.size ≤ gr1)) := ⟨hmm.2.1, hmm.2.2.1, hmm.2.2.2.1.imp id (fun e => by rw [e]; exact hkp.size)⟩
                clear hmm hm hkp
                clear hdep hd hd7 hd12 hd11
                intro K hK
                refine step_call_append (sv := (.slice va vn vc)) (xv := (.slice (some ⟨gb2, 0, none⟩) 1 1)) (v := (.slice (some ⟨gr1, 0, none⟩) (vn + 1) cr1)) (W1 := W1) (by rfl) _ _ 84 (by rfl) (by first | (simp only [Act.put, List.setIfInBounds_toArray, List.set_cons_zero, List.set_cons_succ]; done) | (simp only [Act.put, List.setIfInBounds_toArray, List.set_cons_zero, List.set_cons_succ]; rfl)) (by first | (simp only [Act.put, List.setIfInBounds_toArray, List.set_cons_zero, List.set_cons_succ]; done) | (simp only [Act.put, List.setIfInBounds_toArray, List.set_cons_zero, List.set_cons_succ]; rfl)) (by exact hrun) ?_
                simp only [Act.put, List.setIfInBounds_toArray, List.set_cons_zero, List.set_cons_succ]
                refine hK.out _ _ ⟨gb2, gr1, cr1, x48, x49, x50, x51, x52, x53, x54, (.slice va vn vc), x56, x57, x58, (.agg #[.int .i64 ax0, .int .i64 ax1]), (.slice (some ⟨gb2, 0, none⟩) 1 1), (.slice (some ⟨gr1, 0, none⟩) (vn + 1) cr1), x62, by first | (simp only [Act.put, List.setIfInBounds_toArray, List.set_cons_zero, List.set_cons_succ]; done) | (simp only [Act.put, List.setIfInBounds_toArray, List.set_cons_zero, List.set_cons_succ]; rfl), ?_⟩
                exact ⟨fun h => hF.out.f0 (by simpa using h), fun h => hF.out.f1 (by simpa using h), fun h => hF.out.f2 (by simpa using h), fun h => hF.out.f3 (by simpa using h), fun h => hF.out.f4 (by simpa using h), fun h => hF.out.f5 (by simpa using h), fun h => hF.out.f6 (by simpa using h), fun h => hF.out.f7 (by simpa using h), fun h => hF.out.f8 (by simpa using h), fun h => hF.out.f9 (by simpa using h), fun h => hF.out.f10 (by simpa using h), fun h => hF.out.f11 (by simpa using h), fun h => hF.out.f12 (by simpa using h), fun _ => rfl, fun h => hF.out.f14 (by simpa using h), fun h => hF.out.f15 (by simpa using h), fun i hi h => by have := hF.out.ol i hi (by simpa using h); simp [this], fun _ => by simpa using HD7.out, fun _ => mgb_then (hF.out.kp HNL.out) HM.out.2.1, fun h => by simp at h, fun _ h => by simp at h, fun _ _ => ⟨HM.out.1, HM.out.2.2⟩, fun h => by have := HNL.out; simp [this] at h⟩
              · intro d a W hI hd hdep
                obtain ⟨gb2, gr, cr, x48, x49, x50, x51, x52, x53, x54, x55, x56, x57, x58, x59, x60, x61, x62, rfl, hF⟩ := hI
                have hd0 : d 0 = true := dep_of hdep 0 (by kernel_rfl)
                have hd2 : d 2 = true := dep_of hdep 2 (by kernel_rfl)
                obtain rfl := hF.out.f0 hd0
                obtain rfl := hF.out.f2 hd2
                have hi0 : (0 : Int) ≤ (lk : Int) := by omega
                have hi1 : (lk : Int) < (T : Int) + 1 := by have := HLK.out; omega
                clear hdep hd hd0 hd2
                intro K hK
                simp only [Act.put, List.setIfInBounds_toArray, List.set_cons_zero, List.set_cons_succ]
                go_simp
                refine hK.out _ _ ⟨gb2, gr, cr, (.slice (some ⟨ob, 0, none⟩) (T + 1) (T + 1)), x49, (.int .i64 (lk : Int)), x51, x52, x53, x54, x55, x56, x57, x58, x59, x60, x61, (.pointer (some ⟨ob, lk, none⟩)), by first | (simp only [Act.put, List.setIfInBounds_toArray, List.set_cons_zero, List.set_cons_succ]; done) | (simp only [Act.put, List.setIfInBounds_toArray, List.set_cons_zero, List.set_cons_succ]; rfl), ?_⟩
                exact ⟨fun h => hF.out.f0 (by simpa using h), fun h => hF.out.f1 (by simpa using h), fun h => hF.out.f2 (by simpa using h), fun h => hF.out.f3 (by simpa using h), fun h => hF.out.f4 (by simpa using h), fun h => hF.out.f5 (by simpa using h), fun h => hF.out.f6 (by simpa using h), fun h => hF.out.f7 (by simpa using h), fun h => hF.out.f8 (by simpa using h), fun h => hF.out.f9 (by simpa using h), fun h => hF.out.f10 (by simpa using h), fun h => hF.out.f11 (by simpa using h), fun h => hF.out.f12 (by simpa using h), fun h => hF.out.f13 (by simpa using h), fun _ => rfl, fun h => hF.out.f15 (by simpa using h), fun i hi h => by have := hF.out.ol i hi (by simpa using h); simp [this], fun h => by have := hF.out.cA (by simpa using h); simpa using this, fun h => hF.out.kp (by simpa using h), fun h => hF.out.r0 (by simpa using h), fun h h2 => hF.out.b0 (by simpa using h) (by simpa using h2), fun h h2 => hF.out.r1 (by simpa using h) (by simpa using h2), fun h => hF.out.fin (by simpa using h)⟩
              · intro d a W hI hd hdep
                obtain ⟨gb2, gr, cr, x48, x49, x50, x51, x52, x53, x54, x55, x56, x57, x58, x59, x60, x61, x62, rfl, hF⟩ := hI
                have hd14 : d 14 = true := dep_of hdep 14 (by kernel_rfl)
                have hd0 : d 0 = true := dep_of hdep 0 (by kernel_rfl)
                have hd1 : d 1 = true := dep_of hdep 1 (by kernel_rfl)
                have hd2 : d 2 = true := dep_of hdep 2 (by kernel_rfl)
                have hd3 : d 3 = true := dep_of hdep 3 (by kernel_rfl)
                have hd4 : d 4 = true := dep_of hdep 4 (by kernel_rfl)
                have hd5 : d 5 = true := dep_of hdep 5 (by kernel_rfl)
                have hd6 : d 6 = true := dep_of hdep 6 (by kernel_rfl)
                have hd7 : d 7 = true := dep_of hdep 7 (by kernel_rfl)
                have hd8 : d 8 = true := dep_of hdep 8 (by kernel_rfl)
                have hd9 : d 9 = true := dep_of hdep 9 (by kernel_rfl)
                have hd10 : d 10 = true := dep_of hdep 10 (by kernel_rfl)
                have hd11 : d 11 = true := dep_of hdep 11 (by kernel_rfl)
                have hd12 : d 12 = true := dep_of hdep 12 (by kernel_rfl)
                have hd13 : d 13 = true := dep_of hdep 13 (by kernel_rfl)
                obtain rfl := hF.out.f14 hd14
                obtain rfl := hF.out.f0 hd0
                obtain rfl := hF.out.f1 hd1
                obtain rfl := hF.out.f2 hd2
                obtain rfl := hF.out.f3 hd3
                obtain rfl := hF.out.f4 hd4
                obtain rfl := hF.out.f5 hd5
                obtain rfl := hF.out.f6 hd6
                obtain rfl := hF.out.f7 hd7
                obtain rfl := hF.out.f8 hd8
                obtain rfl := hF.out.f9 hd9
                obtain rfl := hF.out.f10 hd10
                obtain rfl := hF.out.f11 hd11
                obtain rfl := hF.out.f12 hd12
                obtain rfl := hF.out.f13 hd13
                have HD : Hid (∀ i, i < 15 → d i = true) := fun i hi => by
                  have : i = 0 ∨ i = 1 ∨ i = 2 ∨ i = 3 ∨ i = 4 ∨ i = 5 ∨ i = 6 ∨ i = 7 ∨ i = 8 ∨ i = 9 ∨ i = 10 ∨ i = 11 ∨ i = 12 ∨ i = 13 ∨ i = 14 := by omega
                  rcases this with rfl | rfl | rfl | rfl | rfl | rfl | rfl | rfl | rfl | rfl | rfl | rfl | rfl | rfl | rfl <;> assumption
                have HKP : Hid (w3.grownBy W (Value.ownBlock (.slice va vn vc))) := hF.out.kp hd
                have HR1 : Hid (W.ownsRow (w.heap.size + 1) 104 2 (.slice (some ⟨gr, 0, none⟩) (vn + 1) cr) (vn + 1) ((acl M) ++ [.int .i64 ax0, .int .i64 ax1]) ∧ ((Value.ownBlock (.slice va vn vc)) = some gr ∨ w3.heap.size ≤ gr)) := hF.out.r1 hd13 hd
                have ya : W.cell? ⟨ob, lk, none⟩ = some (.slice va vn vc) := (mgb_old HKP.out (p := ⟨ob, lk, none⟩) HOB.out.1 HOB.out.2.1).trans HOB.out.2.2.1
                have yb : W.frozen? ⟨ob, lk, none⟩ = false := (World.frozen?_of_block (a := ⟨ob, lk, none⟩) (HKP.out.block ob HOB.out.1 HOB.out.2.1)).trans HOB.out.2.2.2
                clear hdep hd hd14 hd0 hd1 hd2 hd3 hd4 hd5 hd6 hd7 hd8 hd9 hd10 hd11 hd12 hd13
                intro K hK
                simp only [Act.put, List.setIfInBounds_toArray, List.set_cons_zero, List.set_cons_succ]
                go_simp
                refine hK.out _ _ ⟨gb2, gr, cr, (.slice (some ⟨ob, 0, none⟩) (T + 1) (T + 1)), (.pointer (some ⟨q, 2, none⟩)), (.int .i64 (lk : Int)), (.slice (some ⟨ob, 0, none⟩) (T + 1) (T + 1)), (.pointer (some ⟨q, 2, none⟩)), (.int .i64 (lk : Int)), (.pointer (some ⟨ob, lk, none⟩)), (.slice va vn vc), (.agg #[.int .i64 (T : Int), .int .i64 (n : Int), .slice po ps.length pc]), (.pointer (some ⟨q, 0, none⟩)), (.int .i64 (pr : Int)), (.agg #[.int .i64 ax0, .int .i64 ax1]), (.slice (some ⟨gb2, 0, none⟩) 1 1), (.slice (some ⟨gr, 0, none⟩) (vn + 1) cr), (.pointer (some ⟨ob, lk, none⟩)), by first | (simp only [Act.put, List.setIfInBounds_toArray, List.set_cons_zero, List.set_cons_succ]; done) | (simp only [Act.put, List.setIfInBounds_toArray, List.set_cons_zero, List.set_cons_succ]; rfl), ?_⟩
                exact ⟨fun h => hF.out.f0 (by simpa using h), fun h => hF.out.f1 (by simpa using h), fun h => hF.out.f2 (by simpa using h), fun h => hF.out.f3 (by simpa using h), fun h => hF.out.f4 (by simpa using h), fun h => hF.out.f5 (by simpa using h), fun h => hF.out.f6 (by simpa using h), fun h => hF.out.f7 (by simpa using h), fun h => hF.out.f8 (by simpa using h), fun h => hF.out.f9 (by simpa using h), fun h => hF.out.f10 (by simpa using h), fun h => hF.out.f11 (by simpa using h), fun h => hF.out.f12 (by simpa using h), fun h => hF.out.f13 (by simpa using h), fun h => hF.out.f14 (by simpa using h), fun _ => trivial, fun i hi _ => by have := HD.out i hi; simp [this], fun h => by have := hF.out.cA (by simpa using h); simpa using this, fun h => by simp at h, fun h => by have := HD.out 13 (by omega); simp [this] at h, fun _ h => by have := HD.out 13 (by omega); simp [this] at h, fun _ h => by simp at h, fun _ => ⟨W, HKP.out, HR1.out.1, HR1.out.2, rfl⟩⟩
            · intro d a W hI hall
              obtain ⟨gb2, gr, cr, x48, x49, x50, x51, x52, x53, x54, x55, x56, x57, x58, x59, x60, x61, x62, rfl, hF⟩ := hI
              simp only [List.length_cons, List.length_nil] at hall
              obtain rfl := hF.out.f0 (hall 0 (by omega))
              obtain rfl := hF.out.f1 (hall 1 (by omega))
              obtain rfl := hF.out.f2 (hall 2 (by omega))
              obtain rfl := hF.out.f3 (hall 3 (by omega))
              obtain rfl := hF.out.f4 (hall 4 (by omega))
              obtain rfl := hF.out.f5 (hall 5 (by omega))
              obtain rfl := hF.out.f6 (hall 6 (by omega))
              obtain rfl := hF.out.f7 (hall 7 (by omega))
              obtain rfl := hF.out.f8 (hall 8 (by omega))
              obtain rfl := hF.out.f9 (hall 9 (by omega))
              obtain rfl := hF.out.f10 (hall 10 (by omega))
              obtain rfl := hF.out.f11 (hall 11 (by omega))
              obtain rfl := hF.out.f12 (hall 12 (by omega))
              obtain rfl := hF.out.f13 (hall 13 (by omega))
              obtain rfl := hF.out.f14 (hall 14 (by omega))
              obtain ⟨V, g1, g2, g3, rfl⟩ := hF.out.fin (hall 15 (by omega))
              have HNX : Hid (Mz w T n (.slice po ps.length pc) ps ob (upd f lk (.slice (some ⟨gr, 0, none⟩) (vn + 1) cr)) (upd L lk (M ++ [(ax0, ax1)])) (V.setCell ⟨ob, lk, none⟩ (.slice (some ⟨gr, 0, none⟩) (vn + 1) cr))) := by
                refine HMZ.out.put HPD.out HLK.out g1 (g := gr) (by rw [HFV.out]) ?_ (by rw [HFV.out]; exact g3)
                have e1 : (M ++ [(ax0, ax1)]).length = vn + 1 := by rw [List.length_append, HVN.out]; rfl
                have e2 : acl (M ++ [(ax0, ax1)]) = acl M ++ [.int .i64 ax0, .int .i64 ax1] := by rw [acl_app]; rfl
                rw [e1, e2]; exact g2
              clear hF hall g1 g2 g3
              simp only [Act.put, List.setIfInBounds_toArray, List.set_cons_zero, List.set_cons_succ]
              generalize V.setCell ⟨ob, lk, none⟩ (.slice (some ⟨gr, 0, none⟩) (vn + 1) cr) = w5 at HNX ⊢
              go_wp2_with fail
              go_roundw
              case rel => exact ⟨i + 1, by omega, by go_num, upd f lk (.slice (some ⟨gr, 0, none⟩) (vn + 1) cr), HNX.out.congr (fun c => (HSTEP.out c).symm)⟩
              case measure => simp [intOf]; omega
          · have hb : ((x.2.1 : Int) == ((bod ps x.1).length : Int)) = false := by simp; omega
            have HNXT : Hid (∃ f, Mz w T n (.slice po ps.length pc) ps ob f (fun c => shA T nx c ++ rdL ps (s.take (i + 1)) c) w3) := ⟨f, HMZ.out.congr fun c => by rw [HNX0.out c, if_neg (fun e => by simp [doneI] at e; exact hdn e.1), List.append_nil]⟩
            clear hdn HMZ HIB0 HNX0
            go_wp2_with fail
            go_roundw
            case rel => exact ⟨i + 1, by omega, by go_num, HNXT.out⟩
            case measure => simp [intOf]; omega
        · have HFIN : Hid (MbQ w T n (.slice po ps.length pc) ps nx s (.returned (.slice (some ⟨ob, 0, none⟩) (T + 1) (T + 1))) wr) := by
            obtain ⟨f, h⟩ := HI.out
            refine ⟨ob, f, rfl, h.congr fun c => ?_⟩
            rw [List.take_of_length_le (by omega)]; rfl
          have hk1 : ¬ (i : Int) < (s.length : Int) := by omega
          clear HI
          go_wp2_with fail
          go_ret
          exact HFIN.out
end Go.Proofs.Ytpbnnmfjahckmaa
