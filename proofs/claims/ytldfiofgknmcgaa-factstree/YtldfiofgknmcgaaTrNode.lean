/-
  The contract of pushkeep's looker at a node.
-/
import Derived.Test.YtldfiofgknmcgaaTrFact
import Derived.Test.YtldfiofgknmcgaaTrRYield
import Derived.Test.YtldfiofgknmcgaaTrEq
import Derived.Test.YtldfiofgknmcgaaFcOf
namespace Go.Proofs.Ytldfiofgknmcgaa
open Go.RowKit
open Cg

theorem Cg.shL_drop {ps : List Pd} : ∀ (i : Nat) {l : List T} {ss : List Sy}, shL ps l ss = true → shL ps (l.drop i) (ss.drop i) = true
  | 0, l, ss, h => h
  | i + 1, [], ss, h => by rw [shL] at h; simp at h; subst h; simp [shL]
  | i + 1, t :: l, [], h => by rw [shL] at h; simp at h
  | i + 1, t :: l, s :: ss, h => by
    rw [shL] at h; simp at h
    simpa using shL_drop i h.2
theorem Cg.ylL_split (ps : List Pd) : ∀ (i : Nat) (l : List T) (ss : List Sy), ylL ps l ss = ylL ps (l.take i) ss ++ ylL ps (l.drop i) (ss.drop i)
  | 0, l, ss => by simp [ylL]
  | i + 1, [], ss => by simp [ylL]
  | i + 1, t :: l, ss => by
    rw [List.take_succ_cons, List.drop_succ_cons, ylL, ylL, ylL_split ps i l ss.tail, List.append_assoc]
    cases ss <;> simp
theorem wd_div (x : Wd) (k : Nat) : ((x.toNat : Int) / 2 ^ k) = ((x.toNat / 2 ^ k : Nat) : Int) := by simp
theorem wd_bit (x : Wd) (k : Nat) : x.getLsbD k = decide (x.toNat / 2 ^ k % 2 = 1) := by
  rw [BitVec.getLsbD, Nat.testBit_eq_decide_div_mod_eq]
theorem and_wd1 (x : Wd) (k : Nat) : (bits .and .u64 ((x.toNat : Int) / 2 ^ k) 1 == 1) = x.getLsbD k := by
  have h1 := x.isLt
  have h2 : x.toNat / 2 ^ k ≤ x.toNat := Nat.div_le_self _ _
  rw [wd_div]
  have := u64_and_nat (x.toNat / 2 ^ k) 1 (by omega) (by omega)
  rw [show ((1 : Nat) : Int) = 1 from rfl] at this
  rw [this, Nat.and_one_is_mod, wd_bit]
  generalize x.toNat / 2 ^ k = n
  have : n % 2 = 0 ∨ n % 2 = 1 := by omega
  rcases this with h | h <;> rw [h] <;> rfl
theorem and_ne {a v : Wd} (h : le a v) (h0 : a ≠ 0#64) : (bits .and .u64 (v.toNat : Int) (a.toNat : Int) != 0) = true := by
  rw [u64_and_nat _ _ v.isLt a.isLt, ← BitVec.toNat_and]
  have e : v &&& a = a := by
    apply BitVec.eq_of_getLsbD_eq
    intro i hi
    rw [BitVec.getLsbD_and]
    have := le_bits.1 h i
    cases ha : a.getLsbD i with
    | false => simp
    | true => rw [this ha]; rfl
  rw [e]
  have : a.toNat ≠ 0 := fun e2 => h0 (BitVec.eq_of_toNat_eq (by simpa using e2))
  simp; omega
theorem shl_ne {k : Nat} (h : k < 64) : 1#64 <<< k ≠ 0#64 := fun e => by
  have := congrArg (fun x : Wd => x.getLsbD k) e
  simp [h] at this
theorem bit_of_le {k : Nat} {v : Wd} (h : k < 64) (hl : le (1#64 <<< k) v) : v.getLsbD k = true := le_bits.1 hl k (by simp [h])
def Z58 (t : Nat) : Prop := t = 58
/-- A looker in memory. -/
structure Lo (w0 : World) (q : Nat) (tt : Int) (n : Nat) (ga : Option Addr) (gm gc be bf bw br bm : Nat) (wa : Option Addr) (wn wc : Nat) (at0 : Nat) (W : World) : Prop where
  blk : W.heap[q]? = some (.cells #[.int .i64 tt, .int .i64 (n : Int), .slice ga gm gc, .slice (some ⟨be, 0, none⟩) n n, .slice (some ⟨bf, 0, none⟩) n n, .slice (some ⟨bw, 0, none⟩) n n, .slice (some ⟨br, 0, none⟩) n n, .slice (some ⟨bm, 0, none⟩) n n, .slice wa wn wc, .int .i64 (at0 : Int), .bool true] 58)
  ge : w0.heap.size ≤ q
  bel : Below w0.heap.size w0 W
theorem Lo.next {w0 : World} {q : Nat} {tt : Int} {n : Nat} {ga : Option Addr} {gm gc be bf bw br bm : Nat} {wa : Option Addr} {wn wc : Nat} {at0 : Nat} {W W' : World} (h : Lo w0 q tt n ga gm gc be bf bw br bm wa wn wc at0 W) (hb : Below W.heap.size W W') : Lo w0 q tt n ga gm gc be bf bw br bm wa wn wc at0 W' := ⟨tbox_next h.blk hb, h.ge, h.bel.trans (hb.mono h.bel.size)⟩
theorem Lo.set {w0 : World} {q : Nat} {tt : Int} {n : Nat} {ga : Option Addr} {gm gc be bf bw br bm : Nat} {wa : Option Addr} {wn wc : Nat} {at0 : Nat} {W : World} (h : Lo w0 q tt n ga gm gc be bf bw br bm wa wn wc at0 W) (m : Nat) : Lo w0 q tt n ga gm gc be bf bw br bm wa wn wc m (W.setCell ⟨q, 9, none⟩ (.int .i64 (m : Int))) ∧ Fy Z58 W (W.setCell ⟨q, 9, none⟩ (.int .i64 (m : Int))) := ⟨⟨by simpa using tblock_store (i := 9) h.blk (.int .i64 (m : Int)), h.ge, h.bel.setCell h.ge _⟩, Fy.set h.blk (show Z58 58 from rfl) _⟩
theorem Lo.ok {w0 : World} {q : Nat} {tt : Int} {n : Nat} {ga : Option Addr} {gm gc be bf bw br bm : Nat} {wa : Option Addr} {wn wc : Nat} {at0 : Nat} {W : World} (h : Lo w0 q tt n ga gm gc be bf bw br bm wa wn wc at0 W) : Lo w0 q tt n ga gm gc be bf bw br bm wa wn wc at0 (W.setCell ⟨q, 10, none⟩ (.bool true)) ∧ Fy Z58 W (W.setCell ⟨q, 10, none⟩ (.bool true)) := ⟨⟨by simpa using tblock_store (i := 10) h.blk (.bool true), h.ge, h.bel.setCell h.ge _⟩, Fy.set h.blk (show Z58 58 from rfl) _⟩
/-- What is the same all along. -/
structure Lc (w0 : World) (tt : Int) (n : Nat) (ga : Option Addr) (gm gc be bf bw br bm : Nat) (wa : Option Addr) (wn wc : Nat) (ps : List Pd) (E : Nat → Bool) (F V : Nat → Wd) (R M : Nat → Bool) (ws : List Int) : Prop where
  pds : Pds w0 (.slice ga gm gc) ps
  gml : ps.length = gm
  rg : Rg tt n ps
  fx : Fx n be bf bw br bm E F V R M w0
  fa : Fa ps E F V R M
  wd : Nms w0 (.slice wa wn wc) ws
  wnl : ws.length = wn
  wx : ∀ x ∈ ws, 0 ≤ x ∧ x < 60
  wl : wn ≤ 100000

set_option maxHeartbeats 16000000 in
set_option maxRecDepth 20000 in
theorem node_all (w0 : World) (q : Nat) (tt : Int) (n : Nat) (ga : Option Addr) (gm gc be bf bw br bm : Nat) (wa : Option Addr) (wn wc : Nat) (ps : List Pd) (E : Nat → Bool) (F V : Nat → Wd) (R M : Nat → Bool) (ws : List Int) (hcc : Lc w0 tt n ga gm gc be bf bw br bm wa wn wc ps E F V R M ws) (P : Nat → Prop) (m : Nat) : ∀ (t : T), t.sz ≤ m → ∀ (v : Value) (s : Sy) (pre post : List Int) (w : World), Tx w0 P v t → sh ps t s = true → s.1 ≠ 1 → ws = pre ++ (yl ps t s ++ post) → R s.2.toNat = true → le (nx post) (V s.2.toNat) → Lo w0 q tt n ga gm gc be bf bw br bm wa wn wc pre.length w →
    Calls Try.prog 25 #[.pointer (some ⟨q, 0, none⟩), v] w fun e w' => e = .returned (.tuple #[]) ∧ Lo w0 q tt n ga gm gc be bf bw br bm wa wn wc (pre.length + (yl ps t s).length) w' ∧ Fy Z58 w w' := by
  induction m with
  | zero => intro t hm; have := t.sz_pos; omega
  | succ m ih =>
    intro t hm v s pre post w hx hsh hs hws hR hV hlo
    have HCC : Hid (Lc w0 tt n ga gm gc be bf bw br bm wa wn wc ps E F V R M ws) := hcc
    have HIH : Hid _ := ih
    clear ih hcc
    obtain ⟨p, k, ao, cap, kids, vals, rfl, rfl, hkm, -, -⟩ := hx.shape
    have HX : Hid (Tx w0 P (.agg #[.int .i64 p, .int .i64 k, .slice ao kids.length cap]) (.mk p k kids)) := hx
    have HKS : Hid (∀ s ∈ kids, s.sz ≤ m) := fun s hs => by have := T.sz_lt (t := .mk p k kids) hs; omega
    obtain ⟨hpr, hhd, -, hsl⟩ := sh_node hsh hs
    have HSH : Hid (sh ps (.mk p k kids) s = true) := hsh
    have HYE : Hid (yl ps (.mk p k kids) s = ylL ps kids (bodyOf ps p)) := by show _ = _; rw [yl, if_neg hs]
    have HSS : Hid (s.1 ≠ 1) := hs
    have HRV : Hid (R s.2.toNat = true ∧ le (nx post) (V s.2.toNat)) := ⟨hR, hV⟩
    have hle := isPr_le hpr
    obtain ⟨z, rfl⟩ : ∃ z : Nat, p = (z : Int) := ⟨p.toNat, by omega⟩
    obtain ⟨b, o, bo, bc, rfl, -, hbl, hc0, -, -⟩ := Pds.prod HCC.out.pds hpr
    simp only [Int.toNat_natCast] at hc0
    rw [hhd] at hc0
    obtain ⟨hq0, hqm, hqe, hqb⟩ := body_mem hpr
    have hrh : ∃ hd : Nat, s.2 = (hd : Int) ∧ hd < n := by
      obtain ⟨j, hj, rfl⟩ := List.mem_iff_getElem.1 hqm
      obtain ⟨m2, h1, -, h3⟩ := HCC.out.rg.hd j hj
      exact ⟨m2, by rw [← hhd, ← hqe, h1], h3⟩
    obtain ⟨hd, hde, hdn⟩ := hrh
    rw [hde] at hc0
    rw [hde, Int.toNat_natCast] at HRV
    have HQM : Hid (∃ qq ∈ ps, qq.1 = (hd : Int) ∧ qq.2 = bodyOf ps (z : Int)) := ⟨hq0, hqm, by rw [hqe, hhd, hde], hqb⟩
    have HDE : Hid (s.2 = (hd : Int)) := hde
    have hz0 : (0 : Int) ≤ (z : Int) := by omega
    have hz : (z : Int) < (gm : Int) := by rw [← HCC.out.gml]; exact hle.2
    have hz2 : z < gm := by omega
    obtain ⟨body, HBD⟩ : ∃ body, Hid (bodyOf ps (z : Int) = body) := ⟨_, (rfl : bodyOf ps (z : Int) = _)⟩
    rw [HBD.out] at HYE hsl HQM
    have HSL : Hid (shL ps kids body = true) := hsl
    have HWS : Hid (ws = pre ++ (ylL ps kids body ++ post)) := by show _ = _; rw [← HYE.out]; exact hws
    have HC0 : Hid (w0.cell? ⟨b, o + z * 2, none⟩ = some (.int .i64 (hd : Int))) := hc0
    rw [HYE.out]
    have HLO : Hid (Lo w0 q tt n (some ⟨b, o, none⟩) gm gc be bf bw br bm wa wn wc pre.length w) := hlo
    obtain ⟨kn, HKN⟩ : ∃ kn, Hid (kids.length = kn) := ⟨_, (rfl : kids.length = _)⟩
    rw [HKN.out] at HX hkm ⊢
    obtain ⟨pl, HPL⟩ : ∃ pl, Hid (pre.length = pl) := ⟨_, (rfl : pre.length = _)⟩
    rw [HPL.out] at HLO ⊢
    clear hx hsh hs hws hR hV hlo hle hpr hhd hsl hq0 hqm hqe hqb hde hc0
    have HPLW : Hid (pl + (ylL ps kids body).length ≤ wn) := by
      have h1 := HCC.out.wnl
      rw [HWS.out] at h1
      simp only [List.length_append] at h1
      rw [HPL.out] at h1
      show _ ≤ _
      omega
    have hwl : wn ≤ 100000 := HCC.out.wl
    have HB1 : Hid (Below w.heap.size w (w.alloc (Obj.cells #[.int .i64 (z : Int), .int .i64 k, .slice ao kn cap] 27))) := below_alloc _ _
    have HG1 : Hid ((w.alloc (Obj.cells #[.int .i64 (z : Int), .int .i64 k, .slice ao kn cap] 27)).heap[w.heap.size]? = some (.cells #[.int .i64 (z : Int), .int .i64 k, .slice ao kn cap] 27)) := heap_alloc_new _ _
    have HL1 : Hid (Lo w0 q tt n (some ⟨b, o, none⟩) gm gc be bf bw br bm wa wn wc pl (w.alloc (Obj.cells #[.int .i64 (z : Int), .int .i64 k, .slice ao kn cap] 27))) := HLO.out.next (below_alloc _ _)
    have HF1 : Hid (Fy Z58 w (w.alloc (Obj.cells #[.int .i64 (z : Int), .int .i64 k, .slice ao kn cap] 27))) := Fy.of (below_alloc _ _)
    go_enter Try.func25, Try.ntmps25
    go_upto_region 1 with fail
    obtain ⟨g, HGG⟩ : ∃ g, Hid (w.heap.size = g) := ⟨_, (rfl : w.heap.size = _)⟩
    rw [HGG.out] at HG1 ⊢
    generalize w.alloc (Obj.cells #[.int .i64 (z : Int), .int .i64 k, .slice ao kn cap] 27) = w1 at HG1 HL1 HF1 ⊢
    clear HB1 HLO
    have e2 := tcell_blk HG1.out 2
    have a9 := tcell_blk HL1.out.blk 9
    simp only [List.getElem?_toArray, List.getElem?_cons_zero, List.getElem?_cons_succ] at e2 a9
    go_upto_region 3 with fail
    clear e2 a9
    go_loopw [16] (fun y wr => ∃ i : Nat, i ≤ kn ∧ y = .int .i64 (i : Int) ∧ Hid (Lo w0 q tt n (some ⟨b, o, none⟩) gm gc be bf bw br bm wa wn wc (pl + (ylL ps (kids.take i) body).length) wr ∧ Fy Z58 w wr ∧ wr.heap[g]? = some (.cells #[.int .i64 (z : Int), .int .i64 k, .slice ao kn cap] 27))) (fun y _ => kn - (intOf y).toNat)
    case atStart =>
      refine ⟨0, by omega, rfl, ?_⟩
      rw [List.take_zero, ylL]
      exact ⟨HL1.out, HF1.out, HG1.out⟩
    case round =>
      obtain ⟨i, hi, rfl, HI⟩ := hrel
      clear HL1 HF1 HG1
      by_cases hlt : i < kn
      · have hik : i < kids.length := by rw [HKN.out]; exact hlt
        have hib : i < body.length := by rw [← shL_length HSL.out]; exact hik
        obtain ⟨b2, o2, p', k', a', n', c', rfl, KD⟩ := HX.out.kid i hik
        have hsk := shL_at HSL.out i hik
        have hg : body.getD i (0, 0) = body[i] := by rw [List.getD_eq_getElem?_getD, List.getElem?_eq_getElem hib]; rfl
        rw [hg] at hsk
        have hl : (kids.take i).length = i := by rw [List.length_take]; omega
        have HT : Hid (ylL ps (kids.take (i + 1)) body = ylL ps (kids.take i) body ++ yl ps kids[i] body[i]) := by
          show _ = _
          rw [List.take_succ_eq_append_getElem hik, ylL_snoc, hl, hg]
        have hsp := ylL_split ps (i + 1) kids body
        have hlen : pl + (ylL ps (kids.take (i + 1)) body).length ≤ wn := by
          have := HPLW.out
          rw [hsp, List.length_append] at this
          omega
        have hneg := sh_neg hsk
        rw [← KD.pr] at hneg
        have hbel := HI.out.1.bel
        have q0 : wr.cell? ⟨b2, o2 + i * 3, none⟩ = some (.int .i64 p') := (hbel.cell (p := ⟨b2, o2 + i * 3, none⟩) KD.lt).trans KD.c0
        have q1 : wr.cell? ⟨b2, o2 + i * 3 + 1, none⟩ = some (.int .i64 k') := (hbel.cell (p := ⟨b2, o2 + i * 3 + 1, none⟩) KD.lt).trans KD.c1
        have q2 : wr.cell? ⟨b2, o2 + i * 3 + 2, none⟩ = some (.slice a' n' c') := (hbel.cell (p := ⟨b2, o2 + i * 3 + 2, none⟩) KD.lt).trans KD.c2
        have hk1 : (i : Int) < (kn : Int) := by omega
        have hk0 : (0 : Int) ≤ (i : Int) := by omega
        have HWA : Hid (Below wr.heap.size wr (wr.alloc (Obj.cells #[.int .i64 p', .int .i64 k', .slice a' n' c'] 27))) := below_alloc _ _
        have HKB : Hid ((wr.alloc (Obj.cells #[.int .i64 p', .int .i64 k', .slice a' n' c'] 27)).heap[wr.heap.size]? = some (.cells #[.int .i64 p', .int .i64 k', .slice a' n' c'] 27)) := heap_alloc_new _ _
        obtain ⟨at1, HAT⟩ : ∃ at1, Hid (pl + (ylL ps (kids.take i) body).length = at1) := ⟨_, (rfl : pl + (ylL ps (kids.take i) body).length = _)⟩
        have hI2 := HI.out
        rw [HAT.out] at hI2
        have HL2 : Hid (Lo w0 q tt n (some ⟨b, o, none⟩) gm gc be bf bw br bm wa wn wc at1 (wr.alloc (Obj.cells #[.int .i64 p', .int .i64 k', .slice a' n' c'] 27)) ∧ Fy Z58 w (wr.alloc (Obj.cells #[.int .i64 p', .int .i64 k', .slice a' n' c'] 27)) ∧ (wr.alloc (Obj.cells #[.int .i64 p', .int .i64 k', .slice a' n' c'] 27)).heap[g]? = some (.cells #[.int .i64 (z : Int), .int .i64 k, .slice (some ⟨b2, o2, none⟩) kn cap] 27)) := ⟨hI2.1.next HWA.out, hI2.2.1.trans (Fy.of HWA.out), tbox_next hI2.2.2 HWA.out⟩
        have HAT2 : Hid (pl + (ylL ps (kids.take (i + 1)) body).length = at1 + (yl ps kids[i] body[i]).length) := by show _ = _; rw [HT.out, List.length_append, ← HAT.out]; omega
        clear hI2 HI
        go_upto_region 5 with fail
        obtain ⟨kb, HKBN⟩ : ∃ kb, Hid (wr.heap.size = kb) := ⟨_, (rfl : wr.heap.size = _)⟩
        rw [HKBN.out] at HKB ⊢
        generalize wr.alloc (Obj.cells #[.int .i64 p', .int .i64 k', .slice a' n' c'] 27) = w2 at HKB HL2 ⊢
        clear q0 q1 q2 HWA HKBN
        have e0 := tcell_blk HKB.out 0
        have e1 := tcell_blk HKB.out 1
        have e2 := tcell_blk HKB.out 2
        have a9 := tcell_blk HL2.out.1.blk 9
        have f9 := tfrozen_blk HL2.out.1.blk 9
        simp only [List.getElem?_toArray, List.getElem?_cons_zero, List.getElem?_cons_succ] at e0 e1 e2 a9
        by_cases hpn : p' < 0
        · have HY : Hid ((yl ps kids[i] body[i]).length = 1) := by
            show _ = _
            have h1 := hneg.1 hpn
            rw [sh_is_leaf hsk h1, yl, if_pos h1]; rfl
          rw [HY.out] at HAT2
          have hat : at1 + 1 ≤ 100000 := by rw [← HAT2.out]; omega
          have HR : Hid (Lo w0 q tt n (some ⟨b, o, none⟩) gm gc be bf bw br bm wa wn wc (at1 + 1) (w2.setCell ⟨q, 9, none⟩ (.int .i64 ((at1 : Int) + 1))) ∧ Fy Z58 w (w2.setCell ⟨q, 9, none⟩ (.int .i64 ((at1 : Int) + 1))) ∧ (w2.setCell ⟨q, 9, none⟩ (.int .i64 ((at1 : Int) + 1))).heap[g]? = some (.cells #[.int .i64 (z : Int), .int .i64 k, .slice (some ⟨b2, o2, none⟩) kn cap] 27)) := by
            have h1 := HL2.out.1.set (at1 + 1)
            exact ⟨h1.1, HL2.out.2.1.trans h1.2, h1.2.2 _ _ _ _ HL2.out.2.2 (by unfold Z58; omega)⟩
          clear hsk hneg KD hbel
          go_wp2_with fail
          go_roundw
          case rel => exact ⟨i + 1, by omega, by go_num, by rw [HAT2.out]; exact HR.out⟩
          case measure => simp [intOf]; omega
        · have hpd : decide (p' < 0) = false := by simp; omega
          have hs1 : body[i].1 ≠ 1 := fun e => hpn (hneg.2 e)
          have hs2 : body[i].1 = 2 := by
            obtain ⟨qq, hqm, -, hqb⟩ := HQM.out
            obtain ⟨j, hj, rfl⟩ := List.mem_iff_getElem.1 hqm
            have := HCC.out.rg.ok j hj body[i] (by rw [hqb]; exact List.getElem_mem hib)
            rcases this with h | h
            · exact absurd h.1 hs1
            · exact h.1
          have HCL : Hid (Calls Try.prog 25 #[.pointer (some ⟨q, 0, none⟩), .agg #[.int .i64 p', .int .i64 k', .slice a' n' c']] w2 fun e w' => e = .returned (.tuple #[]) ∧ Lo w0 q tt n (some ⟨b, o, none⟩) gm gc be bf bw br bm wa wn wc (at1 + (yl ps kids[i] body[i]).length) w' ∧ Fy Z58 w2 w') := by
            obtain ⟨qq, hqm, hqh, hqb⟩ := HQM.out
            have hpl : (pre ++ ylL ps (kids.take i) body).length = at1 := by rw [List.length_append, HPL.out]; exact HAT.out
            have hcall := HIH.out kids[i] (HKS.out _ (List.getElem_mem hik)) _ body[i] (pre ++ ylL ps (kids.take i) body) (ylL ps (kids.drop (i + 1)) (body.drop (i + 1)) ++ post) w2 KD.tx hsk hs1 (by rw [HWS.out, hsp, HT.out]; simp) ?_ ?_ (by rw [hpl]; exact HL2.out.1)
            · rw [hpl] at hcall; exact hcall
            · refine HCC.out.fa.r.cl.st qq hqm (by rw [hqh, Int.toNat_natCast]; exact HRV.out.1) _ (by rw [hqb]; exact List.getElem_mem hib) hs2
            · have h1 := HCC.out.fa.w.cl.st qq hqm i (by rw [hqb]; exact hib) (by simp only [hqb]; exact hs2)
              simp only [hqb] at h1
              rw [hqh, Int.toNat_natCast] at h1
              exact le_trans (next_shL HCC.out.fa.m.cl HCC.out.fa.e.cl HCC.out.fa.f.cl (shL_drop (i + 1) HSL.out) post _ (Or.inr HRV.out.2)) h1
          clear hsk hneg KD hbel hs1 hs2
          go_wp2_with fail
          refine HCL.out.mono ?_
          rintro _ w3 ⟨rfl, hl3, hf3⟩
          have HR : Hid (Lo w0 q tt n (some ⟨b, o, none⟩) gm gc be bf bw br bm wa wn wc (pl + (ylL ps (kids.take (i + 1)) body).length) w3 ∧ Fy Z58 w w3 ∧ w3.heap[g]? = some (.cells #[.int .i64 (z : Int), .int .i64 k, .slice (some ⟨b2, o2, none⟩) kn cap] 27)) := ⟨by rw [HAT2.out]; exact hl3, HL2.out.2.1.trans hf3, hf3.2 _ _ _ _ HL2.out.2.2 (by unfold Z58; omega)⟩
          clear hl3 hf3 e0 e1 e2 a9 f9
          go_wp2_with fail
          go_roundw
          case rel => exact ⟨i + 1, by omega, by go_num, HR⟩
          case measure => simp [intOf]; omega
      · have hk1 : ¬ (i : Int) < (kn : Int) := by omega
        have hI2 := HI.out
        rw [List.take_of_length_le (by rw [HKN.out]; omega)] at hI2
        obtain ⟨at1, HAT⟩ : ∃ at1, Hid (pl + (ylL ps kids body).length = at1) := ⟨_, (rfl : pl + (ylL ps kids body).length = _)⟩
        rw [HAT.out] at hI2 HPLW
        have HI2 : Hid (Lo w0 q tt n (some ⟨b, o, none⟩) gm gc be bf bw br bm wa wn wc at1 wr ∧ Fy Z58 w wr ∧ wr.heap[g]? = some (.cells #[.int .i64 (z : Int), .int .i64 k, .slice ao kn cap] 27)) := hI2
        clear hI2 HI
        have hdI : (hd : Int) < (n : Int) := by omega
        have hd0 : (0 : Int) ≤ (hd : Int) := by omega
        have hat : at1 ≤ 100000 := by have := HPLW.out; omega
        have hpat : pl ≤ at1 := by have := HAT.out; omega
        have a2 := tcell_blk HI2.out.1.blk 2
        have a3 := tcell_blk HI2.out.1.blk 3
        have a4 := tcell_blk HI2.out.1.blk 4
        have a5 := tcell_blk HI2.out.1.blk 5
        have a6 := tcell_blk HI2.out.1.blk 6
        have a7 := tcell_blk HI2.out.1.blk 7
        have a8 := tcell_blk HI2.out.1.blk 8
        have a9 := tcell_blk HI2.out.1.blk 9
        have a10 := tcell_blk HI2.out.1.blk 10
        have e0 := tcell_blk HI2.out.2.2 0
        simp only [List.getElem?_toArray, List.getElem?_cons_zero, List.getElem?_cons_succ] at a2 a3 a4 a5 a6 a7 a8 a9 a10 e0
        have c0 : wr.cell? ⟨b, o + z * 2, none⟩ = some (.int .i64 (hd : Int)) := (HI2.out.1.bel.cell (p := ⟨b, o + z * 2, none⟩) hbl).trans HC0.out
        go_upto_region 9 with fail
        go_quiet (fail)
        have HI3 : Hid (Lo w0 q tt n (some ⟨b, o, none⟩) gm gc be bf bw br bm wa wn wc at1 (wr.drewN nq) ∧ Fy Z58 w (wr.drewN nq) ∧ (wr.drewN nq).heap[g]? = some (.cells #[.int .i64 (z : Int), .int .i64 k, .slice ao kn cap] 27)) := ⟨HI2.out.1.next (Go.Joins.below_draws _ _ _), HI2.out.2.1.trans (Fy.of (Go.Joins.below_draws _ _ _)), tbox_next HI2.out.2.2 (Go.Joins.below_draws _ _ _)⟩
        generalize wr.drewN nq = w3 at HI3 ⊢
        clear a2 a3 a4 a5 a6 a7 a8 a9 a10 e0
        clear c0 HI2
        have a2 := tcell_blk HI3.out.1.blk 2
        have a3 := tcell_blk HI3.out.1.blk 3
        have a4 := tcell_blk HI3.out.1.blk 4
        have a5 := tcell_blk HI3.out.1.blk 5
        have a6 := tcell_blk HI3.out.1.blk 6
        have a7 := tcell_blk HI3.out.1.blk 7
        have a8 := tcell_blk HI3.out.1.blk 8
        have a9 := tcell_blk HI3.out.1.blk 9
        have a10 := tcell_blk HI3.out.1.blk 10
        have e0 := tcell_blk HI3.out.2.2 0
        simp only [List.getElem?_toArray, List.getElem?_cons_zero, List.getElem?_cons_succ] at a2 a3 a4 a5 a6 a7 a8 a9 a10 e0
        go_upto_region 11 with fail
        have HMD : Hid (M hd = true) := by
          have := made_sh HCC.out.fa.m.cl HSH.out HSS.out
          rw [HDE.out, Int.toNat_natCast] at this
          exact this
        have hatw : at1 ≤ wn := HPLW.out
        by_cases hw0 : wn = 0
        · have HPA : Hid (pl = at1) := (by omega : pl = at1)
          have hlin : ¬ at1 < wn := by omega
          have hli : ¬ (at1 : Int) < (wn : Int) := by omega
          clear hw0
          go_quiet (fail)
          have HI4 : Hid (Lo w0 q tt n (some ⟨b, o, none⟩) gm gc be bf bw br bm wa wn wc at1 (w3.drewN nq) ∧ Fy Z58 w (w3.drewN nq) ∧ (w3.drewN nq).heap[g]? = some (.cells #[.int .i64 (z : Int), .int .i64 k, .slice ao kn cap] 27)) := ⟨HI3.out.1.next (Go.Joins.below_draws _ _ _), HI3.out.2.1.trans (Fy.of (Go.Joins.below_draws _ _ _)), tbox_next HI3.out.2.2 (Go.Joins.below_draws _ _ _)⟩
          generalize w3.drewN nq = w4 at HI4 ⊢
          clear a2 a3 a4 a5 a6 a7 a8 a9 a10 e0
          clear HI3
          have hand : (bits .and .u64 ((V hd).toNat : Int) 9223372036854775808 != 0) = true := by
            have hpo : post = [] := by
              have h1 := HCC.out.wnl
              rw [HWS.out] at h1
              simp only [List.length_append] at h1
              rw [HPL.out] at h1
              have := HAT.out
              exact List.length_eq_zero_iff.1 (by have := hlin; omega)
            have := HRV.out.2
            rw [hpo] at this
            have h := and_ne (a := endW) this (by decide)
            rw [show ((endW.toNat : Nat) : Int) = 9223372036854775808 by decide] at h
            exact h
          have a2 := tcell_blk HI4.out.1.blk 2
          have a3 := tcell_blk HI4.out.1.blk 3
          have a4 := tcell_blk HI4.out.1.blk 4
          have a5 := tcell_blk HI4.out.1.blk 5
          have a6 := tcell_blk HI4.out.1.blk 6
          have a7 := tcell_blk HI4.out.1.blk 7
          have a8 := tcell_blk HI4.out.1.blk 8
          have a9 := tcell_blk HI4.out.1.blk 9
          have a10 := tcell_blk HI4.out.1.blk 10
          have e0 := tcell_blk HI4.out.2.2 0
          simp only [List.getElem?_toArray, List.getElem?_cons_zero, List.getElem?_cons_succ] at a2 a3 a4 a5 a6 a7 a8 a9 a10 e0
          have y0 : w4.cell? ⟨be, hd, none⟩ = some (.bool (E hd)) := (HCC.out.fx.e.of ((HI4.out.1.bel.block _ HCC.out.fx.e.lt))).cell hdn
          have y1 : w4.cell? ⟨bf, hd, none⟩ = some (.int .u64 ((F hd).toNat : Int)) := (HCC.out.fx.f.of ((HI4.out.1.bel.block _ HCC.out.fx.f.lt))).cell hdn
          have y2 : w4.cell? ⟨bw, hd, none⟩ = some (.int .u64 ((V hd).toNat : Int)) := (HCC.out.fx.v.of ((HI4.out.1.bel.block _ HCC.out.fx.v.lt))).cell hdn
          have y3 : w4.cell? ⟨br, hd, none⟩ = some (.bool (R hd)) := (HCC.out.fx.r.of ((HI4.out.1.bel.block _ HCC.out.fx.r.lt))).cell hdn
          have y4 : w4.cell? ⟨bm, hd, none⟩ = some (.bool (M hd)) := (HCC.out.fx.m.of ((HI4.out.1.bel.block _ HCC.out.fx.m.lt))).cell hdn
          rw [HRV.out.1] at y3
          rw [HMD.out] at y4
          have f10 := tfrozen_blk HI4.out.1.blk 10
          have HI5 : Hid (Lo w0 q tt n (some ⟨b, o, none⟩) gm gc be bf bw br bm wa wn wc at1 (w4.setCell ⟨q, 10, none⟩ (.bool true)) ∧ Fy Z58 w (w4.setCell ⟨q, 10, none⟩ (.bool true)) ∧ (w4.setCell ⟨q, 10, none⟩ (.bool true)).heap[g]? = some (.cells #[.int .i64 (z : Int), .int .i64 k, .slice ao kn cap] 27)) := by
            have h1 := HI4.out.1.ok
            exact ⟨h1.1, HI4.out.2.1.trans h1.2, h1.2.2 _ _ _ _ HI4.out.2.2 (by unfold Z58; omega)⟩
          go_upto_region 14 with fail
          generalize w4.setCell ⟨q, 10, none⟩ (.bool true) = w6 at HI5 ⊢
          clear a2 a3 a4 a5 a6 a7 a8 a9 a10 e0 y0 y1 y2 y3 y4 f10 HI4
          have hbe : ((pl : Int) == (at1 : Int)) = true := by have := HPA.out; simp; omega
          have HEM : Hid (E hd = true) := by
            have := empty_sh HCC.out.fa.e.cl HSH.out HSS.out (by rw [HYE.out]; exact List.length_eq_zero_iff.1 (by have := HAT.out; have := HPA.out; omega))
            rw [HDE.out, Int.toNat_natCast] at this
            exact this
          have a2 := tcell_blk HI5.out.1.blk 2
          have a3 := tcell_blk HI5.out.1.blk 3
          have a4 := tcell_blk HI5.out.1.blk 4
          have a5 := tcell_blk HI5.out.1.blk 5
          have a6 := tcell_blk HI5.out.1.blk 6
          have a7 := tcell_blk HI5.out.1.blk 7
          have a8 := tcell_blk HI5.out.1.blk 8
          have a9 := tcell_blk HI5.out.1.blk 9
          have a10 := tcell_blk HI5.out.1.blk 10
          have e0 := tcell_blk HI5.out.2.2 0
          simp only [List.getElem?_toArray, List.getElem?_cons_zero, List.getElem?_cons_succ] at a2 a3 a4 a5 a6 a7 a8 a9 a10 e0
          have y0 : w6.cell? ⟨be, hd, none⟩ = some (.bool (E hd)) := (HCC.out.fx.e.of ((HI5.out.1.bel.block _ HCC.out.fx.e.lt))).cell hdn
          have y1 : w6.cell? ⟨bf, hd, none⟩ = some (.int .u64 ((F hd).toNat : Int)) := (HCC.out.fx.f.of ((HI5.out.1.bel.block _ HCC.out.fx.f.lt))).cell hdn
          have y2 : w6.cell? ⟨bw, hd, none⟩ = some (.int .u64 ((V hd).toNat : Int)) := (HCC.out.fx.v.of ((HI5.out.1.bel.block _ HCC.out.fx.v.lt))).cell hdn
          have y3 : w6.cell? ⟨br, hd, none⟩ = some (.bool (R hd)) := (HCC.out.fx.r.of ((HI5.out.1.bel.block _ HCC.out.fx.r.lt))).cell hdn
          have y4 : w6.cell? ⟨bm, hd, none⟩ = some (.bool (M hd)) := (HCC.out.fx.m.of ((HI5.out.1.bel.block _ HCC.out.fx.m.lt))).cell hdn
          rw [HRV.out.1] at y3
          rw [HMD.out] at y4
          rw [HEM.out] at y0
          have f10 := tfrozen_blk HI5.out.1.blk 10
          have HI9 : Hid (Lo w0 q tt n (some ⟨b, o, none⟩) gm gc be bf bw br bm wa wn wc at1 (w6.setCell ⟨q, 10, none⟩ (.bool true)) ∧ Fy Z58 w (w6.setCell ⟨q, 10, none⟩ (.bool true)) ∧ (w6.setCell ⟨q, 10, none⟩ (.bool true)).heap[g]? = some (.cells #[.int .i64 (z : Int), .int .i64 k, .slice ao kn cap] 27)) := by
            have h1 := HI5.out.1.ok
            exact ⟨h1.1, HI5.out.2.1.trans h1.2, h1.2.2 _ _ _ _ HI5.out.2.2 (by unfold Z58; omega)⟩
          go_wp2_with fail
          generalize w6.setCell ⟨q, 10, none⟩ (.bool true) = w9 at HI9 ⊢
          exact bodyPost_end (v := .tuple #[]) (by simp [results, Try.results25, go_sem]) rfl ⟨rfl, by rw [HAT.out]; exact HI9.out.1, HI9.out.2.1⟩
        · obtain ⟨wb, wo, rfl, hwb, HWALL⟩ : ∃ wb wo, wa = some ⟨wb, wo, none⟩ ∧ wb < w0.heap.size ∧ Hid (∀ i (h : i < ws.length), w0.cell? ⟨wb, wo + i, none⟩ = some (.int .i64 ws[i])) := by
            obtain ⟨ao2, cap2, he, -, hc⟩ := HCC.out.wd
            simp only [Value.slice.injEq] at he
            have h1 := HCC.out.wnl
            rcases hc with h0 | ⟨b9, o9, e1, e2, e3⟩
            · rw [h0] at h1; simp at h1; omega
            · exact ⟨b9, o9, he.1.trans e1, e2, e3⟩
          by_cases hlw : at1 < wn
          · have hli : (at1 : Int) < (wn : Int) := by omega
            have hai0 : (0 : Int) ≤ (at1 : Int) := by omega
            go_quiet (fail)
            have HI4 : Hid (Lo w0 q tt n (some ⟨b, o, none⟩) gm gc be bf bw br bm (some ⟨wb, wo, none⟩) wn wc at1 (w3.drewN nq) ∧ Fy Z58 w (w3.drewN nq) ∧ (w3.drewN nq).heap[g]? = some (.cells #[.int .i64 (z : Int), .int .i64 k, .slice ao kn cap] 27)) := ⟨HI3.out.1.next (Go.Joins.below_draws _ _ _), HI3.out.2.1.trans (Fy.of (Go.Joins.below_draws _ _ _)), tbox_next HI3.out.2.2 (Go.Joins.below_draws _ _ _)⟩
            generalize w3.drewN nq = w4 at HI4 ⊢
            clear a2 a3 a4 a5 a6 a7 a8 a9 a10 e0
            clear HI3
            obtain ⟨x, rest, HPO⟩ : ∃ x rest, Hid (post = x :: rest) := by
              cases hp : post with
              | nil =>
                have h1 := HCC.out.wnl
                rw [HWS.out, hp] at h1
                simp only [List.length_append, List.length_nil] at h1
                rw [HPL.out] at h1
                have := HAT.out
                omega
              | cons x rest => exact ⟨x, rest, (rfl : x :: rest = x :: rest)⟩
            have hwx := HCC.out.wx x (by rw [HWS.out, HPO.out]; simp)
            obtain ⟨xn, rfl⟩ : ∃ xn : Nat, x = (xn : Int) := ⟨x.toNat, by omega⟩
            have hxn : xn < 60 := by omega
            have HWC : Hid (w0.cell? ⟨wb, wo + at1, none⟩ = some (.int .i64 (xn : Int))) := by
              have h1 := HCC.out.wnl
              have h2 := HWALL.out at1 (by omega)
              have h3 : ws[at1]'(by omega) = (xn : Int) := by
                have h4 : ws[at1]? = some (xn : Int) := by
                  rw [HWS.out, HPO.out, List.getElem?_append_right (by rw [HPL.out]; have := HAT.out; omega), List.getElem?_append_right (by rw [HPL.out]; have := HAT.out; omega)]
                  rw [show at1 - pre.length - (ylL ps kids body).length = 0 by rw [HPL.out]; have := HAT.out; omega]
                  rfl
                rw [List.getElem?_eq_getElem (by omega)] at h4
                simpa using h4
              rw [h3] at h2
              exact h2
            have hs1 := shl_one xn (by omega)
            have hand : (bits .and .u64 ((V hd).toNat : Int) ((1#64 <<< xn).toNat : Int) != 0) = true := by
              have := HRV.out.2
              rw [HPO.out] at this
              exact and_ne (by simpa [nx] using this) (shl_ne (by omega))
            generalize 1#64 <<< xn = sv at hs1 hand
            have a2 := tcell_blk HI4.out.1.blk 2
            have a3 := tcell_blk HI4.out.1.blk 3
            have a4 := tcell_blk HI4.out.1.blk 4
            have a5 := tcell_blk HI4.out.1.blk 5
            have a6 := tcell_blk HI4.out.1.blk 6
            have a7 := tcell_blk HI4.out.1.blk 7
            have a8 := tcell_blk HI4.out.1.blk 8
            have a9 := tcell_blk HI4.out.1.blk 9
            have a10 := tcell_blk HI4.out.1.blk 10
            have e0 := tcell_blk HI4.out.2.2 0
            simp only [List.getElem?_toArray, List.getElem?_cons_zero, List.getElem?_cons_succ] at a2 a3 a4 a5 a6 a7 a8 a9 a10 e0
            have c1 : w4.cell? ⟨wb, wo + at1, none⟩ = some (.int .i64 (xn : Int)) := (HI4.out.1.bel.cell (p := ⟨wb, wo + at1, none⟩) hwb).trans HWC.out
            go_upto_region 12 with fail
            go_quiet (fail)
            have HI6 : Hid (Lo w0 q tt n (some ⟨b, o, none⟩) gm gc be bf bw br bm (some ⟨wb, wo, none⟩) wn wc at1 (w4.drewN nq) ∧ Fy Z58 w (w4.drewN nq) ∧ (w4.drewN nq).heap[g]? = some (.cells #[.int .i64 (z : Int), .int .i64 k, .slice ao kn cap] 27)) := ⟨HI4.out.1.next (Go.Joins.below_draws _ _ _), HI4.out.2.1.trans (Fy.of (Go.Joins.below_draws _ _ _)), tbox_next HI4.out.2.2 (Go.Joins.below_draws _ _ _)⟩
            generalize w4.drewN nq = w5 at HI6 ⊢
            clear a2 a3 a4 a5 a6 a7 a8 a9 a10 e0
            clear c1 HI4
            go_upto_region 13 with fail
            have a2 := tcell_blk HI6.out.1.blk 2
            have a3 := tcell_blk HI6.out.1.blk 3
            have a4 := tcell_blk HI6.out.1.blk 4
            have a5 := tcell_blk HI6.out.1.blk 5
            have a6 := tcell_blk HI6.out.1.blk 6
            have a7 := tcell_blk HI6.out.1.blk 7
            have a8 := tcell_blk HI6.out.1.blk 8
            have a9 := tcell_blk HI6.out.1.blk 9
            have a10 := tcell_blk HI6.out.1.blk 10
            have e0 := tcell_blk HI6.out.2.2 0
            simp only [List.getElem?_toArray, List.getElem?_cons_zero, List.getElem?_cons_succ] at a2 a3 a4 a5 a6 a7 a8 a9 a10 e0
            have y0 : w5.cell? ⟨be, hd, none⟩ = some (.bool (E hd)) := (HCC.out.fx.e.of ((HI6.out.1.bel.block _ HCC.out.fx.e.lt))).cell hdn
            have y1 : w5.cell? ⟨bf, hd, none⟩ = some (.int .u64 ((F hd).toNat : Int)) := (HCC.out.fx.f.of ((HI6.out.1.bel.block _ HCC.out.fx.f.lt))).cell hdn
            have y2 : w5.cell? ⟨bw, hd, none⟩ = some (.int .u64 ((V hd).toNat : Int)) := (HCC.out.fx.v.of ((HI6.out.1.bel.block _ HCC.out.fx.v.lt))).cell hdn
            have y3 : w5.cell? ⟨br, hd, none⟩ = some (.bool (R hd)) := (HCC.out.fx.r.of ((HI6.out.1.bel.block _ HCC.out.fx.r.lt))).cell hdn
            have y4 : w5.cell? ⟨bm, hd, none⟩ = some (.bool (M hd)) := (HCC.out.fx.m.of ((HI6.out.1.bel.block _ HCC.out.fx.m.lt))).cell hdn
            rw [HRV.out.1] at y3
            rw [HMD.out] at y4
            have f10 := tfrozen_blk HI6.out.1.blk 10
            have HI5 : Hid (Lo w0 q tt n (some ⟨b, o, none⟩) gm gc be bf bw br bm (some ⟨wb, wo, none⟩) wn wc at1 (w5.setCell ⟨q, 10, none⟩ (.bool true)) ∧ Fy Z58 w (w5.setCell ⟨q, 10, none⟩ (.bool true)) ∧ (w5.setCell ⟨q, 10, none⟩ (.bool true)).heap[g]? = some (.cells #[.int .i64 (z : Int), .int .i64 k, .slice ao kn cap] 27)) := by
              have h1 := HI6.out.1.ok
              exact ⟨h1.1, HI6.out.2.1.trans h1.2, h1.2.2 _ _ _ _ HI6.out.2.2 (by unfold Z58; omega)⟩
            go_upto_region 14 with fail
            generalize w5.setCell ⟨q, 10, none⟩ (.bool true) = w6 at HI5 ⊢
            clear a2 a3 a4 a5 a6 a7 a8 a9 a10 e0 y0 y1 y2 y3 y4 f10 HI6
            by_cases hpa : pl = at1
            · have HPA : Hid (pl = at1) := hpa
              clear hpa
              have hbe : ((pl : Int) == (at1 : Int)) = true := by have := HPA.out; simp; omega
              have HEM : Hid (E hd = true) := by
                have := empty_sh HCC.out.fa.e.cl HSH.out HSS.out (by rw [HYE.out]; exact List.length_eq_zero_iff.1 (by have := HAT.out; have := HPA.out; omega))
                rw [HDE.out, Int.toNat_natCast] at this
                exact this
              have a2 := tcell_blk HI5.out.1.blk 2
              have a3 := tcell_blk HI5.out.1.blk 3
              have a4 := tcell_blk HI5.out.1.blk 4
              have a5 := tcell_blk HI5.out.1.blk 5
              have a6 := tcell_blk HI5.out.1.blk 6
              have a7 := tcell_blk HI5.out.1.blk 7
              have a8 := tcell_blk HI5.out.1.blk 8
              have a9 := tcell_blk HI5.out.1.blk 9
              have a10 := tcell_blk HI5.out.1.blk 10
              have e0 := tcell_blk HI5.out.2.2 0
              simp only [List.getElem?_toArray, List.getElem?_cons_zero, List.getElem?_cons_succ] at a2 a3 a4 a5 a6 a7 a8 a9 a10 e0
              have y0 : w6.cell? ⟨be, hd, none⟩ = some (.bool (E hd)) := (HCC.out.fx.e.of ((HI5.out.1.bel.block _ HCC.out.fx.e.lt))).cell hdn
              have y1 : w6.cell? ⟨bf, hd, none⟩ = some (.int .u64 ((F hd).toNat : Int)) := (HCC.out.fx.f.of ((HI5.out.1.bel.block _ HCC.out.fx.f.lt))).cell hdn
              have y2 : w6.cell? ⟨bw, hd, none⟩ = some (.int .u64 ((V hd).toNat : Int)) := (HCC.out.fx.v.of ((HI5.out.1.bel.block _ HCC.out.fx.v.lt))).cell hdn
              have y3 : w6.cell? ⟨br, hd, none⟩ = some (.bool (R hd)) := (HCC.out.fx.r.of ((HI5.out.1.bel.block _ HCC.out.fx.r.lt))).cell hdn
              have y4 : w6.cell? ⟨bm, hd, none⟩ = some (.bool (M hd)) := (HCC.out.fx.m.of ((HI5.out.1.bel.block _ HCC.out.fx.m.lt))).cell hdn
              rw [HRV.out.1] at y3
              rw [HMD.out] at y4
              rw [HEM.out] at y0
              have f10 := tfrozen_blk HI5.out.1.blk 10
              have HI9 : Hid (Lo w0 q tt n (some ⟨b, o, none⟩) gm gc be bf bw br bm (some ⟨wb, wo, none⟩) wn wc at1 (w6.setCell ⟨q, 10, none⟩ (.bool true)) ∧ Fy Z58 w (w6.setCell ⟨q, 10, none⟩ (.bool true)) ∧ (w6.setCell ⟨q, 10, none⟩ (.bool true)).heap[g]? = some (.cells #[.int .i64 (z : Int), .int .i64 k, .slice ao kn cap] 27)) := by
                have h1 := HI5.out.1.ok
                exact ⟨h1.1, HI5.out.2.1.trans h1.2, h1.2.2 _ _ _ _ HI5.out.2.2 (by unfold Z58; omega)⟩
              go_wp2_with fail
              generalize w6.setCell ⟨q, 10, none⟩ (.bool true) = w9 at HI9 ⊢
              exact bodyPost_end (v := .tuple #[]) (by simp [results, Try.results25, go_sem]) rfl ⟨rfl, by rw [HAT.out]; exact HI9.out.1, HI9.out.2.1⟩
            · have hbe : ((pl : Int) == (at1 : Int)) = false := by simp; omega
              obtain ⟨y, rest2, HYR⟩ : ∃ y rest2, Hid (ylL ps kids body = y :: rest2) := by
                cases hp : ylL ps kids body with
                | nil => rw [hp] at HAT; have := HAT.out; simp at this; omega
                | cons y rest2 => exact ⟨y, rest2, (rfl : y :: rest2 = y :: rest2)⟩
              have hwy := HCC.out.wx y (by rw [HWS.out, HYR.out]; simp)
              obtain ⟨yn, rfl⟩ : ∃ yn : Nat, y = (yn : Int) := ⟨y.toNat, by omega⟩
              have hyn : yn < 60 := by omega
              have hpw : pl < wn := by have := HPLW.out; omega
              have HWY : Hid (w0.cell? ⟨wb, wo + pl, none⟩ = some (.int .i64 (yn : Int))) := by
                have h1 := HCC.out.wnl
                have h2 := HWALL.out pl (by omega)
                have h3 : ws[pl]'(by omega) = (yn : Int) := by
                  have h4 : ws[pl]? = some (yn : Int) := by
                    rw [HWS.out, HYR.out, List.getElem?_append_right (by rw [HPL.out]; omega), HPL.out, Nat.sub_self]; rfl
                  rw [List.getElem?_eq_getElem (by omega)] at h4
                  simpa using h4
                rw [h3] at h2
                exact h2
              have HFB : Hid ((F hd).getLsbD yn = true) := by
                have := first_sh HCC.out.fa.m.cl HCC.out.fa.e.cl HCC.out.fa.f.cl HSH.out HSS.out (by rw [HYE.out]; exact HYR.out)
                rw [HDE.out, Int.toNat_natCast, Int.toNat_natCast] at this
                exact bit_of_le (by omega) this
              have hbt := and_wd1 (F hd) yn
              rw [HFB.out] at hbt
              have hpi0 : (0 : Int) ≤ (pl : Int) := by omega
              have hpi : (pl : Int) < (wn : Int) := by omega
              have HKX : Hid (∀ X : Kp (Sb w6), Lo w0 q tt n (some ⟨b, o, none⟩) gm gc be bf bw br bm (some ⟨wb, wo, none⟩) wn wc at1 X.W ∧ Fy Z58 w X.W ∧ X.W.heap[g]? = some (.cells #[.int .i64 (z : Int), .int .i64 k, .slice ao kn cap] 27)) := fun X => ⟨HI5.out.1.next X.h, HI5.out.2.1.trans (Fy.of X.h), tbox_next HI5.out.2.2 X.h⟩
              have hne : Nonempty (Kp (Sb w6)) := ⟨⟨_, Sb.drew w6⟩⟩
              have a2 := tcell_blk HI5.out.1.blk 2
              have a3 := tcell_blk HI5.out.1.blk 3
              have a4 := tcell_blk HI5.out.1.blk 4
              have a5 := tcell_blk HI5.out.1.blk 5
              have a6 := tcell_blk HI5.out.1.blk 6
              have a7 := tcell_blk HI5.out.1.blk 7
              have a8 := tcell_blk HI5.out.1.blk 8
              have a9 := tcell_blk HI5.out.1.blk 9
              have a10 := tcell_blk HI5.out.1.blk 10
              have e0 := tcell_blk HI5.out.2.2 0
              simp only [List.getElem?_toArray, List.getElem?_cons_zero, List.getElem?_cons_succ] at a2 a3 a4 a5 a6 a7 a8 a9 a10 e0
              clear hpa
              go_upto_region 16 with fail
              clear a2 a3 a4 a5 a6 a7 a8 a9 a10 e0
              have x4 : ∀ X : Kp (Sb w6), X.W.cell? ⟨q, 4, none⟩ = some (.slice (some ⟨bf, 0, none⟩) n n) := fun X => tcell_blk (HKX.out X).1.blk 4
              have x8 : ∀ X : Kp (Sb w6), X.W.cell? ⟨q, 8, none⟩ = some (.slice (some ⟨wb, wo, none⟩) wn wc) := fun X => tcell_blk (HKX.out X).1.blk 8
              have x10 : ∀ X : Kp (Sb w6), X.W.cell? ⟨q, 10, none⟩ = some (.bool true) := fun X => tcell_blk (HKX.out X).1.blk 10
              have xf : ∀ X : Kp (Sb w6), X.W.cell? ⟨bf, hd, none⟩ = some (.int .u64 ((F hd).toNat : Int)) := fun X => (HCC.out.fx.f.of ((HKX.out X).1.bel.block _ HCC.out.fx.f.lt)).cell hdn
              have xw : ∀ X : Kp (Sb w6), X.W.cell? ⟨wb, wo + pl, none⟩ = some (.int .i64 (yn : Int)) := fun X => ((HKX.out X).1.bel.cell (p := ⟨wb, wo + pl, none⟩) hwb).trans HWY.out
              refine wp_region_chain (S := Sb w6) [_, _, _, _, _, _, _, _, _, _, _, _, _, _, _, _, _, _, _, _, _, _, _, _, _, _, _] [_] mixed (by kernel_rfl) (Sb.drew w6) ?_
              simp only [List.cons_append, List.nil_append]
              repeat (go_big_quiet_step (fail))
              refine wpQuiet_nil ?_
              intro X
              have HIX : Hid (Lo w0 q tt n (some ⟨b, o, none⟩) gm gc be bf bw br bm (some ⟨wb, wo, none⟩) wn wc at1 X.W ∧ Fy Z58 w X.W ∧ X.W.heap[g]? = some (.cells #[.int .i64 (z : Int), .int .i64 k, .slice ao kn cap] 27)) := HKX.out X
              generalize X.W = wx at HIX ⊢
              have b10 := tcell_blk HIX.out.1.blk 10
              have f10 := tfrozen_blk HIX.out.1.blk 10
              simp only [List.getElem?_toArray, List.getElem?_cons_zero, List.getElem?_cons_succ] at b10
              have HI9 : Hid (Lo w0 q tt n (some ⟨b, o, none⟩) gm gc be bf bw br bm (some ⟨wb, wo, none⟩) wn wc at1 (wx.setCell ⟨q, 10, none⟩ (.bool true)) ∧ Fy Z58 w (wx.setCell ⟨q, 10, none⟩ (.bool true)) ∧ (wx.setCell ⟨q, 10, none⟩ (.bool true)).heap[g]? = some (.cells #[.int .i64 (z : Int), .int .i64 k, .slice ao kn cap] 27)) := by
                have h1 := HIX.out.1.ok
                exact ⟨h1.1, HIX.out.2.1.trans h1.2, h1.2.2 _ _ _ _ HIX.out.2.2 (by unfold Z58; omega)⟩
              clear x4 x8 x10 xf xw hne
              go_wp2_with fail
              generalize wx.setCell ⟨q, 10, none⟩ (.bool true) = w9 at HI9 ⊢
              exact bodyPost_end (v := .tuple #[]) (by simp [results, Try.results25, go_sem]) rfl ⟨rfl, by rw [HAT.out]; exact HI9.out.1, HI9.out.2.1⟩
          · have hli : ¬ (at1 : Int) < (wn : Int) := by omega
            have hlin : ¬ at1 < wn := by omega
            go_quiet (fail)
            have HI4 : Hid (Lo w0 q tt n (some ⟨b, o, none⟩) gm gc be bf bw br bm (some ⟨wb, wo, none⟩) wn wc at1 (w3.drewN nq) ∧ Fy Z58 w (w3.drewN nq) ∧ (w3.drewN nq).heap[g]? = some (.cells #[.int .i64 (z : Int), .int .i64 k, .slice ao kn cap] 27)) := ⟨HI3.out.1.next (Go.Joins.below_draws _ _ _), HI3.out.2.1.trans (Fy.of (Go.Joins.below_draws _ _ _)), tbox_next HI3.out.2.2 (Go.Joins.below_draws _ _ _)⟩
            generalize w3.drewN nq = w4 at HI4 ⊢
            clear a2 a3 a4 a5 a6 a7 a8 a9 a10 e0
            clear HI3
            have hand : (bits .and .u64 ((V hd).toNat : Int) 9223372036854775808 != 0) = true := by
              have hpo : post = [] := by
                have h1 := HCC.out.wnl
                rw [HWS.out] at h1
                simp only [List.length_append] at h1
                rw [HPL.out] at h1
                have := HAT.out
                exact List.length_eq_zero_iff.1 (by have := hlin; omega)
              have := HRV.out.2
              rw [hpo] at this
              have h := and_ne (a := endW) this (by decide)
              rw [show ((endW.toNat : Nat) : Int) = 9223372036854775808 by decide] at h
              exact h
            have a2 := tcell_blk HI4.out.1.blk 2
            have a3 := tcell_blk HI4.out.1.blk 3
            have a4 := tcell_blk HI4.out.1.blk 4
            have a5 := tcell_blk HI4.out.1.blk 5
            have a6 := tcell_blk HI4.out.1.blk 6
            have a7 := tcell_blk HI4.out.1.blk 7
            have a8 := tcell_blk HI4.out.1.blk 8
            have a9 := tcell_blk HI4.out.1.blk 9
            have a10 := tcell_blk HI4.out.1.blk 10
            have e0 := tcell_blk HI4.out.2.2 0
            simp only [List.getElem?_toArray, List.getElem?_cons_zero, List.getElem?_cons_succ] at a2 a3 a4 a5 a6 a7 a8 a9 a10 e0
            have y0 : w4.cell? ⟨be, hd, none⟩ = some (.bool (E hd)) := (HCC.out.fx.e.of ((HI4.out.1.bel.block _ HCC.out.fx.e.lt))).cell hdn
            have y1 : w4.cell? ⟨bf, hd, none⟩ = some (.int .u64 ((F hd).toNat : Int)) := (HCC.out.fx.f.of ((HI4.out.1.bel.block _ HCC.out.fx.f.lt))).cell hdn
            have y2 : w4.cell? ⟨bw, hd, none⟩ = some (.int .u64 ((V hd).toNat : Int)) := (HCC.out.fx.v.of ((HI4.out.1.bel.block _ HCC.out.fx.v.lt))).cell hdn
            have y3 : w4.cell? ⟨br, hd, none⟩ = some (.bool (R hd)) := (HCC.out.fx.r.of ((HI4.out.1.bel.block _ HCC.out.fx.r.lt))).cell hdn
            have y4 : w4.cell? ⟨bm, hd, none⟩ = some (.bool (M hd)) := (HCC.out.fx.m.of ((HI4.out.1.bel.block _ HCC.out.fx.m.lt))).cell hdn
            rw [HRV.out.1] at y3
            rw [HMD.out] at y4
            have f10 := tfrozen_blk HI4.out.1.blk 10
            have HI5 : Hid (Lo w0 q tt n (some ⟨b, o, none⟩) gm gc be bf bw br bm (some ⟨wb, wo, none⟩) wn wc at1 (w4.setCell ⟨q, 10, none⟩ (.bool true)) ∧ Fy Z58 w (w4.setCell ⟨q, 10, none⟩ (.bool true)) ∧ (w4.setCell ⟨q, 10, none⟩ (.bool true)).heap[g]? = some (.cells #[.int .i64 (z : Int), .int .i64 k, .slice ao kn cap] 27)) := by
              have h1 := HI4.out.1.ok
              exact ⟨h1.1, HI4.out.2.1.trans h1.2, h1.2.2 _ _ _ _ HI4.out.2.2 (by unfold Z58; omega)⟩
            go_upto_region 14 with fail
            generalize w4.setCell ⟨q, 10, none⟩ (.bool true) = w6 at HI5 ⊢
            clear a2 a3 a4 a5 a6 a7 a8 a9 a10 e0 y0 y1 y2 y3 y4 f10 HI4
            by_cases hpa : pl = at1
            · have HPA : Hid (pl = at1) := hpa
              clear hpa
              have hbe : ((pl : Int) == (at1 : Int)) = true := by have := HPA.out; simp; omega
              have HEM : Hid (E hd = true) := by
                have := empty_sh HCC.out.fa.e.cl HSH.out HSS.out (by rw [HYE.out]; exact List.length_eq_zero_iff.1 (by have := HAT.out; have := HPA.out; omega))
                rw [HDE.out, Int.toNat_natCast] at this
                exact this
              have a2 := tcell_blk HI5.out.1.blk 2
              have a3 := tcell_blk HI5.out.1.blk 3
              have a4 := tcell_blk HI5.out.1.blk 4
              have a5 := tcell_blk HI5.out.1.blk 5
              have a6 := tcell_blk HI5.out.1.blk 6
              have a7 := tcell_blk HI5.out.1.blk 7
              have a8 := tcell_blk HI5.out.1.blk 8
              have a9 := tcell_blk HI5.out.1.blk 9
              have a10 := tcell_blk HI5.out.1.blk 10
              have e0 := tcell_blk HI5.out.2.2 0
              simp only [List.getElem?_toArray, List.getElem?_cons_zero, List.getElem?_cons_succ] at a2 a3 a4 a5 a6 a7 a8 a9 a10 e0
              have y0 : w6.cell? ⟨be, hd, none⟩ = some (.bool (E hd)) := (HCC.out.fx.e.of ((HI5.out.1.bel.block _ HCC.out.fx.e.lt))).cell hdn
              have y1 : w6.cell? ⟨bf, hd, none⟩ = some (.int .u64 ((F hd).toNat : Int)) := (HCC.out.fx.f.of ((HI5.out.1.bel.block _ HCC.out.fx.f.lt))).cell hdn
              have y2 : w6.cell? ⟨bw, hd, none⟩ = some (.int .u64 ((V hd).toNat : Int)) := (HCC.out.fx.v.of ((HI5.out.1.bel.block _ HCC.out.fx.v.lt))).cell hdn
              have y3 : w6.cell? ⟨br, hd, none⟩ = some (.bool (R hd)) := (HCC.out.fx.r.of ((HI5.out.1.bel.block _ HCC.out.fx.r.lt))).cell hdn
              have y4 : w6.cell? ⟨bm, hd, none⟩ = some (.bool (M hd)) := (HCC.out.fx.m.of ((HI5.out.1.bel.block _ HCC.out.fx.m.lt))).cell hdn
              rw [HRV.out.1] at y3
              rw [HMD.out] at y4
              rw [HEM.out] at y0
              have f10 := tfrozen_blk HI5.out.1.blk 10
              have HI9 : Hid (Lo w0 q tt n (some ⟨b, o, none⟩) gm gc be bf bw br bm (some ⟨wb, wo, none⟩) wn wc at1 (w6.setCell ⟨q, 10, none⟩ (.bool true)) ∧ Fy Z58 w (w6.setCell ⟨q, 10, none⟩ (.bool true)) ∧ (w6.setCell ⟨q, 10, none⟩ (.bool true)).heap[g]? = some (.cells #[.int .i64 (z : Int), .int .i64 k, .slice ao kn cap] 27)) := by
                have h1 := HI5.out.1.ok
                exact ⟨h1.1, HI5.out.2.1.trans h1.2, h1.2.2 _ _ _ _ HI5.out.2.2 (by unfold Z58; omega)⟩
              go_wp2_with fail
              generalize w6.setCell ⟨q, 10, none⟩ (.bool true) = w9 at HI9 ⊢
              exact bodyPost_end (v := .tuple #[]) (by simp [results, Try.results25, go_sem]) rfl ⟨rfl, by rw [HAT.out]; exact HI9.out.1, HI9.out.2.1⟩
            · have hbe : ((pl : Int) == (at1 : Int)) = false := by simp; omega
              obtain ⟨y, rest2, HYR⟩ : ∃ y rest2, Hid (ylL ps kids body = y :: rest2) := by
                cases hp : ylL ps kids body with
                | nil => rw [hp] at HAT; have := HAT.out; simp at this; omega
                | cons y rest2 => exact ⟨y, rest2, (rfl : y :: rest2 = y :: rest2)⟩
              have hwy := HCC.out.wx y (by rw [HWS.out, HYR.out]; simp)
              obtain ⟨yn, rfl⟩ : ∃ yn : Nat, y = (yn : Int) := ⟨y.toNat, by omega⟩
              have hyn : yn < 60 := by omega
              have hpw : pl < wn := by have := HPLW.out; omega
              have HWY : Hid (w0.cell? ⟨wb, wo + pl, none⟩ = some (.int .i64 (yn : Int))) := by
                have h1 := HCC.out.wnl
                have h2 := HWALL.out pl (by omega)
                have h3 : ws[pl]'(by omega) = (yn : Int) := by
                  have h4 : ws[pl]? = some (yn : Int) := by
                    rw [HWS.out, HYR.out, List.getElem?_append_right (by rw [HPL.out]; omega), HPL.out, Nat.sub_self]; rfl
                  rw [List.getElem?_eq_getElem (by omega)] at h4
                  simpa using h4
                rw [h3] at h2
                exact h2
              have HFB : Hid ((F hd).getLsbD yn = true) := by
                have := first_sh HCC.out.fa.m.cl HCC.out.fa.e.cl HCC.out.fa.f.cl HSH.out HSS.out (by rw [HYE.out]; exact HYR.out)
                rw [HDE.out, Int.toNat_natCast, Int.toNat_natCast] at this
                exact bit_of_le (by omega) this
              have hbt := and_wd1 (F hd) yn
              rw [HFB.out] at hbt
              have hpi0 : (0 : Int) ≤ (pl : Int) := by omega
              have hpi : (pl : Int) < (wn : Int) := by omega
              have HKX : Hid (∀ X : Kp (Sb w6), Lo w0 q tt n (some ⟨b, o, none⟩) gm gc be bf bw br bm (some ⟨wb, wo, none⟩) wn wc at1 X.W ∧ Fy Z58 w X.W ∧ X.W.heap[g]? = some (.cells #[.int .i64 (z : Int), .int .i64 k, .slice ao kn cap] 27)) := fun X => ⟨HI5.out.1.next X.h, HI5.out.2.1.trans (Fy.of X.h), tbox_next HI5.out.2.2 X.h⟩
              have hne : Nonempty (Kp (Sb w6)) := ⟨⟨_, Sb.drew w6⟩⟩
              have a2 := tcell_blk HI5.out.1.blk 2
              have a3 := tcell_blk HI5.out.1.blk 3
              have a4 := tcell_blk HI5.out.1.blk 4
              have a5 := tcell_blk HI5.out.1.blk 5
              have a6 := tcell_blk HI5.out.1.blk 6
              have a7 := tcell_blk HI5.out.1.blk 7
              have a8 := tcell_blk HI5.out.1.blk 8
              have a9 := tcell_blk HI5.out.1.blk 9
              have a10 := tcell_blk HI5.out.1.blk 10
              have e0 := tcell_blk HI5.out.2.2 0
              simp only [List.getElem?_toArray, List.getElem?_cons_zero, List.getElem?_cons_succ] at a2 a3 a4 a5 a6 a7 a8 a9 a10 e0
              clear hpa
              go_upto_region 16 with fail
              clear a2 a3 a4 a5 a6 a7 a8 a9 a10 e0
              have x4 : ∀ X : Kp (Sb w6), X.W.cell? ⟨q, 4, none⟩ = some (.slice (some ⟨bf, 0, none⟩) n n) := fun X => tcell_blk (HKX.out X).1.blk 4
              have x8 : ∀ X : Kp (Sb w6), X.W.cell? ⟨q, 8, none⟩ = some (.slice (some ⟨wb, wo, none⟩) wn wc) := fun X => tcell_blk (HKX.out X).1.blk 8
              have x10 : ∀ X : Kp (Sb w6), X.W.cell? ⟨q, 10, none⟩ = some (.bool true) := fun X => tcell_blk (HKX.out X).1.blk 10
              have xf : ∀ X : Kp (Sb w6), X.W.cell? ⟨bf, hd, none⟩ = some (.int .u64 ((F hd).toNat : Int)) := fun X => (HCC.out.fx.f.of ((HKX.out X).1.bel.block _ HCC.out.fx.f.lt)).cell hdn
              have xw : ∀ X : Kp (Sb w6), X.W.cell? ⟨wb, wo + pl, none⟩ = some (.int .i64 (yn : Int)) := fun X => ((HKX.out X).1.bel.cell (p := ⟨wb, wo + pl, none⟩) hwb).trans HWY.out
              refine wp_region_chain (S := Sb w6) [_, _, _, _, _, _, _, _, _, _, _, _, _, _, _, _, _, _, _, _, _, _, _, _, _, _, _] [_] mixed (by kernel_rfl) (Sb.drew w6) ?_
              simp only [List.cons_append, List.nil_append]
              repeat (go_big_quiet_step (fail))
              refine wpQuiet_nil ?_
              intro X
              have HIX : Hid (Lo w0 q tt n (some ⟨b, o, none⟩) gm gc be bf bw br bm (some ⟨wb, wo, none⟩) wn wc at1 X.W ∧ Fy Z58 w X.W ∧ X.W.heap[g]? = some (.cells #[.int .i64 (z : Int), .int .i64 k, .slice ao kn cap] 27)) := HKX.out X
              generalize X.W = wx at HIX ⊢
              have b10 := tcell_blk HIX.out.1.blk 10
              have f10 := tfrozen_blk HIX.out.1.blk 10
              simp only [List.getElem?_toArray, List.getElem?_cons_zero, List.getElem?_cons_succ] at b10
              have HI9 : Hid (Lo w0 q tt n (some ⟨b, o, none⟩) gm gc be bf bw br bm (some ⟨wb, wo, none⟩) wn wc at1 (wx.setCell ⟨q, 10, none⟩ (.bool true)) ∧ Fy Z58 w (wx.setCell ⟨q, 10, none⟩ (.bool true)) ∧ (wx.setCell ⟨q, 10, none⟩ (.bool true)).heap[g]? = some (.cells #[.int .i64 (z : Int), .int .i64 k, .slice ao kn cap] 27)) := by
                have h1 := HIX.out.1.ok
                exact ⟨h1.1, HIX.out.2.1.trans h1.2, h1.2.2 _ _ _ _ HIX.out.2.2 (by unfold Z58; omega)⟩
              clear x4 x8 x10 xf xw hne
              go_wp2_with fail
              generalize wx.setCell ⟨q, 10, none⟩ (.bool true) = w9 at HI9 ⊢
              exact bodyPost_end (v := .tuple #[]) (by simp [results, Try.results25, go_sem]) rfl ⟨rfl, by rw [HAT.out]; exact HI9.out.1, HI9.out.2.1⟩
end Go.Proofs.Ytldfiofgknmcgaa
