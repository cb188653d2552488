/-
  The contract of (*maker).number.
-/
import Derived.Test.YtpbnnmfjahckmaaMkHold
import Derived.Test.YtpbnnmfjahckmaaIxClosed
import Derived.BigQuiet
import Derived.Deep.AppendLies
import Derived.Deep.Cut
namespace Go.Proofs.Ytpbnnmfjahckmaa
open Go.RowKit
open Cg

/-- What number leaves. -/
def NmQ (w0 : World) (mb T n : Nat) (pv : Value) (be bf bw br bm : Nat) (E : Nat → Bool) (F : Nat → Wd) (kv sv nv : Value) (ws : List Value) (ks ss : List (List It)) (nx : List (List Int)) (ps : List Pd) (k : List It) (w : World) (e : Ending) (w' : World) : Prop :=
  ∃ z kv' sv' us' vs' ks' ss', e = .returned (.int .i64 z) ∧ NmP T ps E F ks ss k z ks' ss' ∧ Mk w0 mb (T : Int) (n : Int) pv (.slice (some ⟨be, 0, none⟩) n n) (.slice (some ⟨bf, 0, none⟩) n n) (.slice (some ⟨bw, 0, none⟩) n n) (.slice (some ⟨br, 0, none⟩) n n) (.slice (some ⟨bm, 0, none⟩) n n) kv' sv' nv us' vs' ws ks' ss' nx w' ∧ Fm (Mx mb kv sv) w w' ∧
    (∀ q, kv'.ownBlock = some q → kv.ownBlock = some q ∨ w.heap.size ≤ q) ∧ (∀ q, sv'.ownBlock = some q → sv.ownBlock = some q ∨ w.heap.size ≤ q)
structure RNm (wr : World) (mb B T n : Nat) (pv : Value) (ps : List Pd) (E : Nat → Bool) (F : Nat → Wd) (be bf bw br bm : Nat) (ko : Option Addr) (kn kc : Nat) (k : List It) (va : Option Addr) (vn vc : Nat) (xs : List Value) (gb2 : Nat) (gr : Nat) (cr : Nat) (ra : Option Addr) (rn : Nat) (rc : Nat) (rl : List It) (d : Nat → Bool) (x35 x36 x37 x38 x39 x40 x41 x42 x43 x44 x45 x46 x47 x48 x49 x50 x51 x52 x53 x54 x55 : Value) (W : World) : Prop where
  f0 : d 0 = true → x35 = (.pointer (some ⟨mb, 0, none⟩))
  f1 : d 1 = true → x36 = (.pointer (some ⟨mb, 0, none⟩))
  f2 : d 2 = true → x37 = (.pointer (some ⟨mb, 0, none⟩))
  f3 : d 3 = true → x38 = (.pointer (some ⟨mb, 9, none⟩))
  f4 : d 4 = true → x39 = (.pointer (some ⟨mb, 9, none⟩))
  f5 : d 5 = true → x40 = (.slice va vn vc)
  f6 : d 6 = true → x41 = (.pointer (some ⟨mb, 0, none⟩))
  f7 : d 7 = true → x42 = (.pointer (some ⟨mb, 0, none⟩))
  f8 : d 8 = true → x43 = (.pointer (some ⟨mb, 0, none⟩))
  f9 : d 9 = true → x44 = (.agg #[.int .i64 (T : Int), .int .i64 (n : Int), pv])
  f10 : d 10 = true → x45 = (.pointer (some ⟨mb, 0, none⟩))
  f11 : d 11 = true → x46 = (.pointer (some ⟨mb, 0, none⟩))
  f12 : d 12 = true → x47 = (.pointer (some ⟨mb, 3, none⟩))
  f13 : d 13 = true → x48 = (.agg #[.slice (some ⟨be, 0, none⟩) n n, .slice (some ⟨bf, 0, none⟩) n n, .slice (some ⟨bw, 0, none⟩) n n, .slice (some ⟨br, 0, none⟩) n n, .slice (some ⟨bm, 0, none⟩) n n])
  f14 : d 14 = true → x49 = (.slice ko kn kc)
  f15 : d 15 = true → x50 = (.slice ra rn rc)
  f16 : d 16 = true → x51 = (.slice (some ⟨gb2, 0, none⟩) 1 1)
  f17 : d 17 = true → x52 = (.slice (some ⟨gr, 0, none⟩) (vn + 1) cr)
  f18 : d 18 = true → x53 = (.pointer (some ⟨mb, 0, none⟩))
  f19 : d 19 = true → x54 = (.pointer (some ⟨mb, 9, none⟩))
  f20 : d 20 = true → x55 = (.pointer (some ⟨mb, 9, none⟩))
  f21 : d 21 = true → True
  ol : ∀ i, i < 21 → d 21 = true → d i = true
  cA : d 17 = true → d 16 = true
  cB : d 16 = true → d 15 = true
  cF : d 19 = true → d 18 = true
  cG : d 20 = true → d 19 = true
  kp : d 21 = false → wr.grownBy W (Value.ownBlock (.slice va vn vc))
  cl : d 15 = true → Clsd T ps E F k rl
  ro : d 15 = true → d 21 = false → W.ownsRow wr.heap.size 145 3 (.slice ra rn rc) rl.length (ics rl)
  r0 : d 17 = false → W.ownsRow B 103 1 (.slice va vn vc) vn xs
  b0 : d 16 = true → d 17 = false → W.heap[gb2]? = some (.cells #[(.slice ra rn rc)] 103)
  r1 : d 17 = true → d 21 = false → W.ownsRow B 103 1 (.slice (some ⟨gr, 0, none⟩) (vn + 1) cr) (vn + 1) (xs ++ [(.slice ra rn rc)]) ∧ ((Value.ownBlock (.slice va vn vc)) = some gr ∨ wr.heap.size ≤ gr)
  fin : d 21 = true → ∃ V, wr.grownBy V (Value.ownBlock (.slice va vn vc)) ∧ V.ownsRow B 103 1 (.slice (some ⟨gr, 0, none⟩) (vn + 1) cr) (vn + 1) (xs ++ [(.slice ra rn rc)]) ∧ ((Value.ownBlock (.slice va vn vc)) = some gr ∨ wr.heap.size ≤ gr) ∧ V.ownsRow wr.heap.size 145 3 (.slice ra rn rc) rl.length (ics rl) ∧ W = V.setCell ⟨mb, 9, none⟩ (.slice (some ⟨gr, 0, none⟩) (vn + 1) cr)

set_option maxHeartbeats 16000000 in
set_option maxRecDepth 20000 in
theorem number_any (w0 : World) (mb T n : Nat) (pv : Value) (ps : List Pd) (be bf bw br bm : Nat) (E : Nat → Bool) (F V : Nat → Wd) (R M : Nat → Bool) (kv sv nv : Value) (us vs ws : List Value) (ks ss : List (List It)) (nx : List (List Int)) (w : World) (h : Mk w0 mb (T : Int) (n : Int) pv (.slice (some ⟨be, 0, none⟩) n n) (.slice (some ⟨bf, 0, none⟩) n n) (.slice (some ⟨bw, 0, none⟩) n n) (.slice (some ⟨br, 0, none⟩) n n) (.slice (some ⟨bm, 0, none⟩) n n) kv sv nv us vs ws ks ss nx w)
    (hp : Pds w0 pv ps) (hk : chk (T : Int) (n : Int) ps = 0) (hx : Fx n be bf bw br bm E F V R M w0) (uv : Value) (k : List It) (hu : w.ownsRow w0.heap.size 145 3 uv k.length (ics k)) (ok : ∀ x ∈ k, OkIt T ps x) (hfew : ks.length ≤ 1000 ∧ ss.length ≤ 1000) (hlen : ss.length = ks.length) :
    Calls Try.prog 71 #[.pointer (some ⟨mb, 0, none⟩), uv] w fun e w' => NmQ w0 mb T n pv be bf bw br bm E F kv sv nv ws ks ss nx ps k w e w' := by
  obtain ⟨KVV, HKVV⟩ : ∃ p : Value × Value, Hid (p = (kv, sv)) := ⟨_, rfl⟩
  have HKVE : Hid (KVV.1 = kv ∧ KVV.2 = sv) := by have := HKVV.out; subst this; exact ⟨rfl, rfl⟩
  obtain ⟨i1, hi1, hy0, hy1, hy2⟩ := minfo_parts info103
  have HFEW : Hid (ks.length ≤ 1000 ∧ ss.length ≤ 1000) := hfew
  have HLN : Hid (ss.length = ks.length) := hlen
  have HM0 : Hid _ := h
  have HU0 : Hid (w.ownsRow w0.heap.size 145 3 uv k.length (ics k)) := hu
  have HITS : Hid (∀ W, Below w.heap.size w W → Its W uv k) := fun W hb => its_of_own (own_below hu hb) (mown_le hu)
  have HKI : Hid (∀ (i : Nat) l, ks[i]? = some l → ∃ u, us[i]? = some u ∧ w.ownsRow w0.heap.size 145 3 u l.length (ics l)) := h.ki
  have HUSL : Hid (us.length = ks.length) := by have := h.kr.1; show _ = _; omega
  have HCL0 : Hid (∀ W, Below w0.heap.size w0 W → W.ownsRow w0.heap.size 145 3 uv k.length (ics k) → Calls Try.prog 85 #[.agg #[.int .i64 (T : Int), .int .i64 (n : Int), pv], .agg #[.slice (some ⟨be, 0, none⟩) n n, .slice (some ⟨bf, 0, none⟩) n n, .slice (some ⟨bw, 0, none⟩) n n, .slice (some ⟨br, 0, none⟩) n n, .slice (some ⟨bm, 0, none⟩) n n], uv] W fun e w' => ∃ v r, e = .returned v ∧ Clsd T ps E F k r ∧ w'.ownsRow W.heap.size 145 3 v r.length (ics r) ∧ r.length ≤ 11439 ∧ Below W.heap.size W w') :=
    fun W hb hr => closed_any T n pv ps uv k be bf bw br bm E F V R M W (hp.below hb) hk (its_of_own hr (mown_le hr)) ok (hx.next hb)
  obtain ⟨ko, kn, kc, rfl⟩ := own_form hu
  obtain rfl : kn = k.length := by
    rcases hu.2 with ⟨h1, h2⟩ | ⟨q, cap, cur, hv, -⟩
    · cases h1; exact h2.symm
    · cases hv; rfl
  obtain ⟨ka, kq, kcc, rfl⟩ := own_form h.kr
  obtain rfl : kq = ks.length := by
    rcases h.kr.2 with ⟨h1, h2⟩ | ⟨q, cap, cur, hv, -⟩
    · cases h1; exact h2.symm
    · cases hv; rfl
  obtain ⟨va, vq, vc, rfl⟩ := own_form h.sr
  obtain rfl : vq = ss.length := by
    rcases h.sr.2 with ⟨h1, h2⟩ | ⟨q, cap, cur, hv, -⟩
    · cases h1; exact h2.symm
    · cases hv; rfl
  have hkl := mown_le hu
  clear h hu hp hk hx ok hfew hlen HKVV
  by_cases h0 : k = []
  · subst h0
    have HFIN : Hid (NmQ w0 mb T n pv be bf bw br bm E F KVV.1 KVV.2 nv ws ks ss nx ps [] w (.returned (.int .i64 (-1))) w) :=
      ⟨-1, _, _, _, _, _, _, rfl, ⟨Or.inl ⟨rfl, rfl⟩, Or.inl ⟨rfl, rfl⟩⟩, HM0.out, Fm.refl _ _, fun q hq => Or.inl (by rw [HKVE.out.1]; exact hq), fun q hq => Or.inl (by rw [HKVE.out.2]; exact hq)⟩
    rw [HKVE.out.1, HKVE.out.2] at HFIN
    simp only [List.length_nil]
    go_enter Try.func71, Try.ntmps71
    go_wp2_with fail
    go_ret
    exact HFIN.out
  · have HKN : Hid (k ≠ []) := h0
    have hkn : ((k.length : Int) == 0) = false := by
      simp only [beq_eq_false_iff_ne, ne_eq]
      intro e; exact h0 (List.length_eq_zero_iff.1 (by omega))
    have c8 := mcell_blk HM0.out.bx 8
    simp only [List.getElem?_toArray, List.getElem?_cons_zero, List.getElem?_cons_succ] at c8
    have hk1000 := HFEW.out.1
    rw [show NmQ w0 mb T n pv be bf bw br bm E F (.slice ka ks.length kcc) (.slice va ss.length vc) nv ws ks ss nx ps k w = NmQ w0 mb T n pv be bf bw br bm E F KVV.1 KVV.2 nv ws ks ss nx ps k w by rw [HKVE.out.1, HKVE.out.2]]
    obtain ⟨kl, HKLE⟩ : ∃ z, Hid (k.length = z) := ⟨_, (rfl : k.length = _)⟩
    clear h0
    go_enter Try.func71, Try.ntmps71
    go_wp2_with fail
    go_loopw [15] (fun y wr => ∃ i : Nat, i ≤ ks.length ∧ y = .int .i64 (i : Int) ∧ Hid (Below w.heap.size w wr ∧ k ∉ ks.take i)) (fun y _ => ks.length - (intOf y).toNat)
    case atStart => exact ⟨0, by omega, rfl, Below.refl _ _, by simp⟩
    case round =>
      obtain ⟨i, hi, rfl, HI⟩ := hrel
      clear c8
      by_cases hlt : i < ks.length
      · have hk1 : (i : Int) < (ks.length : Int) := by omega
        have hk0 : (0 : Int) ≤ (i : Int) := by omega
        obtain ⟨u, hu1, hu2⟩ := HKI.out i _ (List.getElem?_eq_getElem hlt)
        obtain ⟨kb, rfl⟩ : ∃ kb, ka = some ⟨kb, 0, none⟩ := by
          obtain ⟨fb, fcap, hfe⟩ := Go.Joins.ownsRow_form HM0.out.kr (by omega)
          cases hfe; exact ⟨fb, rfl⟩
        have hca := (own_below HM0.out.kr HI.out.1).cells (g := kb) rfl i u hu1
        rw [Addr.add_lit, Nat.zero_add] at hca
        have HIU : Hid (Its wr u ks[i]) := its_of_own (own_below hu2 HI.out.1) (mown_le hu2)
        obtain ⟨uo, un, uc, rfl⟩ := own_form hu2
        have hcall := equalIt_any (.slice uo un uc) (.slice ko k.length kc) ks[i] k wr HIU.out (HITS.out wr HI.out.1)
        have HSAME : Hid (decide (ks[i] = k) = true → To ks k (i : Int)) := fun e => by
          have e2 := of_decide_eq_true e
          exact Or.inr ⟨HKN.out, i, rfl, by rw [List.getElem?_eq_getElem hlt, e2]⟩
        have HOTHER : Hid (decide (ks[i] = k) = false → k ∉ ks.take (i + 1)) := fun e hm => by
          have e2 := of_decide_eq_false e
          rw [List.take_succ_eq_append_getElem hlt, List.mem_append] at hm
          rcases hm with hm | hm
          · exact HI.out.2 hm
          · simp at hm; exact e2 hm.symm
        obtain ⟨b, HB⟩ : ∃ b, Hid (decide (ks[i] = k) = b) := ⟨_, (rfl : decide (ks[i] = k) = _)⟩
        rw [HB.out] at hcall HSAME HOTHER
        clear hu1 hu2 HIU
        go_wp2_with fail
        refine hcall.mono ?_
        rintro _ w3 ⟨rfl, hb3⟩
        have HB3 : Hid (Below w.heap.size w w3) := HI.out.1.trans (hb3.mono HI.out.1.size)
        clear hcall hb3 hca HI
        cases b with
        | true =>
          have HFIN : Hid (NmQ w0 mb T n pv be bf bw br bm E F KVV.1 KVV.2 nv ws ks ss nx ps k w (.returned (.int .i64 (i : Int))) w3) :=
            ⟨(i : Int), _, _, _, _, _, _, rfl, ⟨HSAME.out rfl, Or.inl ⟨rfl, rfl⟩⟩, HM0.out.next HB3.out, Fm.of HB3.out, fun q hq => Or.inl (by rw [HKVE.out.1]; exact hq), fun q hq => Or.inl (by rw [HKVE.out.2]; exact hq)⟩
          clear HSAME HOTHER
          go_wp2_with fail
          go_ret
          exact HFIN.out
        | false =>
          have HNO : Hid (k ∉ ks.take (i + 1)) := HOTHER.out rfl
          clear HSAME HOTHER
          go_wp2_with fail
          go_roundw
          case rel => exact ⟨i + 1, by omega, by go_num, HB3.out, HNO.out⟩
          case measure => simp [intOf]; omega
      · have hk1 : ¬ (i : Int) < (ks.length : Int) := by omega
        have HNI : Hid (k ∉ ks) := by
          have := HI.out.2
          rw [List.take_of_length_le (by omega)] at this
          exact this
        have HM1 : Hid _ := HM0.out.next HI.out.1
        have HU1 : Hid (wr.ownsRow w0.heap.size 145 3 (.slice ko k.length kc) k.length (ics k)) := own_below HU0.out HI.out.1
        have HBW1 : Hid (Below w.heap.size w wr) := HI.out.1
        have HA1 : Hid (_) := HM1.out.kr.alloc (Obj.cells #[.slice ko k.length kc] 103)
        have hsz : w0.heap.size ≤ wr.heap.size := HM1.out.bw.size
        have c8 := (mcell_blk ((HM1.out.next (below_alloc wr (Obj.cells #[.slice ko k.length kc] 103))).bx) 8)
        have c8r := mcell_blk HM1.out.bx 8
        simp only [List.getElem?_toArray, List.getElem?_cons_zero, List.getElem?_cons_succ] at c8 c8r
        clear HI
        go_wp2_with (at_builtin; refine wpList_append_lies _ rfl _ _ 97 rfl w0.heap.size 103 i1 (.slice none 0 0) 1 24 Try.underlying97 hi1 hy0 hy1 hy2 rfl (by decide) _ _ _ rfl HA1.out ⟨wr.heap.size, 0, none⟩ 1 1 [.slice ko k.length kc] rfl rfl (World.news_of_block (t := 103) (fr := (0, 0)) (heap_alloc_new wr _)) (by simp [Value.oneCell']) (by omega) (by unfold maxLen; omega) (by omega) (by simp; omega) _ rfl ?_)
        intro kg kp w7 hown' hgrow hwhere hlt7
        have HOWN7 : Hid (w7.ownsRow w0.heap.size 103 1 (.slice (some ⟨kg, 0, none⟩) (ks.length + 1) kp) (ks.length + 1) (us ++ [.slice ko k.length kc])) := hown'
        have HG7 : Hid (wr.grownBy w7 (Value.slice ka ks.length kcc).ownBlock) := mgb_then (mgb_alloc (mgb_refl _ _) _) hgrow
        have HKG : Hid ((Value.slice ka ks.length kcc).ownBlock = some kg ∨ wr.heap.size ≤ kg) := by
          rcases hwhere with h | h
          · exact Or.inl h
          · exact Or.inr (by rw [h]; simp)
        have HU7 : Hid (w7.ownsRow w0.heap.size 145 3 (.slice ko k.length kc) k.length (ics k)) := HU1.out.kept HG7.out (by
          cases e : (Value.slice ko k.length kc).ownBlock with
          | none => exact Or.inl rfl
          | some q => exact Or.inr (fun e2 => mown_ne HU1.out HM1.out.kr (by decide) e e2.symm))
        have HM8 : Hid _ := HM1.out.pushK HG7.out HOWN7.out HKG.out HU7.out
        have hbx7 := (HG7.out.block mb (mheap_lt HM1.out.bx) (fun e => mown_box HM1.out.kr HM1.out.bx (by decide) e.symm)).trans HM1.out.bx
        have d8 := mcell_blk hbx7 8
        have e8 := mfrozen_blk hbx7 8
        simp only [List.getElem?_toArray, List.getElem?_cons_zero, List.getElem?_cons_succ] at d8
        clear hown' hgrow hwhere hbx7 c8 c8r
        go_upto_region 10 with fail
        clear d8 e8
        have HFM8 : Hid (Fm (Mx mb KVV.1 KVV.2) w (w7.setCell ⟨mb, 8, none⟩ (.slice (some ⟨kg, 0, none⟩) (ks.length + 1) kp)) ∧ ((Value.slice ka ks.length kcc).ownBlock = some kg ∨ w.heap.size ≤ kg)) := by
          refine ⟨⟨HG7.out.os.trans HBW1.out.os, HG7.out.tape.trans HBW1.out.tape, HG7.out.output.trans HBW1.out.output, Nat.le_trans HBW1.out.size (by simpa [World.setCell] using HG7.out.size), fun q hq hx => ?_⟩, HKG.out.imp id (fun e => Nat.le_trans HBW1.out.size e)⟩
          rw [mset_ne w7 8 _ (fun e => hx (Or.inl e)), HG7.out.block q (Nat.lt_of_lt_of_le hq HBW1.out.size) (fun e => hx (Or.inr (Or.inl (by rw [HKVE.out.1]; exact e.symm))))]
          exact HBW1.out.block q hq
        obtain ⟨w8, HW8⟩ : ∃ z, Hid (w7.setCell ⟨mb, 8, none⟩ (.slice (some ⟨kg, 0, none⟩) (ks.length + 1) kp) = z) := ⟨_, (rfl : w7.setCell ⟨mb, 8, none⟩ (.slice (some ⟨kg, 0, none⟩) (ks.length + 1) kp) = _)⟩
        have HU8 : Hid (w8.ownsRow w0.heap.size 145 3 (.slice ko k.length kc) k.length (ics k)) := by
          rw [← HW8.out]
          exact row_keep HU7.out fun q hq => mset_ne w7 8 _ (fun e => by subst e; exact mown_box HU1.out HM1.out.bx (by decide) hq)
        rw [HW8.out] at HM8 HFM8 ⊢
        clear HW8 HM1 HU1 HU7 HG7 HOWN7 HKG HA1
        have HOWN : Hid (w8.ownsRow w0.heap.size 103 1 (.slice va ss.length vc) ss.length vs) := HM8.out.sr
        have HBX : Hid _ := HM8.out.bx
        have HMB : Hid (mb < w8.heap.size ∧ some mb ≠ (Value.slice va ss.length vc).ownBlock) := ⟨mheap_lt HM8.out.bx, fun e => mown_box HM8.out.sr HM8.out.bx (by decide) e.symm⟩
        have HBW : Hid (w0.heap.size ≤ w8.heap.size) := HM8.out.bw.size
        have HBOUND : Hid (ss.length ≤ 1000) := HFEW.out.2
        have HCL : Hid (∀ W, w8.grownBy W (Value.slice va ss.length vc).ownBlock → Calls Try.prog 85 #[.agg #[.int .i64 (T : Int), .int .i64 (n : Int), pv], .agg #[.slice (some ⟨be, 0, none⟩) n n, .slice (some ⟨bf, 0, none⟩) n n, .slice (some ⟨bw, 0, none⟩) n n, .slice (some ⟨br, 0, none⟩) n n, .slice (some ⟨bm, 0, none⟩) n n], .slice ko k.length kc] W fun e w' => ∃ v r, e = .returned v ∧ Clsd T ps E F k r ∧ w'.ownsRow W.heap.size 145 3 v r.length (ics r) ∧ r.length ≤ 11439 ∧ Below W.heap.size W w') := fun W hW => by
          refine HCL0.out W (Below.grown HM8.out.bw hW HM8.out.bw.size (fun q hq => (HM8.out.sr.lt q hq).1)) (HU8.out.kept hW ?_)
          cases e : (Value.slice ko k.length kc).ownBlock with
          | none => exact Or.inl rfl
          | some q => exact Or.inr (fun e2 => mown_ne HU8.out HM8.out.sr (by decide) e e2.symm)
        clear HCL0 HITS HKI HUSL HU0 HM0 HBW1 hk1
        refine wp_region_free mixed (fun a0 d a W => ∃ (gb2 : Nat) (gr : Nat) (cr : Nat) (ra : Option Addr) (rn : Nat) (rc : Nat) (rl : List It) (x35 x36 x37 x38 x39 x40 x41 x42 x43 x44 x45 x46 x47 x48 x49 x50 x51 x52 x53 x54 x55 : Value), a = (((((((((((((((((((((a0.put (some 35) x35).put (some 36) x36).put (some 37) x37).put (some 38) x38).put (some 39) x39).put (some 40) x40).put (some 41) x41).put (some 42) x42).put (some 43) x43).put (some 44) x44).put (some 45) x45).put (some 46) x46).put (some 47) x47).put (some 48) x48).put (some 49) x49).put (some 50) x50).put (some 51) x51).put (some 52) x52).put (some 53) x53).put (some 54) x54).put (some 55) x55) ∧ Hid (RNm w8 mb w0.heap.size T n pv ps E F be bf bw br bm ko k.length kc k va ss.length vc vs gb2 gr cr ra rn rc rl d x35 x36 x37 x38 x39 x40 x41 x42 x43 x44 x45 x46 x47 x48 x49 x50 x51 x52 x53 x54 x55 W)) (by kernel_rfl) ⟨0, 0, 0, none, 0, 0, [], undef, undef, undef, undef, undef, undef, undef, undef, undef, undef, undef, undef, undef, undef, undef, undef, undef, undef, undef, undef, undef, by first | (simp only [Act.put, List.setIfInBounds_toArray, List.set_cons_zero, List.set_cons_succ]; done) | (simp only [Act.put, List.setIfInBounds_toArray, List.set_cons_zero, List.set_cons_succ]; rfl), ?_⟩ ?_ ?_
        · exact ⟨fun h => no_way h, fun h => no_way h, fun h => no_way h, fun h => no_way h, fun h => no_way h, fun h => no_way h, fun h => no_way h, fun h => no_way h, fun h => no_way h, fun h => no_way h, fun h => no_way h, fun h => no_way h, fun h => no_way h, fun h => no_way h, fun h => no_way h, fun h => no_way h, fun h => no_way h, fun h => no_way h, fun h => no_way h, fun h => no_way h, fun h => no_way h, fun _ => trivial, fun _ _ h => no_way h, fun h => no_way h, fun h => no_way h, fun h => no_way h, fun h => no_way h, fun _ => mgb_drew (mgb_refl _ _), fun h => no_way h, fun h => no_way h, fun _ => HOWN.out, fun h => no_way h, fun h => no_way h, fun h => no_way h⟩
        · simp only [StepAll, and_true]
          refine ⟨?_, ?_, ?_, ?_, ?_, ?_, ?_, ?_, ?_, ?_, ?_, ?_, ?_, ?_, ?_, ?_, ?_, ?_, ?_, ?_, ?_, ?_⟩
          · intro d a W hI hd hdep
            obtain ⟨gb2, gr, cr, ra, rn, rc, rl, x35, x36, x37, x38, x39, x40, x41, x42, x43, x44, x45, x46, x47, x48, x49, x50, x51, x52, x53, x54, x55, rfl, hF⟩ := hI
            clear hdep hd
            intro K hK
            simp only [Act.put, List.setIfInBounds_toArray, List.set_cons_zero, List.set_cons_succ]
            go_simp
            refine hK.out _ _ ⟨gb2, gr, cr, ra, rn, rc, rl, (.pointer (some ⟨mb, 0, none⟩)), x36, x37, x38, x39, x40, x41, x42, x43, x44, x45, x46, x47, x48, x49, x50, x51, x52, x53, x54, x55, by first | (simp only [Act.put, List.setIfInBounds_toArray, List.set_cons_zero, List.set_cons_succ]; done) | (simp only [Act.put, List.setIfInBounds_toArray, List.set_cons_zero, List.set_cons_succ]; rfl), ?_⟩
            exact ⟨fun _ => rfl, fun h => hF.out.f1 (by simpa using h), fun h => hF.out.f2 (by simpa using h), fun h => hF.out.f3 (by simpa using h), fun h => hF.out.f4 (by simpa using h), fun h => hF.out.f5 (by simpa using h), fun h => hF.out.f6 (by simpa using h), fun h => hF.out.f7 (by simpa using h), fun h => hF.out.f8 (by simpa using h), fun h => hF.out.f9 (by simpa using h), fun h => hF.out.f10 (by simpa using h), fun h => hF.out.f11 (by simpa using h), fun h => hF.out.f12 (by simpa using h), fun h => hF.out.f13 (by simpa using h), fun h => hF.out.f14 (by simpa using h), fun h => hF.out.f15 (by simpa using h), fun h => hF.out.f16 (by simpa using h), fun h => hF.out.f17 (by simpa using h), fun h => hF.out.f18 (by simpa using h), fun h => hF.out.f19 (by simpa using h), fun h => hF.out.f20 (by simpa using h), fun h => hF.out.f21 (by simpa using h), fun i hi h => by have := hF.out.ol i hi (by simpa using h); simp [this], fun h => by have := hF.out.cA (by simpa using h); simpa using this, fun h => by have := hF.out.cB (by simpa using h); simpa using this, fun h => by have := hF.out.cF (by simpa using h); simpa using this, fun h => by have := hF.out.cG (by simpa using h); simpa using this, fun h => hF.out.kp (by simpa using h), fun h => hF.out.cl (by simpa using h), fun h h2 => hF.out.ro (by simpa using h) (by simpa using h2), fun h => hF.out.r0 (by simpa using h), fun h h2 => hF.out.b0 (by simpa using h) (by simpa using h2), fun h h2 => hF.out.r1 (by simpa using h) (by simpa using h2), fun h => hF.out.fin (by simpa using h)⟩
          · intro d a W hI hd hdep
            obtain ⟨gb2, gr, cr, ra, rn, rc, rl, x35, x36, x37, x38, x39, x40, x41, x42, x43, x44, x45, x46, x47, x48, x49, x50, x51, x52, x53, x54, x55, rfl, hF⟩ := hI
            clear hdep hd
            intro K hK
            simp only [Act.put, List.setIfInBounds_toArray, List.set_cons_zero, List.set_cons_succ]
            go_simp
            refine hK.out _ _ ⟨gb2, gr, cr, ra, rn, rc, rl, x35, (.pointer (some ⟨mb, 0, none⟩)), x37, x38, x39, x40, x41, x42, x43, x44, x45, x46, x47, x48, x49, x50, x51, x52, x53, x54, x55, by first | (simp only [Act.put, List.setIfInBounds_toArray, List.set_cons_zero, List.set_cons_succ]; done) | (simp only [Act.put, List.setIfInBounds_toArray, List.set_cons_zero, List.set_cons_succ]; rfl), ?_⟩
            exact ⟨fun h => hF.out.f0 (by simpa using h), fun _ => rfl, fun h => hF.out.f2 (by simpa using h), fun h => hF.out.f3 (by simpa using h), fun h => hF.out.f4 (by simpa using h), fun h => hF.out.f5 (by simpa using h), fun h => hF.out.f6 (by simpa using h), fun h => hF.out.f7 (by simpa using h), fun h => hF.out.f8 (by simpa using h), fun h => hF.out.f9 (by simpa using h), fun h => hF.out.f10 (by simpa using h), fun h => hF.out.f11 (by simpa using h), fun h => hF.out.f12 (by simpa using h), fun h => hF.out.f13 (by simpa using h), fun h => hF.out.f14 (by simpa using h), fun h => hF.out.f15 (by simpa using h), fun h => hF.out.f16 (by simpa using h), fun h => hF.out.f17 (by simpa using h), fun h => hF.out.f18 (by simpa using h), fun h => hF.out.f19 (by simpa using h), fun h => hF.out.f20 (by simpa using h), fun h => hF.out.f21 (by simpa using h), fun i hi h => by have := hF.out.ol i hi (by simpa using h); simp [this], fun h => by have := hF.out.cA (by simpa using h); simpa using this, fun h => by have := hF.out.cB (by simpa using h); simpa using this, fun h => by have := hF.out.cF (by simpa using h); simpa using this, fun h => by have := hF.out.cG (by simpa using h); simpa using this, fun h => hF.out.kp (by simpa using h), fun h => hF.out.cl (by simpa using h), fun h h2 => hF.out.ro (by simpa using h) (by simpa using h2), fun h => hF.out.r0 (by simpa using h), fun h h2 => hF.out.b0 (by simpa using h) (by simpa using h2), fun h h2 => hF.out.r1 (by simpa using h) (by simpa using h2), fun h => hF.out.fin (by simpa using h)⟩
          · intro d a W hI hd hdep
            obtain ⟨gb2, gr, cr, ra, rn, rc, rl, x35, x36, x37, x38, x39, x40, x41, x42, x43, x44, x45, x46, x47, x48, x49, x50, x51, x52, x53, x54, x55, rfl, hF⟩ := hI
            have hd1 : d 1 = true := dep_of hdep 1 (by kernel_rfl)
            obtain rfl := hF.out.f1 hd1
            clear hdep hd hd1
            intro K hK
            simp only [Act.put, List.setIfInBounds_toArray, List.set_cons_zero, List.set_cons_succ]
            go_simp
            refine hK.out _ _ ⟨gb2, gr, cr, ra, rn, rc, rl, x35, (.pointer (some ⟨mb, 0, none⟩)), (.pointer (some ⟨mb, 0, none⟩)), x38, x39, x40, x41, x42, x43, x44, x45, x46, x47, x48, x49, x50, x51, x52, x53, x54, x55, by first | (simp only [Act.put, List.setIfInBounds_toArray, List.set_cons_zero, List.set_cons_succ]; done) | (simp only [Act.put, List.setIfInBounds_toArray, List.set_cons_zero, List.set_cons_succ]; rfl), ?_⟩
            exact ⟨fun h => hF.out.f0 (by simpa using h), fun h => hF.out.f1 (by simpa using h), fun _ => rfl, fun h => hF.out.f3 (by simpa using h), fun h => hF.out.f4 (by simpa using h), fun h => hF.out.f5 (by simpa using h), fun h => hF.out.f6 (by simpa using h), fun h => hF.out.f7 (by simpa using h), fun h => hF.out.f8 (by simpa using h), fun h => hF.out.f9 (by simpa using h), fun h => hF.out.f10 (by simpa using h), fun h => hF.out.f11 (by simpa using h), fun h => hF.out.f12 (by simpa using h), fun h => hF.out.f13 (by simpa using h), fun h => hF.out.f14 (by simpa using h), fun h => hF.out.f15 (by simpa using h), fun h => hF.out.f16 (by simpa using h), fun h => hF.out.f17 (by simpa using h), fun h => hF.out.f18 (by simpa using h), fun h => hF.out.f19 (by simpa using h), fun h => hF.out.f20 (by simpa using h), fun h => hF.out.f21 (by simpa using h), fun i hi h => by have := hF.out.ol i hi (by simpa using h); simp [this], fun h => by have := hF.out.cA (by simpa using h); simpa using this, fun h => by have := hF.out.cB (by simpa using h); simpa using this, fun h => by have := hF.out.cF (by simpa using h); simpa using this, fun h => by have := hF.out.cG (by simpa using h); simpa using this, fun h => hF.out.kp (by simpa using h), fun h => hF.out.cl (by simpa using h), fun h h2 => hF.out.ro (by simpa using h) (by simpa using h2), fun h => hF.out.r0 (by simpa using h), fun h h2 => hF.out.b0 (by simpa using h) (by simpa using h2), fun h h2 => hF.out.r1 (by simpa using h) (by simpa using h2), fun h => hF.out.fin (by simpa using h)⟩
          · intro d a W hI hd hdep
            obtain ⟨gb2, gr, cr, ra, rn, rc, rl, x35, x36, x37, x38, x39, x40, x41, x42, x43, x44, x45, x46, x47, x48, x49, x50, x51, x52, x53, x54, x55, rfl, hF⟩ := hI
            have hd2 : d 2 = true := dep_of hdep 2 (by kernel_rfl)
            obtain rfl := hF.out.f2 hd2
            clear hdep hd hd2
            intro K hK
            simp only [Act.put, List.setIfInBounds_toArray, List.set_cons_zero, List.set_cons_succ]
            go_simp
            refine hK.out _ _ ⟨gb2, gr, cr, ra, rn, rc, rl, x35, x36, (.pointer (some ⟨mb, 0, none⟩)), (.pointer (some ⟨mb, 9, none⟩)), x39, x40, x41, x42, x43, x44, x45, x46, x47, x48, x49, x50, x51, x52, x53, x54, x55, by first | (simp only [Act.put, List.setIfInBounds_toArray, List.set_cons_zero, List.set_cons_succ]; done) | (simp only [Act.put, List.setIfInBounds_toArray, List.set_cons_zero, List.set_cons_succ]; rfl), ?_⟩
            exact ⟨fun h => hF.out.f0 (by simpa using h), fun h => hF.out.f1 (by simpa using h), fun h => hF.out.f2 (by simpa using h), fun _ => rfl, fun h => hF.out.f4 (by simpa using h), fun h => hF.out.f5 (by simpa using h), fun h => hF.out.f6 (by simpa using h), fun h => hF.out.f7 (by simpa using h), fun h => hF.out.f8 (by simpa using h), fun h => hF.out.f9 (by simpa using h), fun h => hF.out.f10 (by simpa using h), fun h => hF.out.f11 (by simpa using h), fun h => hF.out.f12 (by simpa using h), fun h => hF.out.f13 (by simpa using h), fun h => hF.out.f14 (by simpa using h), fun h => hF.out.f15 (by simpa using h), fun h => hF.out.f16 (by simpa using h), fun h => hF.out.f17 (by simpa using h), fun h => hF.out.f18 (by simpa using h), fun h => hF.out.f19 (by simpa using h), fun h => hF.out.f20 (by simpa using h), fun h => hF.out.f21 (by simpa using h), fun i hi h => by have := hF.out.ol i hi (by simpa using h); simp [this], fun h => by have := hF.out.cA (by simpa using h); simpa using this, fun h => by have := hF.out.cB (by simpa using h); simpa using this, fun h => by have := hF.out.cF (by simpa using h); simpa using this, fun h => by have := hF.out.cG (by simpa using h); simpa using this, fun h => hF.out.kp (by simpa using h), fun h => hF.out.cl (by simpa using h), fun h h2 => hF.out.ro (by simpa using h) (by simpa using h2), fun h => hF.out.r0 (by simpa using h), fun h h2 => hF.out.b0 (by simpa using h) (by simpa using h2), fun h h2 => hF.out.r1 (by simpa using h) (by simpa using h2), fun h => hF.out.fin (by simpa using h)⟩
          · intro d a W hI hd hdep
            obtain ⟨gb2, gr, cr, ra, rn, rc, rl, x35, x36, x37, x38, x39, x40, x41, x42, x43, x44, x45, x46, x47, x48, x49, x50, x51, x52, x53, x54, x55, rfl, hF⟩ := hI
            have hd3 : d 3 = true := dep_of hdep 3 (by kernel_rfl)
            obtain rfl := hF.out.f3 hd3
            clear hdep hd hd3
            intro K hK
            simp only [Act.put, List.setIfInBounds_toArray, List.set_cons_zero, List.set_cons_succ]
            go_simp
            refine hK.out _ _ ⟨gb2, gr, cr, ra, rn, rc, rl, x35, x36, x37, (.pointer (some ⟨mb, 9, none⟩)), (.pointer (some ⟨mb, 9, none⟩)), x40, x41, x42, x43, x44, x45, x46, x47, x48, x49, x50, x51, x52, x53, x54, x55, by first | (simp only [Act.put, List.setIfInBounds_toArray, List.set_cons_zero, List.set_cons_succ]; done) | (simp only [Act.put, List.setIfInBounds_toArray, List.set_cons_zero, List.set_cons_succ]; rfl), ?_⟩
            exact ⟨fun h => hF.out.f0 (by simpa using h), fun h => hF.out.f1 (by simpa using h), fun h => hF.out.f2 (by simpa using h), fun h => hF.out.f3 (by simpa using h), fun _ => rfl, fun h => hF.out.f5 (by simpa using h), fun h => hF.out.f6 (by simpa using h), fun h => hF.out.f7 (by simpa using h), fun h => hF.out.f8 (by simpa using h), fun h => hF.out.f9 (by simpa using h), fun h => hF.out.f10 (by simpa using h), fun h => hF.out.f11 (by simpa using h), fun h => hF.out.f12 (by simpa using h), fun h => hF.out.f13 (by simpa using h), fun h => hF.out.f14 (by simpa using h), fun h => hF.out.f15 (by simpa using h), fun h => hF.out.f16 (by simpa using h), fun h => hF.out.f17 (by simpa using h), fun h => hF.out.f18 (by simpa using h), fun h => hF.out.f19 (by simpa using h), fun h => hF.out.f20 (by simpa using h), fun h => hF.out.f21 (by simpa using h), fun i hi h => by have := hF.out.ol i hi (by simpa using h); simp [this], fun h => by have := hF.out.cA (by simpa using h); simpa using this, fun h => by have := hF.out.cB (by simpa using h); simpa using this, fun h => by have := hF.out.cF (by simpa using h); simpa using this, fun h => by have := hF.out.cG (by simpa using h); simpa using this, fun h => hF.out.kp (by simpa using h), fun h => hF.out.cl (by simpa using h), fun h h2 => hF.out.ro (by simpa using h) (by simpa using h2), fun h => hF.out.r0 (by simpa using h), fun h h2 => hF.out.b0 (by simpa using h) (by simpa using h2), fun h h2 => hF.out.r1 (by simpa using h) (by simpa using h2), fun h => hF.out.fin (by simpa using h)⟩
          · intro d a W hI hd hdep
            obtain ⟨gb2, gr, cr, ra, rn, rc, rl, x35, x36, x37, x38, x39, x40, x41, x42, x43, x44, x45, x46, x47, x48, x49, x50, x51, x52, x53, x54, x55, rfl, hF⟩ := hI
            have hd4 : d 4 = true := dep_of hdep 4 (by kernel_rfl)
            obtain rfl := hF.out.f4 hd4
            have HNL : Hid (d 21 = false) := no_later (hF.out.ol 5 (by omega)) hd
            have hblk := ((hF.out.kp HNL.out).block mb HMB.out.1 HMB.out.2).trans HBX.out
            have y9 := mcell_blk hblk 9
            simp only [List.getElem?_toArray, List.getElem?_cons_zero, List.getElem?_cons_succ] at y9
            clear hblk
            clear hdep hd hd4
            intro K hK
            simp only [Act.put, List.setIfInBounds_toArray, List.set_cons_zero, List.set_cons_succ]
            go_simp
            refine hK.out _ _ ⟨gb2, gr, cr, ra, rn, rc, rl, x35, x36, x37, x38, (.pointer (some ⟨mb, 9, none⟩)), (.slice va ss.length vc), x41, x42, x43, x44, x45, x46, x47, x48, x49, x50, x51, x52, x53, x54, x55, by first | (simp only [Act.put, List.setIfInBounds_toArray, List.set_cons_zero, List.set_cons_succ]; done) | (simp only [Act.put, List.setIfInBounds_toArray, List.set_cons_zero, List.set_cons_succ]; rfl), ?_⟩
            exact ⟨fun h => hF.out.f0 (by simpa using h), fun h => hF.out.f1 (by simpa using h), fun h => hF.out.f2 (by simpa using h), fun h => hF.out.f3 (by simpa using h), fun h => hF.out.f4 (by simpa using h), fun _ => rfl, fun h => hF.out.f6 (by simpa using h), fun h => hF.out.f7 (by simpa using h), fun h => hF.out.f8 (by simpa using h), fun h => hF.out.f9 (by simpa using h), fun h => hF.out.f10 (by simpa using h), fun h => hF.out.f11 (by simpa using h), fun h => hF.out.f12 (by simpa using h), fun h => hF.out.f13 (by simpa using h), fun h => hF.out.f14 (by simpa using h), fun h => hF.out.f15 (by simpa using h), fun h => hF.out.f16 (by simpa using h), fun h => hF.out.f17 (by simpa using h), fun h => hF.out.f18 (by simpa using h), fun h => hF.out.f19 (by simpa using h), fun h => hF.out.f20 (by simpa using h), fun h => hF.out.f21 (by simpa using h), fun i hi h => by have := hF.out.ol i hi (by simpa using h); simp [this], fun h => by have := hF.out.cA (by simpa using h); simpa using this, fun h => by have := hF.out.cB (by simpa using h); simpa using this, fun h => by have := hF.out.cF (by simpa using h); simpa using this, fun h => by have := hF.out.cG (by simpa using h); simpa using this, fun h => hF.out.kp (by simpa using h), fun h => hF.out.cl (by simpa using h), fun h h2 => hF.out.ro (by simpa using h) (by simpa using h2), fun h => hF.out.r0 (by simpa using h), fun h h2 => hF.out.b0 (by simpa using h) (by simpa using h2), fun h h2 => hF.out.r1 (by simpa using h) (by simpa using h2), fun h => hF.out.fin (by simpa using h)⟩
          · intro d a W hI hd hdep
            obtain ⟨gb2, gr, cr, ra, rn, rc, rl, x35, x36, x37, x38, x39, x40, x41, x42, x43, x44, x45, x46, x47, x48, x49, x50, x51, x52, x53, x54, x55, rfl, hF⟩ := hI
            clear hdep hd
            intro K hK
            simp only [Act.put, List.setIfInBounds_toArray, List.set_cons_zero, List.set_cons_succ]
            go_simp
            refine hK.out _ _ ⟨gb2, gr, cr, ra, rn, rc, rl, x35, x36, x37, x38, x39, x40, (.pointer (some ⟨mb, 0, none⟩)), x42, x43, x44, x45, x46, x47, x48, x49, x50, x51, x52, x53, x54, x55, by first | (simp only [Act.put, List.setIfInBounds_toArray, List.set_cons_zero, List.set_cons_succ]; done) | (simp only [Act.put, List.setIfInBounds_toArray, List.set_cons_zero, List.set_cons_succ]; rfl), ?_⟩
            exact ⟨fun h => hF.out.f0 (by simpa using h), fun h => hF.out.f1 (by simpa using h), fun h => hF.out.f2 (by simpa using h), fun h => hF.out.f3 (by simpa using h), fun h => hF.out.f4 (by simpa using h), fun h => hF.out.f5 (by simpa using h), fun _ => rfl, fun h => hF.out.f7 (by simpa using h), fun h => hF.out.f8 (by simpa using h), fun h => hF.out.f9 (by simpa using h), fun h => hF.out.f10 (by simpa using h), fun h => hF.out.f11 (by simpa using h), fun h => hF.out.f12 (by simpa using h), fun h => hF.out.f13 (by simpa using h), fun h => hF.out.f14 (by simpa using h), fun h => hF.out.f15 (by simpa using h), fun h => hF.out.f16 (by simpa using h), fun h => hF.out.f17 (by simpa using h), fun h => hF.out.f18 (by simpa using h), fun h => hF.out.f19 (by simpa using h), fun h => hF.out.f20 (by simpa using h), fun h => hF.out.f21 (by simpa using h), fun i hi h => by have := hF.out.ol i hi (by simpa using h); simp [this], fun h => by have := hF.out.cA (by simpa using h); simpa using this, fun h => by have := hF.out.cB (by simpa using h); simpa using this, fun h => by have := hF.out.cF (by simpa using h); simpa using this, fun h => by have := hF.out.cG (by simpa using h); simpa using this, fun h => hF.out.kp (by simpa using h), fun h => hF.out.cl (by simpa using h), fun h h2 => hF.out.ro (by simpa using h) (by simpa using h2), fun h => hF.out.r0 (by simpa using h), fun h h2 => hF.out.b0 (by simpa using h) (by simpa using h2), fun h h2 => hF.out.r1 (by simpa using h) (by simpa using h2), fun h => hF.out.fin (by simpa using h)⟩
          · intro d a W hI hd hdep
            obtain ⟨gb2, gr, cr, ra, rn, rc, rl, x35, x36, x37, x38, x39, x40, x41, x42, x43, x44, x45, x46, x47, x48, x49, x50, x51, x52, x53, x54, x55, rfl, hF⟩ := hI
            have hd6 : d 6 = true := dep_of hdep 6 (by kernel_rfl)
            obtain rfl := hF.out.f6 hd6
            clear hdep hd hd6
            intro K hK
            simp only [Act.put, List.setIfInBounds_toArray, List.set_cons_zero, List.set_cons_succ]
            go_simp
            refine hK.out _ _ ⟨gb2, gr, cr, ra, rn, rc, rl, x35, x36, x37, x38, x39, x40, (.pointer (some ⟨mb, 0, none⟩)), (.pointer (some ⟨mb, 0, none⟩)), x43, x44, x45, x46, x47, x48, x49, x50, x51, x52, x53, x54, x55, by first | (simp only [Act.put, List.setIfInBounds_toArray, List.set_cons_zero, List.set_cons_succ]; done) | (simp only [Act.put, List.setIfInBounds_toArray, List.set_cons_zero, List.set_cons_succ]; rfl), ?_⟩
            exact ⟨fun h => hF.out.f0 (by simpa using h), fun h => hF.out.f1 (by simpa using h), fun h => hF.out.f2 (by simpa using h), fun h => hF.out.f3 (by simpa using h), fun h => hF.out.f4 (by simpa using h), fun h => hF.out.f5 (by simpa using h), fun h => hF.out.f6 (by simpa using h), fun _ => rfl, fun h => hF.out.f8 (by simpa using h), fun h => hF.out.f9 (by simpa using h), fun h => hF.out.f10 (by simpa using h), fun h => hF.out.f11 (by simpa using h), fun h => hF.out.f12 (by simpa using h), fun h => hF.out.f13 (by simpa using h), fun h => hF.out.f14 (by simpa using h), fun h => hF.out.f15 (by simpa using h), fun h => hF.out.f16 (by simpa using h), fun h => hF.out.f17 (by simpa using h), fun h => hF.out.f18 (by simpa using h), fun h => hF.out.f19 (by simpa using h), fun h => hF.out.f20 (by simpa using h), fun h => hF.out.f21 (by simpa using h), fun i hi h => by have := hF.out.ol i hi (by simpa using h); simp [this], fun h => by have := hF.out.cA (by simpa using h); simpa using this, fun h => by have := hF.out.cB (by simpa using h); simpa using this, fun h => by have := hF.out.cF (by simpa using h); simpa using this, fun h => by have := hF.out.cG (by simpa using h); simpa using this, fun h => hF.out.kp (by simpa using h), fun h => hF.out.cl (by simpa using h), fun h h2 => hF.out.ro (by simpa using h) (by simpa using h2), fun h => hF.out.r0 (by simpa using h), fun h h2 => hF.out.b0 (by simpa using h) (by simpa using h2), fun h h2 => hF.out.r1 (by simpa using h) (by simpa using h2), fun h => hF.out.fin (by simpa using h)⟩
          · intro d a W hI hd hdep
            obtain ⟨gb2, gr, cr, ra, rn, rc, rl, x35, x36, x37, x38, x39, x40, x41, x42, x43, x44, x45, x46, x47, x48, x49, x50, x51, x52, x53, x54, x55, rfl, hF⟩ := hI
            have hd7 : d 7 = true := dep_of hdep 7 (by kernel_rfl)
            obtain rfl := hF.out.f7 hd7
            clear hdep hd hd7
            intro K hK
            simp only [Act.put, List.setIfInBounds_toArray, List.set_cons_zero, List.set_cons_succ]
            go_simp
            refine hK.out _ _ ⟨gb2, gr, cr, ra, rn, rc, rl, x35, x36, x37, x38, x39, x40, x41, (.pointer (some ⟨mb, 0, none⟩)), (.pointer (some ⟨mb, 0, none⟩)), x44, x45, x46, x47, x48, x49, x50, x51, x52, x53, x54, x55, by first | (simp only [Act.put, List.setIfInBounds_toArray, List.set_cons_zero, List.set_cons_succ]; done) | (simp only [Act.put, List.setIfInBounds_toArray, List.set_cons_zero, List.set_cons_succ]; rfl), ?_⟩
            exact ⟨fun h => hF.out.f0 (by simpa using h), fun h => hF.out.f1 (by simpa using h), fun h => hF.out.f2 (by simpa using h), fun h => hF.out.f3 (by simpa using h), fun h => hF.out.f4 (by simpa using h), fun h => hF.out.f5 (by simpa using h), fun h => hF.out.f6 (by simpa using h), fun h => hF.out.f7 (by simpa using h), fun _ => rfl, fun h => hF.out.f9 (by simpa using h), fun h => hF.out.f10 (by simpa using h), fun h => hF.out.f11 (by simpa using h), fun h => hF.out.f12 (by simpa using h), fun h => hF.out.f13 (by simpa using h), fun h => hF.out.f14 (by simpa using h), fun h => hF.out.f15 (by simpa using h), fun h => hF.out.f16 (by simpa using h), fun h => hF.out.f17 (by simpa using h), fun h => hF.out.f18 (by simpa using h), fun h => hF.out.f19 (by simpa using h), fun h => hF.out.f20 (by simpa using h), fun h => hF.out.f21 (by simpa using h), fun i hi h => by have := hF.out.ol i hi (by simpa using h); simp [this], fun h => by have := hF.out.cA (by simpa using h); simpa using this, fun h => by have := hF.out.cB (by simpa using h); simpa using this, fun h => by have := hF.out.cF (by simpa using h); simpa using this, fun h => by have := hF.out.cG (by simpa using h); simpa using this, fun h => hF.out.kp (by simpa using h), fun h => hF.out.cl (by simpa using h), fun h h2 => hF.out.ro (by simpa using h) (by simpa using h2), fun h => hF.out.r0 (by simpa using h), fun h h2 => hF.out.b0 (by simpa using h) (by simpa using h2), fun h h2 => hF.out.r1 (by simpa using h) (by simpa using h2), fun h => hF.out.fin (by simpa using h)⟩
          · intro d a W hI hd hdep
            obtain ⟨gb2, gr, cr, ra, rn, rc, rl, x35, x36, x37, x38, x39, x40, x41, x42, x43, x44, x45, x46, x47, x48, x49, x50, x51, x52, x53, x54, x55, rfl, hF⟩ := hI
            have hd8 : d 8 = true := dep_of hdep 8 (by kernel_rfl)
            obtain rfl := hF.out.f8 hd8
            have HNL : Hid (d 21 = false) := no_later (hF.out.ol 9 (by omega)) hd
            have hblk := ((hF.out.kp HNL.out).block mb HMB.out.1 HMB.out.2).trans HBX.out
            have y0 := mcell_blk hblk 0
            have y1 := mcell_blk hblk 1
            have y2 := mcell_blk hblk 2
            simp only [List.getElem?_toArray, List.getElem?_cons_zero, List.getElem?_cons_succ] at y0 y1 y2
            clear hblk
            clear hdep hd hd8
            intro K hK
            simp only [Act.put, List.setIfInBounds_toArray, List.set_cons_zero, List.set_cons_succ]
            go_simp
            refine hK.out _ _ ⟨gb2, gr, cr, ra, rn, rc, rl, x35, x36, x37, x38, x39, x40, x41, x42, (.pointer (some ⟨mb, 0, none⟩)), (.agg #[.int .i64 (T : Int), .int .i64 (n : Int), pv]), x45, x46, x47, x48, x49, x50, x51, x52, x53, x54, x55, by first | (simp only [Act.put, List.setIfInBounds_toArray, List.set_cons_zero, List.set_cons_succ]; done) | (simp only [Act.put, List.setIfInBounds_toArray, List.set_cons_zero, List.set_cons_succ]; rfl), ?_⟩
            exact ⟨fun h => hF.out.f0 (by simpa using h), fun h => hF.out.f1 (by simpa using h), fun h => hF.out.f2 (by simpa using h), fun h => hF.out.f3 (by simpa using h), fun h => hF.out.f4 (by simpa using h), fun h => hF.out.f5 (by simpa using h), fun h => hF.out.f6 (by simpa using h), fun h => hF.out.f7 (by simpa using h), fun h => hF.out.f8 (by simpa using h), fun _ => rfl, fun h => hF.out.f10 (by simpa using h), fun h => hF.out.f11 (by simpa using h), fun h => hF.out.f12 (by simpa using h), fun h => hF.out.f13 (by simpa using h), fun h => hF.out.f14 (by simpa using h), fun h => hF.out.f15 (by simpa using h), fun h => hF.out.f16 (by simpa using h), fun h => hF.out.f17 (by simpa using h), fun h => hF.out.f18 (by simpa using h), fun h => hF.out.f19 (by simpa using h), fun h => hF.out.f20 (by simpa using h), fun h => hF.out.f21 (by simpa using h), fun i hi h => by have := hF.out.ol i hi (by simpa using h); simp [this], fun h => by have := hF.out.cA (by simpa using h); simpa using this, fun h => by have := hF.out.cB (by simpa using h); simpa using this, fun h => by have := hF.out.cF (by simpa using h); simpa using this, fun h => by have := hF.out.cG (by simpa using h); simpa using this, fun h => hF.out.kp (by simpa using h), fun h => hF.out.cl (by simpa using h), fun h h2 => hF.out.ro (by simpa using h) (by simpa using h2), fun h => hF.out.r0 (by simpa using h), fun h h2 => hF.out.b0 (by simpa using h) (by simpa using h2), fun h h2 => hF.out.r1 (by simpa using h) (by simpa using h2), fun h => hF.out.fin (by simpa using h)⟩
          · intro d a W hI hd hdep
            obtain ⟨gb2, gr, cr, ra, rn, rc, rl, x35, x36, x37, x38, x39, x40, x41, x42, x43, x44, x45, x46, x47, x48, x49, x50, x51, x52, x53, x54, x55, rfl, hF⟩ := hI
            clear hdep hd
            intro K hK
            simp only [Act.put, List.setIfInBounds_toArray, List.set_cons_zero, List.set_cons_succ]
            go_simp
            refine hK.out _ _ ⟨gb2, gr, cr, ra, rn, rc, rl, x35, x36, x37, x38, x39, x40, x41, x42, x43, x44, (.pointer (some ⟨mb, 0, none⟩)), x46, x47, x48, x49, x50, x51, x52, x53, x54, x55, by first | (simp only [Act.put, List.setIfInBounds_toArray, List.set_cons_zero, List.set_cons_succ]; done) | (simp only [Act.put, List.setIfInBounds_toArray, List.set_cons_zero, List.set_cons_succ]; rfl), ?_⟩
            exact ⟨fun h => hF.out.f0 (by simpa using h), fun h => hF.out.f1 (by simpa using h), fun h => hF.out.f2 (by simpa using h), fun h => hF.out.f3 (by simpa using h), fun h => hF.out.f4 (by simpa using h), fun h => hF.out.f5 (by simpa using h), fun h => hF.out.f6 (by simpa using h), fun h => hF.out.f7 (by simpa using h), fun h => hF.out.f8 (by simpa using h), fun h => hF.out.f9 (by simpa using h), fun _ => rfl, fun h => hF.out.f11 (by simpa using h), fun h => hF.out.f12 (by simpa using h), fun h => hF.out.f13 (by simpa using h), fun h => hF.out.f14 (by simpa using h), fun h => hF.out.f15 (by simpa using h), fun h => hF.out.f16 (by simpa using h), fun h => hF.out.f17 (by simpa using h), fun h => hF.out.f18 (by simpa using h), fun h => hF.out.f19 (by simpa using h), fun h => hF.out.f20 (by simpa using h), fun h => hF.out.f21 (by simpa using h), fun i hi h => by have := hF.out.ol i hi (by simpa using h); simp [this], fun h => by have := hF.out.cA (by simpa using h); simpa using this, fun h => by have := hF.out.cB (by simpa using h); simpa using this, fun h => by have := hF.out.cF (by simpa using h); simpa using this, fun h => by have := hF.out.cG (by simpa using h); simpa using this, fun h => hF.out.kp (by simpa using h), fun h => hF.out.cl (by simpa using h), fun h h2 => hF.out.ro (by simpa using h) (by simpa using h2), fun h => hF.out.r0 (by simpa using h), fun h h2 => hF.out.b0 (by simpa using h) (by simpa using h2), fun h h2 => hF.out.r1 (by simpa using h) (by simpa using h2), fun h => hF.out.fin (by simpa using h)⟩
          · intro d a W hI hd hdep
            obtain ⟨gb2, gr, cr, ra, rn, rc, rl, x35, x36, x37, x38, x39, x40, x41, x42, x43, x44, x45, x46, x47, x48, x49, x50, x51, x52, x53, x54, x55, rfl, hF⟩ := hI
            have hd10 : d 10 = true := dep_of hdep 10 (by kernel_rfl)
            obtain rfl := hF.out.f10 hd10
            clear hdep hd hd10
            intro K hK
            simp only [Act.put, List.setIfInBounds_toArray, List.set_cons_zero, List.set_cons_succ]
            go_simp
            refine hK.out _ _ ⟨gb2, gr, cr, ra, rn, rc, rl, x35, x36, x37, x38, x39, x40, x41, x42, x43, x44, (.pointer (some ⟨mb, 0, none⟩)), (.pointer (some ⟨mb, 0, none⟩)), x47, x48, x49, x50, x51, x52, x53, x54, x55, by first | (simp only [Act.put, List.setIfInBounds_toArray, List.set_cons_zero, List.set_cons_succ]; done) | (simp only [Act.put, List.setIfInBounds_toArray, List.set_cons_zero, List.set_cons_succ]; rfl), ?_⟩
            exact ⟨fun h => hF.out.f0 (by simpa using h), fun h => hF.out.f1 (by simpa using h), fun h => hF.out.f2 (by simpa using h), fun h => hF.out.f3 (by simpa using h), fun h => hF.out.f4 (by simpa using h), fun h => hF.out.f5 (by simpa using h), fun h => hF.out.f6 (by simpa using h), fun h => hF.out.f7 (by simpa using h), fun h => hF.out.f8 (by simpa using h), fun h => hF.out.f9 (by simpa using h), fun h => hF.out.f10 (by simpa using h), fun _ => rfl, fun h => hF.out.f12 (by simpa using h), fun h => hF.out.f13 (by simpa using h), fun h => hF.out.f14 (by simpa using h), fun h => hF.out.f15 (by simpa using h), fun h => hF.out.f16 (by simpa using h), fun h => hF.out.f17 (by simpa using h), fun h => hF.out.f18 (by simpa using h), fun h => hF.out.f19 (by simpa using h), fun h => hF.out.f20 (by simpa using h), fun h => hF.out.f21 (by simpa using h), fun i hi h => by have := hF.out.ol i hi (by simpa using h); simp [this], fun h => by have := hF.out.cA (by simpa using h); simpa using this, fun h => by have := hF.out.cB (by simpa using h); simpa using this, fun h => by have := hF.out.cF (by simpa using h); simpa using this, fun h => by have := hF.out.cG (by simpa using h); simpa using this, fun h => hF.out.kp (by simpa using h), fun h => hF.out.cl (by simpa using h), fun h h2 => hF.out.ro (by simpa using h) (by simpa using h2), fun h => hF.out.r0 (by simpa using h), fun h h2 => hF.out.b0 (by simpa using h) (by simpa using h2), fun h h2 => hF.out.r1 (by simpa using h) (by simpa using h2), fun h => hF.out.fin (by simpa using h)⟩
          · intro d a W hI hd hdep
            obtain ⟨gb2, gr, cr, ra, rn, rc, rl, x35, x36, x37, x38, x39, x40, x41, x42, x43, x44, x45, x46, x47, x48, x49, x50, x51, x52, x53, x54, x55, rfl, hF⟩ := hI
            have hd11 : d 11 = true := dep_of hdep 11 (by kernel_rfl)
            obtain rfl := hF.out.f11 hd11
            clear hdep hd hd11
            intro K hK
            simp only [Act.put, List.setIfInBounds_toArray, List.set_cons_zero, List.set_cons_succ]
            go_simp
            refine hK.out _ _ ⟨gb2, gr, cr, ra, rn, rc, rl, x35, x36, x37, x38, x39, x40, x41, x42, x43, x44, x45, (.pointer (some ⟨mb, 0, none⟩)), (.pointer (some ⟨mb, 3, none⟩)), x48, x49, x50, x51, x52, x53, x54, x55, by first | (simp only [Act.put, List.setIfInBounds_toArray, List.set_cons_zero, List.set_cons_succ]; done) | (simp only [Act.put, List.setIfInBounds_toArray, List.set_cons_zero, List.set_cons_succ]; rfl), ?_⟩
            exact ⟨fun h => hF.out.f0 (by simpa using h), fun h => hF.out.f1 (by simpa using h), fun h => hF.out.f2 (by simpa using h), fun h => hF.out.f3 (by simpa using h), fun h => hF.out.f4 (by simpa using h), fun h => hF.out.f5 (by simpa using h), fun h => hF.out.f6 (by simpa using h), fun h => hF.out.f7 (by simpa using h), fun h => hF.out.f8 (by simpa using h), fun h => hF.out.f9 (by simpa using h), fun h => hF.out.f10 (by simpa using h), fun h => hF.out.f11 (by simpa using h), fun _ => rfl, fun h => hF.out.f13 (by simpa using h), fun h => hF.out.f14 (by simpa using h), fun h => hF.out.f15 (by simpa using h), fun h => hF.out.f16 (by simpa using h), fun h => hF.out.f17 (by simpa using h), fun h => hF.out.f18 (by simpa using h), fun h => hF.out.f19 (by simpa using h), fun h => hF.out.f20 (by simpa using h), fun h => hF.out.f21 (by simpa using h), fun i hi h => by have := hF.out.ol i hi (by simpa using h); simp [this], fun h => by have := hF.out.cA (by simpa using h); simpa using this, fun h => by have := hF.out.cB (by simpa using h); simpa using this, fun h => by have := hF.out.cF (by simpa using h); simpa using this, fun h => by have := hF.out.cG (by simpa using h); simpa using this, fun h => hF.out.kp (by simpa using h), fun h => hF.out.cl (by simpa using h), fun h h2 => hF.out.ro (by simpa using h) (by simpa using h2), fun h => hF.out.r0 (by simpa using h), fun h h2 => hF.out.b0 (by simpa using h) (by simpa using h2), fun h h2 => hF.out.r1 (by simpa using h) (by simpa using h2), fun h => hF.out.fin (by simpa using h)⟩
          · intro d a W hI hd hdep
            obtain ⟨gb2, gr, cr, ra, rn, rc, rl, x35, x36, x37, x38, x39, x40, x41, x42, x43, x44, x45, x46, x47, x48, x49, x50, x51, x52, x53, x54, x55, rfl, hF⟩ := hI
            have hd12 : d 12 = true := dep_of hdep 12 (by kernel_rfl)
            obtain rfl := hF.out.f12 hd12
            have HNL : Hid (d 21 = false) := no_later (hF.out.ol 13 (by omega)) hd
            have hblk := ((hF.out.kp HNL.out).block mb HMB.out.1 HMB.out.2).trans HBX.out
            have y3 := mcell_blk hblk 3
            have y4 := mcell_blk hblk 4
            have y5 := mcell_blk hblk 5
            have y6 := mcell_blk hblk 6
            have y7 := mcell_blk hblk 7
            simp only [List.getElem?_toArray, List.getElem?_cons_zero, List.getElem?_cons_succ] at y3 y4 y5 y6 y7
            clear hblk
            clear hdep hd hd12
            intro K hK
            simp only [Act.put, List.setIfInBounds_toArray, List.set_cons_zero, List.set_cons_succ]
            go_simp
            refine hK.out _ _ ⟨gb2, gr, cr, ra, rn, rc, rl, x35, x36, x37, x38, x39, x40, x41, x42, x43, x44, x45, x46, (.pointer (some ⟨mb, 3, none⟩)), (.agg #[.slice (some ⟨be, 0, none⟩) n n, .slice (some ⟨bf, 0, none⟩) n n, .slice (some ⟨bw, 0, none⟩) n n, .slice (some ⟨br, 0, none⟩) n n, .slice (some ⟨bm, 0, none⟩) n n]), x49, x50, x51, x52, x53, x54, x55, by first | (simp only [Act.put, List.setIfInBounds_toArray, List.set_cons_zero, List.set_cons_succ]; done) | (simp only [Act.put, List.setIfInBounds_toArray, List.set_cons_zero, List.set_cons_succ]; rfl), ?_⟩
            exact ⟨fun h => hF.out.f0 (by simpa using h), fun h => hF.out.f1 (by simpa using h), fun h => hF.out.f2 (by simpa using h), fun h => hF.out.f3 (by simpa using h), fun h => hF.out.f4 (by simpa using h), fun h => hF.out.f5 (by simpa using h), fun h => hF.out.f6 (by simpa using h), fun h => hF.out.f7 (by simpa using h), fun h => hF.out.f8 (by simpa using h), fun h => hF.out.f9 (by simpa using h), fun h => hF.out.f10 (by simpa using h), fun h => hF.out.f11 (by simpa using h), fun h => hF.out.f12 (by simpa using h), fun _ => rfl, fun h => hF.out.f14 (by simpa using h), fun h => hF.out.f15 (by simpa using h), fun h => hF.out.f16 (by simpa using h), fun h => hF.out.f17 (by simpa using h), fun h => hF.out.f18 (by simpa using h), fun h => hF.out.f19 (by simpa using h), fun h => hF.out.f20 (by simpa using h), fun h => hF.out.f21 (by simpa using h), fun i hi h => by have := hF.out.ol i hi (by simpa using h); simp [this], fun h => by have := hF.out.cA (by simpa using h); simpa using this, fun h => by have := hF.out.cB (by simpa using h); simpa using this, fun h => by have := hF.out.cF (by simpa using h); simpa using this, fun h => by have := hF.out.cG (by simpa using h); simpa using this, fun h => hF.out.kp (by simpa using h), fun h => hF.out.cl (by simpa using h), fun h h2 => hF.out.ro (by simpa using h) (by simpa using h2), fun h => hF.out.r0 (by simpa using h), fun h h2 => hF.out.b0 (by simpa using h) (by simpa using h2), fun h h2 => hF.out.r1 (by simpa using h) (by simpa using h2), fun h => hF.out.fin (by simpa using h)⟩
          · intro d a W hI hd hdep
            obtain ⟨gb2, gr, cr, ra, rn, rc, rl, x35, x36, x37, x38, x39, x40, x41, x42, x43, x44, x45, x46, x47, x48, x49, x50, x51, x52, x53, x54, x55, rfl, hF⟩ := hI
            clear hdep hd
            intro K hK
            simp only [Act.put, List.setIfInBounds_toArray, List.set_cons_zero, List.set_cons_succ]
            go_simp
            refine hK.out _ _ ⟨gb2, gr, cr, ra, rn, rc, rl, x35, x36, x37, x38, x39, x40, x41, x42, x43, x44, x45, x46, x47, x48, (.slice ko k.length kc), x50, x51, x52, x53, x54, x55, by first | (simp only [Act.put, List.setIfInBounds_toArray, List.set_cons_zero, List.set_cons_succ]; done) | (simp only [Act.put, List.setIfInBounds_toArray, List.set_cons_zero, List.set_cons_succ]; rfl), ?_⟩
            exact ⟨fun h => hF.out.f0 (by simpa using h), fun h => hF.out.f1 (by simpa using h), fun h => hF.out.f2 (by simpa using h), fun h => hF.out.f3 (by simpa using h), fun h => hF.out.f4 (by simpa using h), fun h => hF.out.f5 (by simpa using h), fun h => hF.out.f6 (by simpa using h), fun h => hF.out.f7 (by simpa using h), fun h => hF.out.f8 (by simpa using h), fun h => hF.out.f9 (by simpa using h), fun h => hF.out.f10 (by simpa using h), fun h => hF.out.f11 (by simpa using h), fun h => hF.out.f12 (by simpa using h), fun h => hF.out.f13 (by simpa using h), fun _ => rfl, fun h => hF.out.f15 (by simpa using h), fun h => hF.out.f16 (by simpa using h), fun h => hF.out.f17 (by simpa using h), fun h => hF.out.f18 (by simpa using h), fun h => hF.out.f19 (by simpa using h), fun h => hF.out.f20 (by simpa using h), fun h => hF.out.f21 (by simpa using h), fun i hi h => by have := hF.out.ol i hi (by simpa using h); simp [this], fun h => by have := hF.out.cA (by simpa using h); simpa using this, fun h => by have := hF.out.cB (by simpa using h); simpa using this, fun h => by have := hF.out.cF (by simpa using h); simpa using this, fun h => by have := hF.out.cG (by simpa using h); simpa using this, fun h => hF.out.kp (by simpa using h), fun h => hF.out.cl (by simpa using h), fun h h2 => hF.out.ro (by simpa using h) (by simpa using h2), fun h => hF.out.r0 (by simpa using h), fun h h2 => hF.out.b0 (by simpa using h) (by simpa using h2), fun h h2 => hF.out.r1 (by simpa using h) (by simpa using h2), fun h => hF.out.fin (by simpa using h)⟩
          · intro d a W hI hd hdep
            obtain ⟨gb2, gr, cr, ra, rn, rc, rl, x35, x36, x37, x38, x39, x40, x41, x42, x43, x44, x45, x46, x47, x48, x49, x50, x51, x52, x53, x54, x55, rfl, hF⟩ := hI
            have hd9 : d 9 = true := dep_of hdep 9 (by kernel_rfl)
            have hd13 : d 13 = true := dep_of hdep 13 (by kernel_rfl)
            have hd14 : d 14 = true := dep_of hdep 14 (by kernel_rfl)
            obtain rfl := hF.out.f9 hd9
            obtain rfl := hF.out.f13 hd13
            obtain rfl := hF.out.f14 hd14
            have HNL : Hid (d 21 = false) := no_later (hF.out.ol 15 (by omega)) hd
            have HNB : Hid (d 16 = false) := no_later hF.out.cB hd
            have HNA : Hid (d 17 = false) := no_later hF.out.cA HNB.out
            have hcall := HCL.out W (hF.out.kp HNL.out)
            have HWS : Hid (w8.heap.size ≤ W.heap.size) := (hF.out.kp HNL.out).size
            clear hdep hd hd9 hd13 hd14
            intro K hK
            simp only [Act.put, List.setIfInBounds_toArray, List.set_cons_zero, List.set_cons_succ]
            go_simp
            refine hcall.mono ?_
            rintro _ W2 ⟨rv9, rl9, rfl, hcl9, hro9, hrl9, hb9⟩
            obtain ⟨ra9, rn9, rc9, rfl⟩ := own_form hro9
            clear hcall
            go_simp
            refine hK.out _ _ ⟨gb2, gr, cr, ra9, rn9, rc9, rl9, x35, x36, x37, x38, x39, x40, x41, x42, x43, (.agg #[.int .i64 (T : Int), .int .i64 (n : Int), pv]), x45, x46, x47, (.agg #[.slice (some ⟨be, 0, none⟩) n n, .slice (some ⟨bf, 0, none⟩) n n, .slice (some ⟨bw, 0, none⟩) n n, .slice (some ⟨br, 0, none⟩) n n, .slice (some ⟨bm, 0, none⟩) n n]), (.slice ko k.length kc), (.slice ra9 rn9 rc9), x51, x52, x53, x54, x55, by first | (simp only [Act.put, List.setIfInBounds_toArray, List.set_cons_zero, List.set_cons_succ]; done) | (simp only [Act.put, List.setIfInBounds_toArray, List.set_cons_zero, List.set_cons_succ]; rfl), ?_⟩
            exact ⟨fun h => hF.out.f0 (by simpa using h), fun h => hF.out.f1 (by simpa using h), fun h => hF.out.f2 (by simpa using h), fun h => hF.out.f3 (by simpa using h), fun h => hF.out.f4 (by simpa using h), fun h => hF.out.f5 (by simpa using h), fun h => hF.out.f6 (by simpa using h), fun h => hF.out.f7 (by simpa using h), fun h => hF.out.f8 (by simpa using h), fun h => hF.out.f9 (by simpa using h), fun h => hF.out.f10 (by simpa using h), fun h => hF.out.f11 (by simpa using h), fun h => hF.out.f12 (by simpa using h), fun h => hF.out.f13 (by simpa using h), fun h => hF.out.f14 (by simpa using h), fun _ => rfl, fun h => by have := HNB.out; simp [this] at h, fun h => by have := HNA.out; simp [this] at h, fun h => hF.out.f18 (by simpa using h), fun h => hF.out.f19 (by simpa using h), fun h => hF.out.f20 (by simpa using h), fun h => hF.out.f21 (by simpa using h), fun i hi h => by have := hF.out.ol i hi (by simpa using h); simp [this], fun h => by have := hF.out.cA (by simpa using h); simpa using this, fun _ => by simp, fun h => by have := hF.out.cF (by simpa using h); simpa using this, fun h => by have := hF.out.cG (by simpa using h); simpa using this, fun _ => mgb_below (hF.out.kp HNL.out) hb9, fun _ => hcl9, fun _ _ => mv_lower hro9 HWS.out, fun _ => own_below (hF.out.r0 HNA.out) hb9, fun h => by have := HNB.out; simp [this] at h, fun h => by have := HNA.out; simp [this] at h, fun h => by have := HNL.out; simp [this] at h⟩
          · intro d a W hI hd hdep
            obtain ⟨gb2, gr, cr, ra, rn, rc, rl, x35, x36, x37, x38, x39, x40, x41, x42, x43, x44, x45, x46, x47, x48, x49, x50, x51, x52, x53, x54, x55, rfl, hF⟩ := hI
            have hd15 : d 15 = true := dep_of hdep 15 (by kernel_rfl)
            obtain rfl := hF.out.f15 hd15
            have HNL : Hid (d 21 = false) := no_later (hF.out.ol 16 (by omega)) hd
            have HN8 : Hid (d 17 = false) := no_later hF.out.cA hd
            have HDC : Hid (d 15 = true) := hd15
            clear hdep hd hd15
            intro K hK
            simp only [Act.put, List.setIfInBounds_toArray, List.set_cons_zero, List.set_cons_succ]
            go_simp
            refine hK.out _ _ ⟨W.heap.size, gr, cr, ra, rn, rc, rl, x35, x36, x37, x38, x39, x40, x41, x42, x43, x44, x45, x46, x47, x48, x49, (.slice ra rn rc), (.slice (some ⟨W.heap.size, 0, none⟩) 1 1), x52, x53, x54, x55, by first | (simp only [Act.put, List.setIfInBounds_toArray, List.set_cons_zero, List.set_cons_succ]; done) | (simp only [Act.put, List.setIfInBounds_toArray, List.set_cons_zero, List.set_cons_succ]; rfl), ?_⟩
            exact ⟨fun h => hF.out.f0 (by simpa using h), fun h => hF.out.f1 (by simpa using h), fun h => hF.out.f2 (by simpa using h), fun h => hF.out.f3 (by simpa using h), fun h => hF.out.f4 (by simpa using h), fun h => hF.out.f5 (by simpa using h), fun h => hF.out.f6 (by simpa using h), fun h => hF.out.f7 (by simpa using h), fun h => hF.out.f8 (by simpa using h), fun h => hF.out.f9 (by simpa using h), fun h => hF.out.f10 (by simpa using h), fun h => hF.out.f11 (by simpa using h), fun h => hF.out.f12 (by simpa using h), fun h => hF.out.f13 (by simpa using h), fun h => hF.out.f14 (by simpa using h), fun h => hF.out.f15 (by simpa using h), fun _ => rfl, fun h => by have := HN8.out; simp [this] at h, fun h => hF.out.f18 (by simpa using h), fun h => hF.out.f19 (by simpa using h), fun h => hF.out.f20 (by simpa using h), fun h => hF.out.f21 (by simpa using h), fun i hi h => by have := hF.out.ol i hi (by simpa using h); simp [this], fun _ => by simp, fun _ => by simpa using HDC.out, fun h => by have := hF.out.cF (by simpa using h); simpa using this, fun h => by have := hF.out.cG (by simpa using h); simpa using this, fun _ => mgb_alloc (hF.out.kp HNL.out) _, fun h => hF.out.cl (by simpa using h), fun _ _ => (hF.out.ro HDC.out HNL.out).alloc _, fun _ => (hF.out.r0 HN8.out).alloc _, fun _ _ => heap_alloc_new _ _, fun h => by have := HN8.out; simp [this] at h, fun h => by have := HNL.out; simp [this] at h⟩
          · intro d a W hI hd hdep
            obtain ⟨gb2, gr, cr, ra, rn, rc, rl, x35, x36, x37, x38, x39, x40, x41, x42, x43, x44, x45, x46, x47, x48, x49, x50, x51, x52, x53, x54, x55, rfl, hF⟩ := hI
            have hd5 : d 5 = true := dep_of hdep 5 (by kernel_rfl)
            have hd16 : d 16 = true := dep_of hdep 16 (by kernel_rfl)
            obtain rfl := hF.out.f5 hd5
            obtain rfl := hF.out.f16 hd16
            have HNL : Hid (d 21 = false) := no_later (hF.out.ol 17 (by omega)) hd
            have HD7 : Hid (d 16 = true) := hd16
            have hdC : d 15 = true := hF.out.cB hd16
            have HDC : Hid (d 15 = true) := hdC
            have hm := run_append_lies (P := Try.prog) W 97 97 w0.heap.size 103 i1 _ 1 24 Try.underlying97 hi1 hy0 hy1 hy2 rfl (by omega) (.slice va ss.length vc) ss.length vs (hF.out.r0 hd) ⟨gb2, 0, none⟩ 1 1 [(.slice ra rn rc)] rfl (World.news_of_block (t := 103) (fr := (0, 0)) (hF.out.b0 hd16 hd)) (by simp [Value.oneCell']) (by omega) (by unfold maxLen; have := HBOUND.out; omega) (by have := HBOUND.out; omega) (Nat.le_trans HBW.out (hF.out.kp HNL.out).size) W.heap.size rfl
            have hmm := hm.choose_spec.choose_spec.choose_spec
            generalize hm.choose_spec.choose_spec.choose = W1 at hmm
            generalize hm.choose_spec.choose = cr1 at hmm
            generalize hm.choose = gr1 at hmm
            have hrun := hmm.1
            have HM : Hid (W1.ownsRow w0.heap.size 103 1 (.slice (some ⟨gr1, 0, none⟩) (ss.length + 1) cr1) (ss.length + 1) (vs ++ [(.slice ra rn rc)]) ∧ W.grownBy W1 (Value.ownBlock (.slice va ss.length vc)) ∧ ((Value.ownBlock (.slice va ss.length vc)) = some gr1 ∨ w8.heap.size ≤ gr1)) := ⟨hmm.2.1, hmm.2.2.1, hmm.2.2.2.1.imp id (fun e => by rw [e]; exact (hF.out.kp HNL.out).size)⟩
            have HRO1 : Hid (W1.ownsRow w8.heap.size 145 3 (.slice ra rn rc) rl.length (ics rl)) := (hF.out.ro hdC HNL.out).kept HM.out.2.1 (by
              cases e : Value.ownBlock (.slice ra rn rc) with
              | none => exact Or.inl rfl
              | some q => exact Or.inr (fun e2 => mown_ne (hF.out.ro hdC HNL.out) (hF.out.r0 hd) (by decide) e e2.symm))
            clear hmm hm hdC
            clear hdep hd hd5 hd16
            intro K hK
            refine step_call_append (sv := (.slice va ss.length vc)) (xv := (.slice (some ⟨gb2, 0, none⟩) 1 1)) (v := (.slice (some ⟨gr1, 0, none⟩) (ss.length + 1) cr1)) (W1 := W1) (by rfl) _ _ 97 (by rfl) (by first | (simp only [Act.put, List.setIfInBounds_toArray, List.set_cons_zero, List.set_cons_succ]; done) | (simp only [Act.put, List.setIfInBounds_toArray, List.set_cons_zero, List.set_cons_succ]; rfl)) (by first | (simp only [Act.put, List.setIfInBounds_toArray, List.set_cons_zero, List.set_cons_succ]; done) | (simp only [Act.put, List.setIfInBounds_toArray, List.set_cons_zero, List.set_cons_succ]; rfl)) (by exact hrun) ?_
            simp only [Act.put, List.setIfInBounds_toArray, List.set_cons_zero, List.set_cons_succ]
            refine hK.out _ _ ⟨gb2, gr1, cr1, ra, rn, rc, rl, x35, x36, x37, x38, x39, (.slice va ss.length vc), x41, x42, x43, x44, x45, x46, x47, x48, x49, x50, (.slice (some ⟨gb2, 0, none⟩) 1 1), (.slice (some ⟨gr1, 0, none⟩) (ss.length + 1) cr1), x53, x54, x55, by first | (simp only [Act.put, List.setIfInBounds_toArray, List.set_cons_zero, List.set_cons_succ]; done) | (simp only [Act.put, List.setIfInBounds_toArray, List.set_cons_zero, List.set_cons_succ]; rfl), ?_⟩
            exact ⟨fun h => hF.out.f0 (by simpa using h), fun h => hF.out.f1 (by simpa using h), fun h => hF.out.f2 (by simpa using h), fun h => hF.out.f3 (by simpa using h), fun h => hF.out.f4 (by simpa using h), fun h => hF.out.f5 (by simpa using h), fun h => hF.out.f6 (by simpa using h), fun h => hF.out.f7 (by simpa using h), fun h => hF.out.f8 (by simpa using h), fun h => hF.out.f9 (by simpa using h), fun h => hF.out.f10 (by simpa using h), fun h => hF.out.f11 (by simpa using h), fun h => hF.out.f12 (by simpa using h), fun h => hF.out.f13 (by simpa using h), fun h => hF.out.f14 (by simpa using h), fun h => hF.out.f15 (by simpa using h), fun h => hF.out.f16 (by simpa using h), fun _ => rfl, fun h => hF.out.f18 (by simpa using h), fun h => hF.out.f19 (by simpa using h), fun h => hF.out.f20 (by simpa using h), fun h => hF.out.f21 (by simpa using h), fun i hi h => by have := hF.out.ol i hi (by simpa using h); simp [this], fun _ => by simpa using HD7.out, fun h => by have := hF.out.cB (by simpa using h); simpa using this, fun h => by have := hF.out.cF (by simpa using h); simpa using this, fun h => by have := hF.out.cG (by simpa using h); simpa using this, fun _ => mgb_then (hF.out.kp HNL.out) HM.out.2.1, fun h => hF.out.cl (by simpa using h), fun _ _ => HRO1.out, fun h => by simp at h, fun _ h => by simp at h, fun _ _ => ⟨HM.out.1, HM.out.2.2⟩, fun h => by have := HNL.out; simp [this] at h⟩
          · intro d a W hI hd hdep
            obtain ⟨gb2, gr, cr, ra, rn, rc, rl, x35, x36, x37, x38, x39, x40, x41, x42, x43, x44, x45, x46, x47, x48, x49, x50, x51, x52, x53, x54, x55, rfl, hF⟩ := hI
            have hd0 : d 0 = true := dep_of hdep 0 (by kernel_rfl)
            obtain rfl := hF.out.f0 hd0
            clear hdep hd hd0
            intro K hK
            simp only [Act.put, List.setIfInBounds_toArray, List.set_cons_zero, List.set_cons_succ]
            go_simp
            refine hK.out _ _ ⟨gb2, gr, cr, ra, rn, rc, rl, (.pointer (some ⟨mb, 0, none⟩)), x36, x37, x38, x39, x40, x41, x42, x43, x44, x45, x46, x47, x48, x49, x50, x51, x52, (.pointer (some ⟨mb, 0, none⟩)), x54, x55, by first | (simp only [Act.put, List.setIfInBounds_toArray, List.set_cons_zero, List.set_cons_succ]; done) | (simp only [Act.put, List.setIfInBounds_toArray, List.set_cons_zero, List.set_cons_succ]; rfl), ?_⟩
            exact ⟨fun h => hF.out.f0 (by simpa using h), fun h => hF.out.f1 (by simpa using h), fun h => hF.out.f2 (by simpa using h), fun h => hF.out.f3 (by simpa using h), fun h => hF.out.f4 (by simpa using h), fun h => hF.out.f5 (by simpa using h), fun h => hF.out.f6 (by simpa using h), fun h => hF.out.f7 (by simpa using h), fun h => hF.out.f8 (by simpa using h), fun h => hF.out.f9 (by simpa using h), fun h => hF.out.f10 (by simpa using h), fun h => hF.out.f11 (by simpa using h), fun h => hF.out.f12 (by simpa using h), fun h => hF.out.f13 (by simpa using h), fun h => hF.out.f14 (by simpa using h), fun h => hF.out.f15 (by simpa using h), fun h => hF.out.f16 (by simpa using h), fun h => hF.out.f17 (by simpa using h), fun _ => rfl, fun h => hF.out.f19 (by simpa using h), fun h => hF.out.f20 (by simpa using h), fun h => hF.out.f21 (by simpa using h), fun i hi h => by have := hF.out.ol i hi (by simpa using h); simp [this], fun h => by have := hF.out.cA (by simpa using h); simpa using this, fun h => by have := hF.out.cB (by simpa using h); simpa using this, fun _ => by simp, fun h => by have := hF.out.cG (by simpa using h); simpa using this, fun h => hF.out.kp (by simpa using h), fun h => hF.out.cl (by simpa using h), fun h h2 => hF.out.ro (by simpa using h) (by simpa using h2), fun h => hF.out.r0 (by simpa using h), fun h h2 => hF.out.b0 (by simpa using h) (by simpa using h2), fun h h2 => hF.out.r1 (by simpa using h) (by simpa using h2), fun h => hF.out.fin (by simpa using h)⟩
          · intro d a W hI hd hdep
            obtain ⟨gb2, gr, cr, ra, rn, rc, rl, x35, x36, x37, x38, x39, x40, x41, x42, x43, x44, x45, x46, x47, x48, x49, x50, x51, x52, x53, x54, x55, rfl, hF⟩ := hI
            have hd18 : d 18 = true := dep_of hdep 18 (by kernel_rfl)
            obtain rfl := hF.out.f18 hd18
            have HD18 : Hid (d 18 = true) := hd18
            clear hdep hd hd18
            intro K hK
            simp only [Act.put, List.setIfInBounds_toArray, List.set_cons_zero, List.set_cons_succ]
            go_simp
            refine hK.out _ _ ⟨gb2, gr, cr, ra, rn, rc, rl, x35, x36, x37, x38, x39, x40, x41, x42, x43, x44, x45, x46, x47, x48, x49, x50, x51, x52, (.pointer (some ⟨mb, 0, none⟩)), (.pointer (some ⟨mb, 9, none⟩)), x55, by first | (simp only [Act.put, List.setIfInBounds_toArray, List.set_cons_zero, List.set_cons_succ]; done) | (simp only [Act.put, List.setIfInBounds_toArray, List.set_cons_zero, List.set_cons_succ]; rfl), ?_⟩
            exact ⟨fun h => hF.out.f0 (by simpa using h), fun h => hF.out.f1 (by simpa using h), fun h => hF.out.f2 (by simpa using h), fun h => hF.out.f3 (by simpa using h), fun h => hF.out.f4 (by simpa using h), fun h => hF.out.f5 (by simpa using h), fun h => hF.out.f6 (by simpa using h), fun h => hF.out.f7 (by simpa using h), fun h => hF.out.f8 (by simpa using h), fun h => hF.out.f9 (by simpa using h), fun h => hF.out.f10 (by simpa using h), fun h => hF.out.f11 (by simpa using h), fun h => hF.out.f12 (by simpa using h), fun h => hF.out.f13 (by simpa using h), fun h => hF.out.f14 (by simpa using h), fun h => hF.out.f15 (by simpa using h), fun h => hF.out.f16 (by simpa using h), fun h => hF.out.f17 (by simpa using h), fun h => hF.out.f18 (by simpa using h), fun _ => rfl, fun h => hF.out.f20 (by simpa using h), fun h => hF.out.f21 (by simpa using h), fun i hi h => by have := hF.out.ol i hi (by simpa using h); simp [this], fun h => by have := hF.out.cA (by simpa using h); simpa using this, fun h => by have := hF.out.cB (by simpa using h); simpa using this, fun _ => by simpa using HD18.out, fun _ => by simp, fun h => hF.out.kp (by simpa using h), fun h => hF.out.cl (by simpa using h), fun h h2 => hF.out.ro (by simpa using h) (by simpa using h2), fun h => hF.out.r0 (by simpa using h), fun h h2 => hF.out.b0 (by simpa using h) (by simpa using h2), fun h h2 => hF.out.r1 (by simpa using h) (by simpa using h2), fun h => hF.out.fin (by simpa using h)⟩
          · intro d a W hI hd hdep
            obtain ⟨gb2, gr, cr, ra, rn, rc, rl, x35, x36, x37, x38, x39, x40, x41, x42, x43, x44, x45, x46, x47, x48, x49, x50, x51, x52, x53, x54, x55, rfl, hF⟩ := hI
            have hd19 : d 19 = true := dep_of hdep 19 (by kernel_rfl)
            obtain rfl := hF.out.f19 hd19
            have HD19 : Hid (d 19 = true) := hd19
            clear hdep hd hd19
            intro K hK
            simp only [Act.put, List.setIfInBounds_toArray, List.set_cons_zero, List.set_cons_succ]
            go_simp
            refine hK.out _ _ ⟨gb2, gr, cr, ra, rn, rc, rl, x35, x36, x37, x38, x39, x40, x41, x42, x43, x44, x45, x46, x47, x48, x49, x50, x51, x52, x53, (.pointer (some ⟨mb, 9, none⟩)), (.pointer (some ⟨mb, 9, none⟩)), by first | (simp only [Act.put, List.setIfInBounds_toArray, List.set_cons_zero, List.set_cons_succ]; done) | (simp only [Act.put, List.setIfInBounds_toArray, List.set_cons_zero, List.set_cons_succ]; rfl), ?_⟩
            exact ⟨fun h => hF.out.f0 (by simpa using h), fun h => hF.out.f1 (by simpa using h), fun h => hF.out.f2 (by simpa using h), fun h => hF.out.f3 (by simpa using h), fun h => hF.out.f4 (by simpa using h), fun h => hF.out.f5 (by simpa using h), fun h => hF.out.f6 (by simpa using h), fun h => hF.out.f7 (by simpa using h), fun h => hF.out.f8 (by simpa using h), fun h => hF.out.f9 (by simpa using h), fun h => hF.out.f10 (by simpa using h), fun h => hF.out.f11 (by simpa using h), fun h => hF.out.f12 (by simpa using h), fun h => hF.out.f13 (by simpa using h), fun h => hF.out.f14 (by simpa using h), fun h => hF.out.f15 (by simpa using h), fun h => hF.out.f16 (by simpa using h), fun h => hF.out.f17 (by simpa using h), fun h => hF.out.f18 (by simpa using h), fun h => hF.out.f19 (by simpa using h), fun _ => rfl, fun h => hF.out.f21 (by simpa using h), fun i hi h => by have := hF.out.ol i hi (by simpa using h); simp [this], fun h => by have := hF.out.cA (by simpa using h); simpa using this, fun h => by have := hF.out.cB (by simpa using h); simpa using this, fun h => by have := hF.out.cF (by simpa using h); simpa using this, fun _ => by simpa using HD19.out, fun h => hF.out.kp (by simpa using h), fun h => hF.out.cl (by simpa using h), fun h h2 => hF.out.ro (by simpa using h) (by simpa using h2), fun h => hF.out.r0 (by simpa using h), fun h h2 => hF.out.b0 (by simpa using h) (by simpa using h2), fun h h2 => hF.out.r1 (by simpa using h) (by simpa using h2), fun h => hF.out.fin (by simpa using h)⟩
          · intro d a W hI hd hdep
            obtain ⟨gb2, gr, cr, ra, rn, rc, rl, x35, x36, x37, x38, x39, x40, x41, x42, x43, x44, x45, x46, x47, x48, x49, x50, x51, x52, x53, x54, x55, rfl, hF⟩ := hI
            have hd0 : d 0 = true := dep_of hdep 0 (by kernel_rfl)
            have hd1 : d 1 = true := dep_of hdep 1 (by kernel_rfl)
            have hd2 : d 2 = true := dep_of hdep 2 (by kernel_rfl)
            have hd3 : d 3 = true := dep_of hdep 3 (by kernel_rfl)
            have hd4 : d 4 = true := dep_of hdep 4 (by kernel_rfl)
            have hd5 : d 5 = true := dep_of hdep 5 (by kernel_rfl)
            have hd6 : d 6 = true := dep_of hdep 6 (by kernel_rfl)
            have hd7 : d 7 = true := dep_of hdep 7 (by kernel_rfl)
            have hd8 : d 8 = true := dep_of hdep 8 (by kernel_rfl)
            have hd9 : d 9 = true := dep_of hdep 9 (by kernel_rfl)
            have hd10 : d 10 = true := dep_of hdep 10 (by kernel_rfl)
            have hd11 : d 11 = true := dep_of hdep 11 (by kernel_rfl)
            have hd12 : d 12 = true := dep_of hdep 12 (by kernel_rfl)
            have hd13 : d 13 = true := dep_of hdep 13 (by kernel_rfl)
            have hd14 : d 14 = true := dep_of hdep 14 (by kernel_rfl)
            have hd15 : d 15 = true := dep_of hdep 15 (by kernel_rfl)
            have hd16 : d 16 = true := dep_of hdep 16 (by kernel_rfl)
            have hd17 : d 17 = true := dep_of hdep 17 (by kernel_rfl)
            have hd20 : d 20 = true := dep_of hdep 20 (by kernel_rfl)
            obtain rfl := hF.out.f0 hd0
            obtain rfl := hF.out.f1 hd1
            obtain rfl := hF.out.f2 hd2
            obtain rfl := hF.out.f3 hd3
            obtain rfl := hF.out.f4 hd4
            obtain rfl := hF.out.f5 hd5
            obtain rfl := hF.out.f6 hd6
            obtain rfl := hF.out.f7 hd7
            obtain rfl := hF.out.f8 hd8
            obtain rfl := hF.out.f9 hd9
            obtain rfl := hF.out.f10 hd10
            obtain rfl := hF.out.f11 hd11
            obtain rfl := hF.out.f12 hd12
            obtain rfl := hF.out.f13 hd13
            obtain rfl := hF.out.f14 hd14
            obtain rfl := hF.out.f15 hd15
            obtain rfl := hF.out.f16 hd16
            obtain rfl := hF.out.f17 hd17
            obtain rfl := hF.out.f20 hd20
            have hd19 : d 19 = true := hF.out.cG hd20
            obtain rfl := hF.out.f19 hd19
            have hd18 : d 18 = true := hF.out.cF hd19
            obtain rfl := hF.out.f18 hd18
            have HD : Hid (∀ i, i < 21 → d i = true) := fun i hi => by
              have : i = 0 ∨ i = 1 ∨ i = 2 ∨ i = 3 ∨ i = 4 ∨ i = 5 ∨ i = 6 ∨ i = 7 ∨ i = 8 ∨ i = 9 ∨ i = 10 ∨ i = 11 ∨ i = 12 ∨ i = 13 ∨ i = 14 ∨ i = 15 ∨ i = 16 ∨ i = 17 ∨ i = 18 ∨ i = 19 ∨ i = 20 := by omega
              rcases this with rfl | rfl | rfl | rfl | rfl | rfl | rfl | rfl | rfl | rfl | rfl | rfl | rfl | rfl | rfl | rfl | rfl | rfl | rfl | rfl | rfl <;> assumption
            have HKP : Hid (w8.grownBy W (Value.ownBlock (.slice va ss.length vc))) := hF.out.kp hd
            have HR1 : Hid (W.ownsRow w0.heap.size 103 1 (.slice (some ⟨gr, 0, none⟩) (ss.length + 1) cr) (ss.length + 1) (vs ++ [(.slice ra rn rc)]) ∧ ((Value.ownBlock (.slice va ss.length vc)) = some gr ∨ w8.heap.size ≤ gr)) := hF.out.r1 hd17 hd
            have HRO2 : Hid (W.ownsRow w8.heap.size 145 3 (.slice ra rn rc) rl.length (ics rl)) := hF.out.ro hd15 hd
            have hblk := (HKP.out.block mb HMB.out.1 HMB.out.2).trans HBX.out
            have ya := mcell_blk hblk 9
            have yb := mfrozen_blk hblk 9
            clear hblk
            simp only [List.getElem?_toArray, List.getElem?_cons_zero, List.getElem?_cons_succ] at ya
            clear hdep hd hd0 hd1 hd2 hd3 hd4 hd5 hd6 hd7 hd8 hd9 hd10 hd11 hd12 hd13 hd14 hd15 hd16 hd17 hd20
            intro K hK
            simp only [Act.put, List.setIfInBounds_toArray, List.set_cons_zero, List.set_cons_succ]
            go_simp
            refine hK.out _ _ ⟨gb2, gr, cr, ra, rn, rc, rl, (.pointer (some ⟨mb, 0, none⟩)), (.pointer (some ⟨mb, 0, none⟩)), (.pointer (some ⟨mb, 0, none⟩)), (.pointer (some ⟨mb, 9, none⟩)), (.pointer (some ⟨mb, 9, none⟩)), (.slice va ss.length vc), (.pointer (some ⟨mb, 0, none⟩)), (.pointer (some ⟨mb, 0, none⟩)), (.pointer (some ⟨mb, 0, none⟩)), (.agg #[.int .i64 (T : Int), .int .i64 (n : Int), pv]), (.pointer (some ⟨mb, 0, none⟩)), (.pointer (some ⟨mb, 0, none⟩)), (.pointer (some ⟨mb, 3, none⟩)), (.agg #[.slice (some ⟨be, 0, none⟩) n n, .slice (some ⟨bf, 0, none⟩) n n, .slice (some ⟨bw, 0, none⟩) n n, .slice (some ⟨br, 0, none⟩) n n, .slice (some ⟨bm, 0, none⟩) n n]), (.slice ko k.length kc), (.slice ra rn rc), (.slice (some ⟨gb2, 0, none⟩) 1 1), (.slice (some ⟨gr, 0, none⟩) (ss.length + 1) cr), (.pointer (some ⟨mb, 0, none⟩)), (.pointer (some ⟨mb, 9, none⟩)), (.pointer (some ⟨mb, 9, none⟩)), by first | (simp only [Act.put, List.setIfInBounds_toArray, List.set_cons_zero, List.set_cons_succ]; done) | (simp only [Act.put, List.setIfInBounds_toArray, List.set_cons_zero, List.set_cons_succ]; rfl), ?_⟩
            exact ⟨fun h => hF.out.f0 (by simpa using h), fun h => hF.out.f1 (by simpa using h), fun h => hF.out.f2 (by simpa using h), fun h => hF.out.f3 (by simpa using h), fun h => hF.out.f4 (by simpa using h), fun h => hF.out.f5 (by simpa using h), fun h => hF.out.f6 (by simpa using h), fun h => hF.out.f7 (by simpa using h), fun h => hF.out.f8 (by simpa using h), fun h => hF.out.f9 (by simpa using h), fun h => hF.out.f10 (by simpa using h), fun h => hF.out.f11 (by simpa using h), fun h => hF.out.f12 (by simpa using h), fun h => hF.out.f13 (by simpa using h), fun h => hF.out.f14 (by simpa using h), fun h => hF.out.f15 (by simpa using h), fun h => hF.out.f16 (by simpa using h), fun h => hF.out.f17 (by simpa using h), fun h => hF.out.f18 (by simpa using h), fun h => hF.out.f19 (by simpa using h), fun h => hF.out.f20 (by simpa using h), fun _ => trivial, fun i hi _ => by have := HD.out i hi; simp [this], fun h => by have := hF.out.cA (by simpa using h); simpa using this, fun h => by have := hF.out.cB (by simpa using h); simpa using this, fun h => by have := hF.out.cF (by simpa using h); simpa using this, fun h => by have := hF.out.cG (by simpa using h); simpa using this, fun h => by simp at h, fun h => hF.out.cl (by simpa using h), fun _ h => by simp at h, fun h => by have := HD.out 17 (by omega); simp [this] at h, fun _ h => by have := HD.out 17 (by omega); simp [this] at h, fun _ h => by simp at h, fun _ => ⟨W, HKP.out, HR1.out.1, HR1.out.2, HRO2.out, rfl⟩⟩
        · intro d a W hI hall
          obtain ⟨gb2, gr, cr, ra, rn, rc, rl, x35, x36, x37, x38, x39, x40, x41, x42, x43, x44, x45, x46, x47, x48, x49, x50, x51, x52, x53, x54, x55, rfl, hF⟩ := hI
          simp only [List.length_cons, List.length_nil] at hall
          obtain rfl := hF.out.f0 (hall 0 (by omega))
          obtain rfl := hF.out.f1 (hall 1 (by omega))
          obtain rfl := hF.out.f2 (hall 2 (by omega))
          obtain rfl := hF.out.f3 (hall 3 (by omega))
          obtain rfl := hF.out.f4 (hall 4 (by omega))
          obtain rfl := hF.out.f5 (hall 5 (by omega))
          obtain rfl := hF.out.f6 (hall 6 (by omega))
          obtain rfl := hF.out.f7 (hall 7 (by omega))
          obtain rfl := hF.out.f8 (hall 8 (by omega))
          obtain rfl := hF.out.f9 (hall 9 (by omega))
          obtain rfl := hF.out.f10 (hall 10 (by omega))
          obtain rfl := hF.out.f11 (hall 11 (by omega))
          obtain rfl := hF.out.f12 (hall 12 (by omega))
          obtain rfl := hF.out.f13 (hall 13 (by omega))
          obtain rfl := hF.out.f14 (hall 14 (by omega))
          obtain rfl := hF.out.f15 (hall 15 (by omega))
          obtain rfl := hF.out.f16 (hall 16 (by omega))
          obtain rfl := hF.out.f17 (hall 17 (by omega))
          obtain rfl := hF.out.f18 (hall 18 (by omega))
          obtain rfl := hF.out.f19 (hall 19 (by omega))
          obtain rfl := hF.out.f20 (hall 20 (by omega))
          obtain ⟨V, g1, g2, g3, g4, rfl⟩ := hF.out.fin (hall 21 (by omega))
          have hcl := hF.out.cl (hall 15 (by omega))
          have HM9 : Hid (Mk w0 mb (T : Int) (n : Int) pv (.slice (some ⟨be, 0, none⟩) n n) (.slice (some ⟨bf, 0, none⟩) n n) (.slice (some ⟨bw, 0, none⟩) n n) (.slice (some ⟨br, 0, none⟩) n n) (.slice (some ⟨bm, 0, none⟩) n n) (.slice (some ⟨kg, 0, none⟩) (ks.length + 1) kp) (.slice (some ⟨gr, 0, none⟩) (ss.length + 1) cr) nv (us ++ [.slice ko k.length kc]) (vs ++ [.slice ra rn rc]) ws (ks ++ [k]) (ss ++ [rl]) nx (V.setCell ⟨mb, 9, none⟩ (.slice (some ⟨gr, 0, none⟩) (ss.length + 1) cr))) := HM8.out.pushS g1 g2 g3 (mv_lower g4 HM8.out.bw.size)
          have HFM9 : Hid (Fm (Mx mb KVV.1 KVV.2) w (V.setCell ⟨mb, 9, none⟩ (.slice (some ⟨gr, 0, none⟩) (ss.length + 1) cr)) ∧ ((Value.slice va ss.length vc).ownBlock = some gr ∨ w.heap.size ≤ gr)) := by
            refine ⟨⟨?_, ?_, ?_, ?_, fun q hq hx => ?_⟩, ?_⟩
            · exact g1.os.trans HFM8.out.1.os
            · exact g1.tape.trans HFM8.out.1.tape
            · exact g1.output.trans HFM8.out.1.output
            · exact Nat.le_trans HFM8.out.1.size (by simpa [World.setCell] using g1.size)
            · have hq8 : q < w8.heap.size := Nat.lt_of_lt_of_le hq HFM8.out.1.size
              rw [mset_ne V 9 _ (fun e => hx (Or.inl e)), g1.block q hq8 (fun e => hx (Or.inr (Or.inr (by rw [← HKVE.out.2] at e; exact e.symm))))]
              exact HFM8.out.1.block q hq hx
            · rcases g3 with h | h
              · exact Or.inl h
              · exact Or.inr (Nat.le_trans HFM8.out.1.size h)
          have HFIN : Hid (NmQ w0 mb T n pv be bf bw br bm E F KVV.1 KVV.2 nv ws ks ss nx ps k w (.returned (.int .i64 (ks.length : Int))) (V.setCell ⟨mb, 9, none⟩ (.slice (some ⟨gr, 0, none⟩) (ss.length + 1) cr))) := by
            refine ⟨(ks.length : Int), _, _, _, _, _, _, rfl, ⟨Or.inr ⟨HKN.out, ks.length, rfl, by simp⟩, Or.inr ⟨HKN.out, HNI.out, rfl, rl, rfl, hcl⟩⟩, HM9.out, HFM9.out.1, fun q hq => ?_, fun q hq => ?_⟩
            · have e : q = kg := by simpa [Value.ownBlock, eq_comm] using hq
              subst e
              rw [HKVE.out.1]; exact HFM8.out.2
            · have e : q = gr := by simpa [Value.ownBlock, eq_comm] using hq
              subst e
              rw [HKVE.out.2]; exact HFM9.out.2
          have hbl := mcell_blk HM9.out.bx 8
          simp only [List.getElem?_toArray, List.getElem?_cons_zero, List.getElem?_cons_succ] at hbl
          have HBL : Hid (_) := hbl
          clear hbl
          clear hF hall g1 g2 g3 g4 hcl HM9 HFM9
          simp only [Act.put, List.setIfInBounds_toArray, List.set_cons_zero, List.set_cons_succ]
          generalize V.setCell ⟨mb, 9, none⟩ (.slice (some ⟨gr, 0, none⟩) (ss.length + 1) cr) = w9 at HFIN HBL ⊢
          have ya := HBL.out
          have hkl := HFEW.out
          have hwr : IntKind.i64.wrap ((ks.length : Int) + 1 - 1) = (ks.length : Int) := by simp [IntKind.wrap, IntKind.bits, IntKind.signed]; omega
          have hwr2 : ((ks.length : Int) + 1 - 1) = (ks.length : Int) := by omega
          go_wp2_with fail
          go_ret
          first | exact HFIN.out | (simp only [hwr2]; exact HFIN.out)
end Go.Proofs.Ytpbnnmfjahckmaa
