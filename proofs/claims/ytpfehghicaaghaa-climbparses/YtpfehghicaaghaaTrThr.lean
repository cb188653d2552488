/-
  The contract of trees.(*walk).through: what is wrong first with a tree, and the word so far, for every tree.
-/
import Derived.Test.YtpfehghicaaghaaTrA
namespace Go.Proofs.Ytpfehghicaaghaa
open Go.RowKit
open Cg
structure RTh (w9 : World) (B q sb vn vc : Nat) (va : Option Addr) (s1 : Int) (xs : List Value) (gb2 : Nat) (gr : Nat) (cr : Nat) (d : Nat → Bool) (x38 x39 x40 x41 x42 x43 x44 x45 x46 x47 x48 : Value) (W : World) : Prop where
  f0 : d 0 = true → x38 = (.pointer (some ⟨q, 0, none⟩))
  f1 : d 1 = true → x39 = (.pointer (some ⟨q, 0, none⟩))
  f2 : d 2 = true → x40 = (.pointer (some ⟨q, 0, none⟩))
  f3 : d 3 = true → x41 = (.pointer (some ⟨q, 4, none⟩))
  f4 : d 4 = true → x42 = (.slice va vn vc)
  f5 : d 5 = true → x43 = (.pointer (some ⟨sb, 1, none⟩))
  f6 : d 6 = true → x44 = (.int .i64 s1)
  f7 : d 7 = true → x45 = (.slice (some ⟨gb2, 0, none⟩) 1 1)
  f8 : d 8 = true → x46 = (.slice (some ⟨gr, 0, none⟩) (vn + 1) cr)
  f9 : d 9 = true → x47 = (.pointer (some ⟨q, 0, none⟩))
  f10 : d 10 = true → x48 = (.pointer (some ⟨q, 4, none⟩))
  f11 : d 11 = true → True
  ol : ∀ i, i < 11 → d 11 = true → d i = true
  c8 : d 8 = true → d 7 = true
  c10 : d 10 = true → d 9 = true
  kp : d 11 = false → w9.grownBy W (Value.ownBlock (.slice va vn vc))
  r0 : d 8 = false → W.ownsRow B 3 1 (.slice va vn vc) vn xs
  b0 : d 7 = true → d 8 = false → W.heap[gb2]? = some (.cells #[.int .i64 s1] 3)
  r1 : d 8 = true → d 11 = false → W.ownsRow B 3 1 (.slice (some ⟨gr, 0, none⟩) (vn + 1) cr) (vn + 1) (xs ++ [.int .i64 s1])
  fin : d 11 = true → ∃ V, w9.grownBy V (Value.ownBlock (.slice va vn vc)) ∧ V.ownsRow B 3 1 (.slice (some ⟨gr, 0, none⟩) (vn + 1) cr) (vn + 1) (xs ++ [.int .i64 s1]) ∧ W = V.setCell ⟨q, 4, none⟩ (.slice (some ⟨gr, 0, none⟩) (vn + 1) cr)

theorem thr_eq (ps : List Pd) (p k : Int) (kids : List T) (s : Sy) (d n : Nat) (ws : List Int) : thr ps (.mk p k kids) s d n ws = if 1000 < n + 1 then (2, n + 1, ws) else if 100 < d then (7, n + 1, ws) else if may ps p k kids.length s ws.length = true then (if s.1 = 1 then (0, n + 1, ws ++ [s.2]) else thrL ps kids (bodyOf ps p) (d + 1) (n + 1) ws) else (4, n + 1, ws) := by rw [thr]
mutual
theorem thr_bound {ps : List Pd} : ∀ {t : T} {s : Sy} {d n n' : Nat} {ws ws' : List Int}, ws.length ≤ n → thr ps t s d n ws = (0, n', ws') → n' ≤ 1000 ∧ ws'.length ≤ n'
  | .mk p k l, s, d, n, n', ws, ws', hw, h => by
    rw [thr] at h
    split at h
    · cases h
    · rename_i h1
      split at h
      · cases h
      · split at h
        · split at h
          · simp at h
            obtain ⟨rfl, rfl⟩ := h
            simp; omega
          · exact thrL_bound (by omega) (by omega) h
        · cases h
theorem thrL_bound {ps : List Pd} : ∀ {l : List T} {ss : List Sy} {d n n' : Nat} {ws ws' : List Int}, ws.length ≤ n → n ≤ 1000 → thrL ps l ss d n ws = (0, n', ws') → n' ≤ 1000 ∧ ws'.length ≤ n'
  | [], ss, d, n, n', ws, ws', hw, hn, h => by
    rw [thrL] at h; simp at h
    obtain ⟨rfl, rfl⟩ := h
    exact ⟨hn, hw⟩
  | t :: l, ss, d, n, n', ws, ws', hw, hn, h => by
    rw [thrL] at h
    by_cases h0 : (thr ps t (ss.headD (0, 0)) d n ws).1 = 0
    · rw [if_pos h0] at h
      obtain ⟨a, b, c⟩ : ∃ a b, thr ps t (ss.headD (0, 0)) d n ws = (0, a, b) := ⟨_, _, by rw [← h0]⟩
      rw [c] at h
      obtain ⟨g1, g2⟩ := thr_bound hw c
      exact thrL_bound g2 g1 h
    · rw [if_neg h0] at h
      rw [h] at h0
      exact absurd rfl h0
end
set_option maxHeartbeats 8000000 in
set_option maxRecDepth 20000 in
theorem through_all (w0 : World) (q : Nat) (tt n : Int) (pv : Value) (ps : List Pd) (hp : Pds w0 pv ps) (P : Nat → Prop) (m : Nat) : ∀ (t : T), t.sz ≤ m → ∀ (v : Value) (s0 s1 : Int) (dd nn : Nat) (wv : Value) (ws : List Int) (w : World), Tx w0 P v t → dd ≤ 101 → nn ≤ 1000 → ws.length ≤ nn → Wk w0 q tt n pv nn wv ws w →
    Calls Try.prog 57 #[.pointer (some ⟨q, 0, none⟩), v, .agg #[.int .i64 s0, .int .i64 s1], .int .i64 (dd : Int)] w fun e w' => e = .returned (.int .i64 ((thr ps t (s0, s1) dd nn ws).1 : Int)) ∧ ThP w0 q tt n pv (thr ps t (s0, s1) dd nn ws) w w' := by
  induction m with
  | zero => intro t hm; have := t.sz_pos; omega
  | succ m ih =>
    intro t hm
    have HIH : Hid _ := ih
    clear ih
    intro v s0 s1 dd nn wv ws w hx hd hn hws hk
    obtain ⟨p, k, ao, cap, kids, vals, rfl, rfl, hkm, -, -⟩ := hx.shape
    have HX : Hid (Tx w0 P (.agg #[.int .i64 p, .int .i64 k, .slice ao kids.length cap]) (.mk p k kids)) := hx
    have HP : Hid (Pds w0 pv ps) := hp
    have HKS : Hid (∀ s ∈ kids, s.sz ≤ m) := fun s hs => by have := T.sz_lt (t := .mk p k kids) hs; omega
    have HE := thr_eq ps p k kids (s0, s1) dd nn ws
    replace HE : Hid (_ = _) := HE
    have HK1 : Hid (Wk w0 q tt n pv nn wv ws ((w.alloc (Obj.cells #[.int .i64 p, .int .i64 k, .slice ao kids.length cap] 32)).alloc (Obj.cells #[.int .i64 s0, .int .i64 s1] 47))) := hk.next (below_alloc2 _ _ _)
    have c3 : ((w.alloc (Obj.cells #[.int .i64 p, .int .i64 k, .slice ao kids.length cap] 32)).alloc (Obj.cells #[.int .i64 s0, .int .i64 s1] 47)).cell? ⟨q, 3, none⟩ = some (.int .i64 (nn : Int)) := by have := HK1.out.cell 3; simpa using this
    have f3 : ((w.alloc (Obj.cells #[.int .i64 p, .int .i64 k, .slice ao kids.length cap] 32)).alloc (Obj.cells #[.int .i64 s0, .int .i64 s1] 47)).frozen? ⟨q, 3, none⟩ = false := tfrozen_blk HK1.out.blk 3
    have HG1 : Hid (((w.alloc (Obj.cells #[.int .i64 p, .int .i64 k, .slice ao kids.length cap] 32)).alloc (Obj.cells #[.int .i64 s0, .int .i64 s1] 47)).heap[w.heap.size]? = some (.cells #[.int .i64 p, .int .i64 k, .slice ao kids.length cap] 32) ∧ ((w.alloc (Obj.cells #[.int .i64 p, .int .i64 k, .slice ao kids.length cap] 32)).alloc (Obj.cells #[.int .i64 s0, .int .i64 s1] 47)).heap[w.heap.size + 1]? = some (.cells #[.int .i64 s0, .int .i64 s1] 47)) := by
      refine ⟨tbox_next (heap_alloc_new _ _) (below_alloc _ _), ?_⟩
      have := heap_alloc_new (w.alloc (Obj.cells #[.int .i64 p, .int .i64 k, .slice ao kids.length cap] 32)) (Obj.cells #[.int .i64 s0, .int .i64 s1] 47)
      rw [show (w.alloc (Obj.cells #[.int .i64 p, .int .i64 k, .slice ao kids.length cap] 32)).heap.size = w.heap.size + 1 by simp] at this
      exact this
    have HF1 : Hid (Fy Z37 w ((w.alloc (Obj.cells #[.int .i64 p, .int .i64 k, .slice ao kids.length cap] 32)).alloc (Obj.cells #[.int .i64 s0, .int .i64 s1] 47))) := Fy.of (below_alloc2 _ _ _)
    have HQW : Hid (q < w.heap.size) := heap_lt3 hk.blk
    clear hx hp hk
    obtain ⟨wb, HWB⟩ : ∃ wb, Hid ((w.alloc (Obj.cells #[.int .i64 p, .int .i64 k, .slice ao kids.length cap] 32)).alloc (Obj.cells #[.int .i64 s0, .int .i64 s1] 47) = wb) := ⟨_, (rfl : (w.alloc (Obj.cells #[.int .i64 p, .int .i64 k, .slice ao kids.length cap] 32)).alloc (Obj.cells #[.int .i64 s0, .int .i64 s1] 47) = (w.alloc (Obj.cells #[.int .i64 p, .int .i64 k, .slice ao kids.length cap] 32)).alloc (Obj.cells #[.int .i64 s0, .int .i64 s1] 47))⟩
    go_enter Try.func57, Try.ntmps57
    go_upto_region 1 with fail
    rw [HWB.out] at HK1 c3 f3 HG1 HF1 ⊢
    clear HWB
    have HK2 : Hid (Wk w0 q tt n pv (nn + 1) wv ws (wb.setCell ⟨q, 3, none⟩ (.int .i64 ((nn : Int) + 1)))) := HK1.out.set (nn + 1)
    have hqn : ∀ i, w.heap.size + i ≠ q := fun i => by have := HQW.out; omega
    have HG2 : Hid ((wb.setCell ⟨q, 3, none⟩ (.int .i64 ((nn : Int) + 1))).heap[w.heap.size]? = some (.cells #[.int .i64 p, .int .i64 k, .slice ao kids.length cap] 32) ∧ (wb.setCell ⟨q, 3, none⟩ (.int .i64 ((nn : Int) + 1))).heap[w.heap.size + 1]? = some (.cells #[.int .i64 s0, .int .i64 s1] 47)) :=
      ⟨(Below.heap_setCell _ _ _ _ (hqn 0)).trans HG1.out.1, (Below.heap_setCell _ _ _ _ (hqn 1)).trans HG1.out.2⟩
    have HF2 : Hid (Fy Z37 w (wb.setCell ⟨q, 3, none⟩ (.int .i64 ((nn : Int) + 1)))) := HF1.out.trans (Fy.set HK1.out.blk (Or.inr rfl) _)
    go_upto_region 2 with fail
    clear hqn HK1 HG1 HF1 c3 f3
    generalize wb.setCell ⟨q, 3, none⟩ (.int .i64 ((nn : Int) + 1)) = W2 at HK2 HG2 HF2 ⊢
    have c3 : W2.cell? ⟨q, 3, none⟩ = some (.int .i64 ((nn : Int) + 1)) := by have := HK2.out.cell 3; simpa using this
    by_cases h1 : 1000 < nn + 1
    · have h1' : decide ((1000 : Int) < (nn : Int) + 1) = true := by simp; omega
      have HE2 : Hid (thr ps (.mk p k kids) (s0, s1) dd nn ws = (2, nn + 1, ws)) := by show _ = _; rw [HE.out, if_pos h1]
      go_wp2_with fail
      go_ret
      rw [HE2.out]
      exact ⟨rfl, ⟨_, HK2.out⟩, HF2.out⟩
    · have h1' : decide ((1000 : Int) < (nn : Int) + 1) = false := by simp; omega
      by_cases h2 : 100 < dd
      · have h2' : decide ((100 : Int) < (dd : Int)) = true := by simp; omega
        have HE2 : Hid (thr ps (.mk p k kids) (s0, s1) dd nn ws = (7, nn + 1, ws)) := by show _ = _; rw [HE.out, if_neg h1, if_pos h2]
        go_wp2_with fail
        go_ret
        rw [HE2.out]
        exact ⟨rfl, ⟨_, HK2.out⟩, HF2.out⟩
      · have h2' : decide ((100 : Int) < (dd : Int)) = false := by simp; omega
        have HE2 : Hid (thr ps (.mk p k kids) (s0, s1) dd nn ws = if may ps p k kids.length (s0, s1) ws.length = true then (if s0 = 1 then (0, nn + 1, ws ++ [s1]) else thrL ps kids (bodyOf ps p) (dd + 1) (nn + 1) ws) else (4, nn + 1, ws)) := by show _ = _; rw [HE.out, if_neg h1, if_neg h2]
        obtain ⟨my, HMY⟩ : ∃ my, Hid (may ps p k kids.length (s0, s1) ws.length = my) := ⟨_, (rfl : may ps p k kids.length (s0, s1) ws.length = may ps p k kids.length (s0, s1) ws.length)⟩
        rw [HMY.out] at HE2
        have e0 := tcell_blk HG2.out.1 0
        have e1 := tcell_blk HG2.out.1 1
        have e2 := tcell_blk HG2.out.1 2
        have e3 := tcell_blk HG2.out.2 0
        have e4 := tcell_blk HG2.out.2 1
        simp only [List.getElem?_toArray, List.getElem?_cons_zero, List.getElem?_cons_succ] at e0 e1 e2 e3 e4
        have HN1 : Hid (nn + 1 ≤ 1000 ∧ dd ≤ 100) := by show _ ∧ _; omega
        clear HE h1 h2
        go_upto_region 6 with fail
        go_wp2_with fail
        have hI := mayStand_any w0 q tt n pv ps (nn + 1) wv ws p k ao kids.length cap s0 s1 W2 HP.out HK2.out
        rw [HMY.out] at hI
        refine hI.mono ?_
        rintro _ W3 ⟨rfl, hb3⟩
        have HK3 : Hid (Wk w0 q tt n pv (nn + 1) wv ws W3) := HK2.out.next hb3
        have HG3 : Hid (W3.heap[w.heap.size]? = some (.cells #[.int .i64 p, .int .i64 k, .slice ao kids.length cap] 32) ∧ W3.heap[w.heap.size + 1]? = some (.cells #[.int .i64 s0, .int .i64 s1] 47)) := ⟨tbox_next HG2.out.1 hb3, tbox_next HG2.out.2 hb3⟩
        have HF3 : Hid (Fy Z37 w W3) := HF2.out.trans (Fy.of hb3)
        clear hb3 hI HK2 HG2 HF2 e0 e1 e2 e3 e4 c3 h1' h2'
        cases my with
        | false =>
          have HE4 : Hid (thr ps (.mk p k kids) (s0, s1) dd nn ws = (4, nn + 1, ws)) := by show _ = _; rw [HE2.out]; rfl
          go_wp2_with fail
          go_ret
          rw [HE4.out]
          exact ⟨rfl, ⟨_, HK3.out⟩, HF3.out⟩
        | true =>
          have e0 := tcell_blk HG3.out.1 0
          have e2 := tcell_blk HG3.out.1 2
          have e3 := tcell_blk HG3.out.2 0
          have e4 := tcell_blk HG3.out.2 1
          simp only [List.getElem?_toArray, List.getElem?_cons_zero, List.getElem?_cons_succ] at e0 e2 e3 e4
          by_cases h4 : s0 = 1
          · subst h4
            have HE4 : Hid (thr ps (.mk p k kids) (1, s1) dd nn ws = (0, nn + 1, ws ++ [s1])) := by show _ = _; rw [HE2.out]; rfl
            have HOWN0 := HK3.out.own
            have hc4 : W3.cell? ⟨q, 4, none⟩ = some wv := by have := HK3.out.cell 4; simpa using this
            obtain ⟨va, vc, rfl⟩ := own_len HOWN0
            obtain ⟨vn, HVN⟩ : ∃ vn, Hid (ws.length = vn) := ⟨_, (rfl : ws.length = ws.length)⟩
            obtain ⟨xs, HXS⟩ : ∃ xs, Hid (ws.map (Value.int .i64) = xs) := ⟨_, (rfl : ws.map (Value.int .i64) = ws.map (Value.int .i64))⟩
            have HBX : Hid (W3.heap[q]? = some (.cells #[.int .i64 tt, .int .i64 n, pv, .int .i64 ((nn + 1 : Nat) : Int), .slice va ws.length vc] 107)) := HK3.out.blk
            have HKB : Hid ((q < W3.heap.size ∧ some q ≠ Value.ownBlock (.slice va ws.length vc)) ∧ (w.heap.size + 1 < W3.heap.size ∧ some (w.heap.size + 1) ≠ Value.ownBlock (.slice va ws.length vc))) := ⟨⟨heap_lt3 HK3.out.blk, HK3.out.ne⟩, heap_lt3 HG3.out.2, fun e => by
              obtain ⟨cur, hcc⟩ := own_blk HOWN0 e.symm
              have := HG3.out.2
              rw [hcc] at this
              simp at this⟩
            have HC : Hid (W3.cell? ⟨q, 4, none⟩ = some (.slice va ws.length vc) ∧ W3.cell? ⟨w.heap.size + 1, 1, none⟩ = some (.int .i64 s1)) := ⟨hc4, e4⟩
            have HOWN : Hid (W3.ownsRow w0.heap.size 3 1 (.slice va ws.length vc) ws.length (ws.map (Value.int .i64))) := HOWN0
            have HK1 : Hid (vn ≤ 1000) := by show _ ≤ _; rw [← HVN.out]; omega
            have HBW : Hid (w0.heap.size ≤ W3.heap.size) := HK3.out.bel.size
            obtain ⟨i1, hi1, hy0, hy1, hy2⟩ := info_parts info3
            rw [HVN.out] at HBX HKB HC HOWN
            rw [HXS.out] at HOWN
            replace HK3 : Hid (Wk w0 q tt n pv (nn + 1) (.slice va ws.length vc) ws W3) := HK3
            clear hc4 HOWN0
            go_upto_region 9 with fail
            clear e0 e2 e3 e4
            obtain ⟨sb, HSB⟩ : ∃ sb, Hid (w.heap.size + 1 = sb) := ⟨_, (rfl : w.heap.size + 1 = w.heap.size + 1)⟩
            rw [HSB.out] at HKB HC ⊢
            obtain ⟨B, HBB⟩ : ∃ B, Hid (w0.heap.size = B) := ⟨_, (rfl : w0.heap.size = w0.heap.size)⟩
            rw [HBB.out] at HOWN HBW
            refine wp_region_free mixed (fun a0 d a W => ∃ (gb2 : Nat) (gr : Nat) (cr : Nat) (x38 x39 x40 x41 x42 x43 x44 x45 x46 x47 x48 : Value), a = (((((((((((a0.put (some 38) x38).put (some 39) x39).put (some 40) x40).put (some 41) x41).put (some 42) x42).put (some 43) x43).put (some 44) x44).put (some 45) x45).put (some 46) x46).put (some 47) x47).put (some 48) x48) ∧ Hid (RTh W3 B q sb vn vc va s1 xs gb2 gr cr d x38 x39 x40 x41 x42 x43 x44 x45 x46 x47 x48 W)) (by kernel_rfl) ⟨0, 0, 0, undef, undef, undef, undef, undef, undef, undef, undef, undef, undef, undef, by simp only [Act.put, List.setIfInBounds_toArray, List.set_cons_zero, List.set_cons_succ], ?_⟩ ?_ ?_
            · exact ⟨fun h => no_way h, fun h => no_way h, fun h => no_way h, fun h => no_way h, fun h => no_way h, fun h => no_way h, fun h => no_way h, fun h => no_way h, fun h => no_way h, fun h => no_way h, fun h => no_way h, fun _ => trivial, fun _ _ h => no_way h, fun h => no_way h, fun h => no_way h, fun _ => tgb_drew (World.grownBy.refl _ _), fun _ => HOWN.out, fun h => no_way h, fun h => no_way h, fun h => no_way h⟩
            · simp only [StepAll, and_true]
              refine ⟨?_, ?_, ?_, ?_, ?_, ?_, ?_, ?_, ?_, ?_, ?_, ?_⟩
              · intro d a W hI hd hdep
                obtain ⟨gb2, gr, cr, x38, x39, x40, x41, x42, x43, x44, x45, x46, x47, x48, rfl, hF⟩ := hI
                clear hdep hd
                intro K hK
                simp only [Act.put, List.setIfInBounds_toArray, List.set_cons_zero, List.set_cons_succ]
                go_simp
                refine hK.out _ _ ⟨gb2, gr, cr, (.pointer (some ⟨q, 0, none⟩)), x39, x40, x41, x42, x43, x44, x45, x46, x47, x48, by simp only [Act.put, List.setIfInBounds_toArray, List.set_cons_zero, List.set_cons_succ], ?_⟩
                exact ⟨fun _ => rfl, fun h => hF.out.f1 (by simpa using h), fun h => hF.out.f2 (by simpa using h), fun h => hF.out.f3 (by simpa using h), fun h => hF.out.f4 (by simpa using h), fun h => hF.out.f5 (by simpa using h), fun h => hF.out.f6 (by simpa using h), fun h => hF.out.f7 (by simpa using h), fun h => hF.out.f8 (by simpa using h), fun h => hF.out.f9 (by simpa using h), fun h => hF.out.f10 (by simpa using h), fun h => hF.out.f11 (by simpa using h), fun i hi h => by have := hF.out.ol i hi (by simpa using h); simp [this], fun h => by have := hF.out.c8 (by simpa using h); simpa using this, fun h => by have := hF.out.c10 (by simpa using h); simpa using this, fun h => hF.out.kp (by simpa using h), fun h => hF.out.r0 (by simpa using h), fun h h2 => hF.out.b0 (by simpa using h) (by simpa using h2), fun h h2 => hF.out.r1 (by simpa using h) (by simpa using h2), fun h => hF.out.fin (by simpa using h)⟩
              · intro d a W hI hd hdep
                obtain ⟨gb2, gr, cr, x38, x39, x40, x41, x42, x43, x44, x45, x46, x47, x48, rfl, hF⟩ := hI
                clear hdep hd
                intro K hK
                simp only [Act.put, List.setIfInBounds_toArray, List.set_cons_zero, List.set_cons_succ]
                go_simp
                refine hK.out _ _ ⟨gb2, gr, cr, x38, (.pointer (some ⟨q, 0, none⟩)), x40, x41, x42, x43, x44, x45, x46, x47, x48, by simp only [Act.put, List.setIfInBounds_toArray, List.set_cons_zero, List.set_cons_succ], ?_⟩
                exact ⟨fun h => hF.out.f0 (by simpa using h), fun _ => rfl, fun h => hF.out.f2 (by simpa using h), fun h => hF.out.f3 (by simpa using h), fun h => hF.out.f4 (by simpa using h), fun h => hF.out.f5 (by simpa using h), fun h => hF.out.f6 (by simpa using h), fun h => hF.out.f7 (by simpa using h), fun h => hF.out.f8 (by simpa using h), fun h => hF.out.f9 (by simpa using h), fun h => hF.out.f10 (by simpa using h), fun h => hF.out.f11 (by simpa using h), fun i hi h => by have := hF.out.ol i hi (by simpa using h); simp [this], fun h => by have := hF.out.c8 (by simpa using h); simpa using this, fun h => by have := hF.out.c10 (by simpa using h); simpa using this, fun h => hF.out.kp (by simpa using h), fun h => hF.out.r0 (by simpa using h), fun h h2 => hF.out.b0 (by simpa using h) (by simpa using h2), fun h h2 => hF.out.r1 (by simpa using h) (by simpa using h2), fun h => hF.out.fin (by simpa using h)⟩
              · intro d a W hI hd hdep
                obtain ⟨gb2, gr, cr, x38, x39, x40, x41, x42, x43, x44, x45, x46, x47, x48, rfl, hF⟩ := hI
                have hd1 : d 1 = true := dep_of hdep 1 (by kernel_rfl)
                obtain rfl := hF.out.f1 hd1
                clear hdep hd hd1
                intro K hK
                simp only [Act.put, List.setIfInBounds_toArray, List.set_cons_zero, List.set_cons_succ]
                go_simp
                refine hK.out _ _ ⟨gb2, gr, cr, x38, (.pointer (some ⟨q, 0, none⟩)), (.pointer (some ⟨q, 0, none⟩)), x41, x42, x43, x44, x45, x46, x47, x48, by simp only [Act.put, List.setIfInBounds_toArray, List.set_cons_zero, List.set_cons_succ], ?_⟩
                exact ⟨fun h => hF.out.f0 (by simpa using h), fun h => hF.out.f1 (by simpa using h), fun _ => rfl, fun h => hF.out.f3 (by simpa using h), fun h => hF.out.f4 (by simpa using h), fun h => hF.out.f5 (by simpa using h), fun h => hF.out.f6 (by simpa using h), fun h => hF.out.f7 (by simpa using h), fun h => hF.out.f8 (by simpa using h), fun h => hF.out.f9 (by simpa using h), fun h => hF.out.f10 (by simpa using h), fun h => hF.out.f11 (by simpa using h), fun i hi h => by have := hF.out.ol i hi (by simpa using h); simp [this], fun h => by have := hF.out.c8 (by simpa using h); simpa using this, fun h => by have := hF.out.c10 (by simpa using h); simpa using this, fun h => hF.out.kp (by simpa using h), fun h => hF.out.r0 (by simpa using h), fun h h2 => hF.out.b0 (by simpa using h) (by simpa using h2), fun h h2 => hF.out.r1 (by simpa using h) (by simpa using h2), fun h => hF.out.fin (by simpa using h)⟩
              · intro d a W hI hd hdep
                obtain ⟨gb2, gr, cr, x38, x39, x40, x41, x42, x43, x44, x45, x46, x47, x48, rfl, hF⟩ := hI
                have hd2 : d 2 = true := dep_of hdep 2 (by kernel_rfl)
                obtain rfl := hF.out.f2 hd2
                clear hdep hd hd2
                intro K hK
                simp only [Act.put, List.setIfInBounds_toArray, List.set_cons_zero, List.set_cons_succ]
                go_simp
                refine hK.out _ _ ⟨gb2, gr, cr, x38, x39, (.pointer (some ⟨q, 0, none⟩)), (.pointer (some ⟨q, 4, none⟩)), x42, x43, x44, x45, x46, x47, x48, by simp only [Act.put, List.setIfInBounds_toArray, List.set_cons_zero, List.set_cons_succ], ?_⟩
                exact ⟨fun h => hF.out.f0 (by simpa using h), fun h => hF.out.f1 (by simpa using h), fun h => hF.out.f2 (by simpa using h), fun _ => rfl, fun h => hF.out.f4 (by simpa using h), fun h => hF.out.f5 (by simpa using h), fun h => hF.out.f6 (by simpa using h), fun h => hF.out.f7 (by simpa using h), fun h => hF.out.f8 (by simpa using h), fun h => hF.out.f9 (by simpa using h), fun h => hF.out.f10 (by simpa using h), fun h => hF.out.f11 (by simpa using h), fun i hi h => by have := hF.out.ol i hi (by simpa using h); simp [this], fun h => by have := hF.out.c8 (by simpa using h); simpa using this, fun h => by have := hF.out.c10 (by simpa using h); simpa using this, fun h => hF.out.kp (by simpa using h), fun h => hF.out.r0 (by simpa using h), fun h h2 => hF.out.b0 (by simpa using h) (by simpa using h2), fun h h2 => hF.out.r1 (by simpa using h) (by simpa using h2), fun h => hF.out.fin (by simpa using h)⟩
              · intro d a W hI hd hdep
                obtain ⟨gb2, gr, cr, x38, x39, x40, x41, x42, x43, x44, x45, x46, x47, x48, rfl, hF⟩ := hI
                have hd3 : d 3 = true := dep_of hdep 3 (by kernel_rfl)
                obtain rfl := hF.out.f3 hd3
                have HNL : Hid (d 11 = false) := no_later (hF.out.ol 4 (by omega)) hd
                have ya : W.cell? ⟨q, 4, none⟩ = some (.slice va vn vc) := (tgb_old (hF.out.kp HNL.out) (p := ⟨q, 4, none⟩) HKB.out.1.1 HKB.out.1.2).trans HC.out.1
                clear hdep hd hd3
                intro K hK
                simp only [Act.put, List.setIfInBounds_toArray, List.set_cons_zero, List.set_cons_succ]
                go_simp
                refine hK.out _ _ ⟨gb2, gr, cr, x38, x39, x40, (.pointer (some ⟨q, 4, none⟩)), (.slice va vn vc), x43, x44, x45, x46, x47, x48, by simp only [Act.put, List.setIfInBounds_toArray, List.set_cons_zero, List.set_cons_succ], ?_⟩
                exact ⟨fun h => hF.out.f0 (by simpa using h), fun h => hF.out.f1 (by simpa using h), fun h => hF.out.f2 (by simpa using h), fun h => hF.out.f3 (by simpa using h), fun _ => rfl, fun h => hF.out.f5 (by simpa using h), fun h => hF.out.f6 (by simpa using h), fun h => hF.out.f7 (by simpa using h), fun h => hF.out.f8 (by simpa using h), fun h => hF.out.f9 (by simpa using h), fun h => hF.out.f10 (by simpa using h), fun h => hF.out.f11 (by simpa using h), fun i hi h => by have := hF.out.ol i hi (by simpa using h); simp [this], fun h => by have := hF.out.c8 (by simpa using h); simpa using this, fun h => by have := hF.out.c10 (by simpa using h); simpa using this, fun h => hF.out.kp (by simpa using h), fun h => hF.out.r0 (by simpa using h), fun h h2 => hF.out.b0 (by simpa using h) (by simpa using h2), fun h h2 => hF.out.r1 (by simpa using h) (by simpa using h2), fun h => hF.out.fin (by simpa using h)⟩
              · intro d a W hI hd hdep
                obtain ⟨gb2, gr, cr, x38, x39, x40, x41, x42, x43, x44, x45, x46, x47, x48, rfl, hF⟩ := hI
                clear hdep hd
                intro K hK
                simp only [Act.put, List.setIfInBounds_toArray, List.set_cons_zero, List.set_cons_succ]
                go_simp
                refine hK.out _ _ ⟨gb2, gr, cr, x38, x39, x40, x41, x42, (.pointer (some ⟨sb, 1, none⟩)), x44, x45, x46, x47, x48, by simp only [Act.put, List.setIfInBounds_toArray, List.set_cons_zero, List.set_cons_succ], ?_⟩
                exact ⟨fun h => hF.out.f0 (by simpa using h), fun h => hF.out.f1 (by simpa using h), fun h => hF.out.f2 (by simpa using h), fun h => hF.out.f3 (by simpa using h), fun h => hF.out.f4 (by simpa using h), fun _ => rfl, fun h => hF.out.f6 (by simpa using h), fun h => hF.out.f7 (by simpa using h), fun h => hF.out.f8 (by simpa using h), fun h => hF.out.f9 (by simpa using h), fun h => hF.out.f10 (by simpa using h), fun h => hF.out.f11 (by simpa using h), fun i hi h => by have := hF.out.ol i hi (by simpa using h); simp [this], fun h => by have := hF.out.c8 (by simpa using h); simpa using this, fun h => by have := hF.out.c10 (by simpa using h); simpa using this, fun h => hF.out.kp (by simpa using h), fun h => hF.out.r0 (by simpa using h), fun h h2 => hF.out.b0 (by simpa using h) (by simpa using h2), fun h h2 => hF.out.r1 (by simpa using h) (by simpa using h2), fun h => hF.out.fin (by simpa using h)⟩
              · intro d a W hI hd hdep
                obtain ⟨gb2, gr, cr, x38, x39, x40, x41, x42, x43, x44, x45, x46, x47, x48, rfl, hF⟩ := hI
                have hd5 : d 5 = true := dep_of hdep 5 (by kernel_rfl)
                obtain rfl := hF.out.f5 hd5
                have HNL : Hid (d 11 = false) := no_later (hF.out.ol 6 (by omega)) hd
                have ya : W.cell? ⟨sb, 1, none⟩ = some (.int .i64 s1) := (tgb_old (hF.out.kp HNL.out) (p := ⟨sb, 1, none⟩) HKB.out.2.1 HKB.out.2.2).trans HC.out.2
                clear hdep hd hd5
                intro K hK
                simp only [Act.put, List.setIfInBounds_toArray, List.set_cons_zero, List.set_cons_succ]
                go_simp
                refine hK.out _ _ ⟨gb2, gr, cr, x38, x39, x40, x41, x42, (.pointer (some ⟨sb, 1, none⟩)), (.int .i64 s1), x45, x46, x47, x48, by simp only [Act.put, List.setIfInBounds_toArray, List.set_cons_zero, List.set_cons_succ], ?_⟩
                exact ⟨fun h => hF.out.f0 (by simpa using h), fun h => hF.out.f1 (by simpa using h), fun h => hF.out.f2 (by simpa using h), fun h => hF.out.f3 (by simpa using h), fun h => hF.out.f4 (by simpa using h), fun h => hF.out.f5 (by simpa using h), fun _ => rfl, fun h => hF.out.f7 (by simpa using h), fun h => hF.out.f8 (by simpa using h), fun h => hF.out.f9 (by simpa using h), fun h => hF.out.f10 (by simpa using h), fun h => hF.out.f11 (by simpa using h), fun i hi h => by have := hF.out.ol i hi (by simpa using h); simp [this], fun h => by have := hF.out.c8 (by simpa using h); simpa using this, fun h => by have := hF.out.c10 (by simpa using h); simpa using this, fun h => hF.out.kp (by simpa using h), fun h => hF.out.r0 (by simpa using h), fun h h2 => hF.out.b0 (by simpa using h) (by simpa using h2), fun h h2 => hF.out.r1 (by simpa using h) (by simpa using h2), fun h => hF.out.fin (by simpa using h)⟩
              · intro d a W hI hd hdep
                obtain ⟨gb2, gr, cr, x38, x39, x40, x41, x42, x43, x44, x45, x46, x47, x48, rfl, hF⟩ := hI
                have hd6 : d 6 = true := dep_of hdep 6 (by kernel_rfl)
                obtain rfl := hF.out.f6 hd6
                have HNL : Hid (d 11 = false) := no_later (hF.out.ol 7 (by omega)) hd
                have HN8 : Hid (d 8 = false) := no_later hF.out.c8 hd
                clear hdep hd hd6
                intro K hK
                simp only [Act.put, List.setIfInBounds_toArray, List.set_cons_zero, List.set_cons_succ]
                go_simp
                refine hK.out _ _ ⟨W.heap.size, gr, cr, x38, x39, x40, x41, x42, x43, (.int .i64 s1), (.slice (some ⟨W.heap.size, 0, none⟩) 1 1), x46, x47, x48, by simp only [Act.put, List.setIfInBounds_toArray, List.set_cons_zero, List.set_cons_succ], ?_⟩
                exact ⟨fun h => hF.out.f0 (by simpa using h), fun h => hF.out.f1 (by simpa using h), fun h => hF.out.f2 (by simpa using h), fun h => hF.out.f3 (by simpa using h), fun h => hF.out.f4 (by simpa using h), fun h => hF.out.f5 (by simpa using h), fun h => hF.out.f6 (by simpa using h), fun _ => rfl, fun h => by have := HN8.out; simp [this] at h, fun h => hF.out.f9 (by simpa using h), fun h => hF.out.f10 (by simpa using h), fun h => hF.out.f11 (by simpa using h), fun i hi h => by have := hF.out.ol i hi (by simpa using h); simp [this], fun _ => by simp, fun h => by have := hF.out.c10 (by simpa using h); simpa using this, fun _ => tgb_alloc (hF.out.kp HNL.out) _, fun _ => (hF.out.r0 HN8.out).alloc _, fun _ _ => heap_alloc_new _ _, fun h => by have := HN8.out; simp [this] at h, fun h => by have := HNL.out; simp [this] at h⟩
              · intro d a W hI hd hdep
                obtain ⟨gb2, gr, cr, x38, x39, x40, x41, x42, x43, x44, x45, x46, x47, x48, rfl, hF⟩ := hI
                have hd4 : d 4 = true := dep_of hdep 4 (by kernel_rfl)
                have hd7 : d 7 = true := dep_of hdep 7 (by kernel_rfl)
                obtain rfl := hF.out.f4 hd4
                obtain rfl := hF.out.f7 hd7
                have HNL : Hid (d 11 = false) := no_later (hF.out.ol 8 (by omega)) hd
                have HD7 : Hid (d 7 = true) := hd7
                have hm := run_append_lies (P := Try.prog) W 25 25 B 3 i1 _ 1 8 Try.underlying25 hi1 hy0 hy1 hy2 rfl (by omega) (.slice va vn vc) vn xs (hF.out.r0 hd) ⟨gb2, 0, none⟩ 1 1 [.int .i64 s1] rfl (World.news_of_block (t := 3) (fr := (0, 0)) (hF.out.b0 hd7 hd)) (by simp [Value.oneCell']) (by omega) (by unfold maxLen; have := HK1.out; omega) (by have := HK1.out; omega) (Nat.le_trans HBW.out (hF.out.kp HNL.out).size) W.heap.size rfl
                have hmm := hm.choose_spec.choose_spec.choose_spec
                generalize hm.choose_spec.choose_spec.choose = W1 at hmm
                generalize hm.choose_spec.choose = cr1 at hmm
                generalize hm.choose = gr1 at hmm
                have hrun := hmm.1
                have HM : Hid (W1.ownsRow B 3 1 (.slice (some ⟨gr1, 0, none⟩) (vn + 1) cr1) (vn + 1) (xs ++ [.int .i64 s1]) ∧ W.grownBy W1 (Value.ownBlock (.slice va vn vc))) := ⟨hmm.2.1, hmm.2.2.1⟩
                clear hmm hm
                clear hdep hd hd4 hd7
                intro K hK
                refine tstep_call_append (sv := (.slice va vn vc)) (xv := (.slice (some ⟨gb2, 0, none⟩) 1 1)) (v := (.slice (some ⟨gr1, 0, none⟩) (vn + 1) cr1)) (W1 := W1) (by rfl) _ _ 25 (by rfl) (by simp only [Act.put, List.setIfInBounds_toArray, List.set_cons_zero, List.set_cons_succ]; rfl) (by simp only [Act.put, List.setIfInBounds_toArray, List.set_cons_zero, List.set_cons_succ]; rfl) (by exact hrun) ?_
                simp only [Act.put, List.setIfInBounds_toArray, List.set_cons_zero, List.set_cons_succ]
                refine hK.out _ _ ⟨gb2, gr1, cr1, x38, x39, x40, x41, (.slice va vn vc), x43, x44, (.slice (some ⟨gb2, 0, none⟩) 1 1), (.slice (some ⟨gr1, 0, none⟩) (vn + 1) cr1), x47, x48, by simp only [Act.put, List.setIfInBounds_toArray, List.set_cons_zero, List.set_cons_succ], ?_⟩
                exact ⟨fun h => hF.out.f0 (by simpa using h), fun h => hF.out.f1 (by simpa using h), fun h => hF.out.f2 (by simpa using h), fun h => hF.out.f3 (by simpa using h), fun h => hF.out.f4 (by simpa using h), fun h => hF.out.f5 (by simpa using h), fun h => hF.out.f6 (by simpa using h), fun h => hF.out.f7 (by simpa using h), fun _ => rfl, fun h => hF.out.f9 (by simpa using h), fun h => hF.out.f10 (by simpa using h), fun h => hF.out.f11 (by simpa using h), fun i hi h => by have := hF.out.ol i hi (by simpa using h); simp [this], fun _ => by simpa using HD7.out, fun h => by have := hF.out.c10 (by simpa using h); simpa using this, fun _ => tgb_then (hF.out.kp HNL.out) HM.out.2, fun h => by simp at h, fun _ h => by simp at h, fun _ _ => HM.out.1, fun h => by have := HNL.out; simp [this] at h⟩
              · intro d a W hI hd hdep
                obtain ⟨gb2, gr, cr, x38, x39, x40, x41, x42, x43, x44, x45, x46, x47, x48, rfl, hF⟩ := hI
                have hd0 : d 0 = true := dep_of hdep 0 (by kernel_rfl)
                obtain rfl := hF.out.f0 hd0
                clear hdep hd hd0
                intro K hK
                simp only [Act.put, List.setIfInBounds_toArray, List.set_cons_zero, List.set_cons_succ]
                go_simp
                refine hK.out _ _ ⟨gb2, gr, cr, (.pointer (some ⟨q, 0, none⟩)), x39, x40, x41, x42, x43, x44, x45, x46, (.pointer (some ⟨q, 0, none⟩)), x48, by simp only [Act.put, List.setIfInBounds_toArray, List.set_cons_zero, List.set_cons_succ], ?_⟩
                exact ⟨fun h => hF.out.f0 (by simpa using h), fun h => hF.out.f1 (by simpa using h), fun h => hF.out.f2 (by simpa using h), fun h => hF.out.f3 (by simpa using h), fun h => hF.out.f4 (by simpa using h), fun h => hF.out.f5 (by simpa using h), fun h => hF.out.f6 (by simpa using h), fun h => hF.out.f7 (by simpa using h), fun h => hF.out.f8 (by simpa using h), fun _ => rfl, fun h => hF.out.f10 (by simpa using h), fun h => hF.out.f11 (by simpa using h), fun i hi h => by have := hF.out.ol i hi (by simpa using h); simp [this], fun h => by have := hF.out.c8 (by simpa using h); simpa using this, fun _ => by simp, fun h => hF.out.kp (by simpa using h), fun h => hF.out.r0 (by simpa using h), fun h h2 => hF.out.b0 (by simpa using h) (by simpa using h2), fun h h2 => hF.out.r1 (by simpa using h) (by simpa using h2), fun h => hF.out.fin (by simpa using h)⟩
              · intro d a W hI hd hdep
                obtain ⟨gb2, gr, cr, x38, x39, x40, x41, x42, x43, x44, x45, x46, x47, x48, rfl, hF⟩ := hI
                have hd9 : d 9 = true := dep_of hdep 9 (by kernel_rfl)
                obtain rfl := hF.out.f9 hd9
                have HD9 : Hid (d 9 = true) := hd9
                clear hdep hd hd9
                intro K hK
                simp only [Act.put, List.setIfInBounds_toArray, List.set_cons_zero, List.set_cons_succ]
                go_simp
                refine hK.out _ _ ⟨gb2, gr, cr, x38, x39, x40, x41, x42, x43, x44, x45, x46, (.pointer (some ⟨q, 0, none⟩)), (.pointer (some ⟨q, 4, none⟩)), by simp only [Act.put, List.setIfInBounds_toArray, List.set_cons_zero, List.set_cons_succ], ?_⟩
                exact ⟨fun h => hF.out.f0 (by simpa using h), fun h => hF.out.f1 (by simpa using h), fun h => hF.out.f2 (by simpa using h), fun h => hF.out.f3 (by simpa using h), fun h => hF.out.f4 (by simpa using h), fun h => hF.out.f5 (by simpa using h), fun h => hF.out.f6 (by simpa using h), fun h => hF.out.f7 (by simpa using h), fun h => hF.out.f8 (by simpa using h), fun h => hF.out.f9 (by simpa using h), fun _ => rfl, fun h => hF.out.f11 (by simpa using h), fun i hi h => by have := hF.out.ol i hi (by simpa using h); simp [this], fun h => by have := hF.out.c8 (by simpa using h); simpa using this, fun _ => by simpa using HD9.out, fun h => hF.out.kp (by simpa using h), fun h => hF.out.r0 (by simpa using h), fun h h2 => hF.out.b0 (by simpa using h) (by simpa using h2), fun h h2 => hF.out.r1 (by simpa using h) (by simpa using h2), fun h => hF.out.fin (by simpa using h)⟩
              · intro d a W hI hd hdep
                obtain ⟨gb2, gr, cr, x38, x39, x40, x41, x42, x43, x44, x45, x46, x47, x48, rfl, hF⟩ := hI
                have hd0 : d 0 = true := dep_of hdep 0 (by kernel_rfl)
                have hd1 : d 1 = true := dep_of hdep 1 (by kernel_rfl)
                have hd2 : d 2 = true := dep_of hdep 2 (by kernel_rfl)
                have hd3 : d 3 = true := dep_of hdep 3 (by kernel_rfl)
                have hd4 : d 4 = true := dep_of hdep 4 (by kernel_rfl)
                have hd5 : d 5 = true := dep_of hdep 5 (by kernel_rfl)
                have hd6 : d 6 = true := dep_of hdep 6 (by kernel_rfl)
                have hd7 : d 7 = true := dep_of hdep 7 (by kernel_rfl)
                have hd8 : d 8 = true := dep_of hdep 8 (by kernel_rfl)
                have hd10 : d 10 = true := dep_of hdep 10 (by kernel_rfl)
                obtain rfl := hF.out.f0 hd0
                obtain rfl := hF.out.f1 hd1
                obtain rfl := hF.out.f2 hd2
                obtain rfl := hF.out.f3 hd3
                obtain rfl := hF.out.f4 hd4
                obtain rfl := hF.out.f5 hd5
                obtain rfl := hF.out.f6 hd6
                obtain rfl := hF.out.f7 hd7
                obtain rfl := hF.out.f8 hd8
                obtain rfl := hF.out.f10 hd10
                have hd9 : d 9 = true := hF.out.c10 hd10
                obtain rfl := hF.out.f9 hd9
                have HD : Hid (∀ i, i < 11 → d i = true) := fun i hi => by
                  have : i = 0 ∨ i = 1 ∨ i = 2 ∨ i = 3 ∨ i = 4 ∨ i = 5 ∨ i = 6 ∨ i = 7 ∨ i = 8 ∨ i = 9 ∨ i = 10 := by omega
                  rcases this with rfl | rfl | rfl | rfl | rfl | rfl | rfl | rfl | rfl | rfl | rfl <;> assumption
                have HKP : Hid (W3.grownBy W (Value.ownBlock (.slice va vn vc))) := hF.out.kp hd
                have HR1 : Hid (W.ownsRow B 3 1 (.slice (some ⟨gr, 0, none⟩) (vn + 1) cr) (vn + 1) (xs ++ [.int .i64 s1])) := hF.out.r1 hd8 hd
                have hblk := (HKP.out.block q HKB.out.1.1 HKB.out.1.2).trans HBX.out
                have ya := tcell_blk hblk 4
                have yb := tfrozen_blk hblk 4
                clear hblk
                simp only [List.getElem?_toArray, List.getElem?_cons_zero, List.getElem?_cons_succ] at ya
                clear hdep hd hd0 hd1 hd2 hd3 hd4 hd5 hd6 hd7 hd8 hd10
                intro K hK
                simp only [Act.put, List.setIfInBounds_toArray, List.set_cons_zero, List.set_cons_succ]
                go_simp
                refine hK.out _ _ ⟨gb2, gr, cr, (.pointer (some ⟨q, 0, none⟩)), (.pointer (some ⟨q, 0, none⟩)), (.pointer (some ⟨q, 0, none⟩)), (.pointer (some ⟨q, 4, none⟩)), (.slice va vn vc), (.pointer (some ⟨sb, 1, none⟩)), (.int .i64 s1), (.slice (some ⟨gb2, 0, none⟩) 1 1), (.slice (some ⟨gr, 0, none⟩) (vn + 1) cr), (.pointer (some ⟨q, 0, none⟩)), (.pointer (some ⟨q, 4, none⟩)), by simp only [Act.put, List.setIfInBounds_toArray, List.set_cons_zero, List.set_cons_succ], ?_⟩
                exact ⟨fun h => hF.out.f0 (by simpa using h), fun h => hF.out.f1 (by simpa using h), fun h => hF.out.f2 (by simpa using h), fun h => hF.out.f3 (by simpa using h), fun h => hF.out.f4 (by simpa using h), fun h => hF.out.f5 (by simpa using h), fun h => hF.out.f6 (by simpa using h), fun h => hF.out.f7 (by simpa using h), fun h => hF.out.f8 (by simpa using h), fun h => hF.out.f9 (by simpa using h), fun h => hF.out.f10 (by simpa using h), fun _ => trivial, fun i hi _ => by have := HD.out i hi; simp [this], fun h => by have := hF.out.c8 (by simpa using h); simpa using this, fun h => by have := hF.out.c10 (by simpa using h); simpa using this, fun h => by simp at h, fun h => by have := HD.out 8 (by omega); simp [this] at h, fun _ h => by have := HD.out 8 (by omega); simp [this] at h, fun _ h => by simp at h, fun _ => ⟨W, HKP.out, HR1.out, rfl⟩⟩
            · intro d a W hI hall
              obtain ⟨gb2, gr, cr, x38, x39, x40, x41, x42, x43, x44, x45, x46, x47, x48, rfl, hF⟩ := hI
              simp only [List.length_cons, List.length_nil] at hall
              obtain rfl := hF.out.f0 (hall 0 (by omega))
              obtain rfl := hF.out.f1 (hall 1 (by omega))
              obtain rfl := hF.out.f2 (hall 2 (by omega))
              obtain rfl := hF.out.f3 (hall 3 (by omega))
              obtain rfl := hF.out.f4 (hall 4 (by omega))
              obtain rfl := hF.out.f5 (hall 5 (by omega))
              obtain rfl := hF.out.f6 (hall 6 (by omega))
              obtain rfl := hF.out.f7 (hall 7 (by omega))
              obtain rfl := hF.out.f8 (hall 8 (by omega))
              obtain rfl := hF.out.f9 (hall 9 (by omega))
              obtain rfl := hF.out.f10 (hall 10 (by omega))
              obtain ⟨V, v1, v2, rfl⟩ := hF.out.fin (hall 11 (by omega))
              have HFIN : Hid (ThP w0 q tt n pv (thr ps (.mk p k kids) (1, s1) dd nn ws) w (V.setCell ⟨q, 4, none⟩ (.slice (some ⟨gr, 0, none⟩) (vn + 1) cr))) := by
                have h2 := HK3.out.grow (V := V) (rv := (.slice (some ⟨gr, 0, none⟩) (vn + 1) cr)) (x := s1) (by rw [HVN.out]; exact v1) (by rw [HVN.out, HXS.out, HBB.out]; exact v2)
                rw [HE4.out]
                exact ⟨⟨_, h2.1⟩, HF3.out.trans h2.2⟩
              clear hF hall v1 v2
              simp only [Act.put, List.setIfInBounds_toArray, List.set_cons_zero, List.set_cons_succ]
              generalize V.setCell ⟨q, 4, none⟩ (.slice (some ⟨gr, 0, none⟩) (vn + 1) cr) = WN at HFIN ⊢
              go_wp2_with fail
              go_ret
              exact ⟨by rw [HE4.out]; rfl, HFIN.out⟩
          · have hb4 : (s0 == 1) = false := by simp; exact h4
            have HE4 : Hid (thr ps (.mk p k kids) (s0, s1) dd nn ws = thrL ps kids (bodyOf ps p) (dd + 1) (nn + 1) ws) := by show _ = _; rw [HE2.out, if_pos rfl, if_neg h4]
            have HMM : Hid (isPr ps p = true ∧ kids.length = (bodyOf ps p).length) := by
              have := HMY.out
              unfold may isOf at this
              rw [if_neg h4] at this
              simp [h4] at this
              exact ⟨this.1.1, this.2.2⟩
            clear h4
            have hle := isPr_le HMM.out.1
            obtain ⟨z, rfl⟩ : ∃ z : Nat, p = (z : Int) := ⟨p.toNat, by omega⟩
            have HPW : Hid (Pds W3 pv ps) := HP.out.below HK3.out.bel
            obtain ⟨go, gc, rfl, -, -⟩ := HP.out
            obtain ⟨b, o, bo, bc, rfl, -, hbl, -, hc1, hsy⟩ := Pds.prod HP.out HMM.out.1
            simp only [Int.toNat_natCast] at hc1
            have hq2 : W3.cell? ⟨q, 2, none⟩ = some (.slice (some ⟨b, o, none⟩) ps.length gc) := by have := HK3.out.cell 2; simpa using this
            obtain ⟨N, HN⟩ : ∃ N, Hid (ps.length = N) := ⟨_, (rfl : ps.length = ps.length)⟩
            rw [HN.out] at hq2
            obtain ⟨body, HBD⟩ : ∃ body, Hid (bodyOf ps (z : Int) = body) := ⟨_, (rfl : bodyOf ps (z : Int) = bodyOf ps (z : Int))⟩
            rw [HBD.out] at hc1 hsy HMM HE4
            have HSY : Hid (Syms w0 (.slice bo body.length bc) body) := hsy
            have hc1 : W3.cell? ⟨b, o + z * 2 + 1, none⟩ = _ := (HK3.out.bel.cell (p := ⟨b, o + z * 2 + 1, none⟩) hbl).trans hc1
            have hz : (z : Int) < (N : Int) := by rw [← HN.out]; exact hle.2
            have hz2 : z < N := by omega
            have hz0 : (0 : Int) ≤ (z : Int) := by omega
            clear hle hsy
            go_upto_region 11 with fail
            go_wp2_with (go_quiet (fail))
            clear e0 e2 e3 e4 hq2 hc1
            have hd4 : Below W3.heap.size W3 (W3.drewN nq) := ⟨rfl, rfl, rfl, Nat.le_refl _, fun _ _ => rfl⟩
            have HK4 : Hid (Wk w0 q tt n (.slice (some ⟨b, o, none⟩) ps.length gc) (nn + 1) wv ws (W3.drewN nq)) := HK3.out.next hd4
            have HG4 : Hid ((W3.drewN nq).heap[w.heap.size]? = some (.cells #[.int .i64 (z : Int), .int .i64 k, .slice ao kids.length cap] 32)) := HG3.out.1
            have HF4 : Hid (Fy Z37 w (W3.drewN nq)) := HF3.out.trans (Fy.of hd4)
            clear hd4 HK3 HG3 HF3 HPW
            generalize W3.drewN nq = W4 at HK4 HG4 HF4 ⊢
            obtain ⟨bl, HBL⟩ : ∃ bl, Hid (body.length = bl) := ⟨_, (rfl : body.length = body.length)⟩
            rw [HBL.out]
            go_loopw [60] (fun y wr => ∃ i : Nat, i ≤ bl ∧ y = .int .i64 (i : Int) ∧ Hid ((thrL ps (kids.take i) body (dd + 1) (nn + 1) ws).1 = 0 ∧ (thrL ps (kids.take i) body (dd + 1) (nn + 1) ws).2.1 ≤ 1000 ∧ (thrL ps (kids.take i) body (dd + 1) (nn + 1) ws).2.2.length ≤ (thrL ps (kids.take i) body (dd + 1) (nn + 1) ws).2.1 ∧ (∃ wv', Wk w0 q tt n (.slice (some ⟨b, o, none⟩) ps.length gc) (thrL ps (kids.take i) body (dd + 1) (nn + 1) ws).2.1 wv' (thrL ps (kids.take i) body (dd + 1) (nn + 1) ws).2.2 wr) ∧ Fy Z37 w wr ∧ wr.heap[w.heap.size]? = some (.cells #[.int .i64 (z : Int), .int .i64 k, .slice ao kids.length cap] 32))) (fun y _ => bl - (intOf y).toNat)
            case atStart =>
              have H0 : thrL ps (kids.take 0) body (dd + 1) (nn + 1) ws = (0, nn + 1, ws) := by rw [List.take_zero, thrL]
              refine ⟨0, by omega, rfl, ?_⟩
              rw [H0]
              exact ⟨rfl, HN1.out.1, by show ws.length ≤ nn + 1; omega, ⟨_, HK4.out⟩, HF4.out, HG4.out⟩
            case round =>
              obtain ⟨i, hi, rfl, HI⟩ := hrel
              clear HK4 HF4 HG4
              by_cases hlt : i < bl
              · have hib : i < body.length := by rw [HBL.out]; exact hlt
                have hik : i < kids.length := by rw [HMM.out.2]; exact hib
                obtain ⟨b2, o2, p', k', a', n', c', rfl, KD⟩ := HX.out.kid i hik
                obtain ⟨bo2, bc2, hse, -, hsc⟩ := HSY.out
                simp only [Value.slice.injEq] at hse
                obtain ⟨rfl, -, rfl⟩ := hse
                obtain ⟨b3, o3, rfl, hb3, hsc⟩ := hsc.resolve_left (by intro e; subst e; simp at hib)
                obtain ⟨g0, g1⟩ := hsc i hib
                obtain ⟨n1, HNN⟩ : ∃ n1, Hid ((thrL ps (kids.take i) body (dd + 1) (nn + 1) ws).2.1 = n1) := ⟨_, (rfl : (thrL ps (kids.take i) body (dd + 1) (nn + 1) ws).2.1 = (thrL ps (kids.take i) body (dd + 1) (nn + 1) ws).2.1)⟩
                obtain ⟨ws1, HW1⟩ : ∃ ws1, Hid ((thrL ps (kids.take i) body (dd + 1) (nn + 1) ws).2.2 = ws1) := ⟨_, (rfl : (thrL ps (kids.take i) body (dd + 1) (nn + 1) ws).2.2 = (thrL ps (kids.take i) body (dd + 1) (nn + 1) ws).2.2)⟩
                obtain ⟨x0, x1, HXX⟩ : ∃ x0 x1, Hid (body[i] = (x0, x1)) := ⟨_, _, (rfl : body[i] = (body[i].1, body[i].2))⟩
                rw [HXX.out] at g0 g1
                obtain ⟨r, HRR⟩ : ∃ r, Hid (thr ps kids[i] (x0, x1) (dd + 1) n1 ws1 = r) := ⟨_, (rfl : thr ps kids[i] (x0, x1) (dd + 1) n1 ws1 = thr ps kids[i] (x0, x1) (dd + 1) n1 ws1)⟩
                have HT : Hid (thrL ps (kids.take (i + 1)) body (dd + 1) (nn + 1) ws = r) := by
                  show _ = _
                  have hl : (kids.take i).length = i := by rw [List.length_take]; omega
                  have hg : body.getD i (0, 0) = (x0, x1) := by rw [List.getD_eq_getElem?_getD, List.getElem?_eq_getElem hib]; exact HXX.out
                  rw [List.take_succ_eq_append_getElem hik, thrL_snoc, if_pos HI.out.1, hl, hg, HNN.out, HW1.out, HRR.out]
                have HI2 := HI.out
                rw [HNN.out, HW1.out] at HI2
                obtain ⟨-, hi1, hi2, ⟨wv1, hi3⟩, hi4, hi5⟩ := HI2
                have hbw := hi3.bel
                have HWA : Hid (Below wr.heap.size wr (wr.alloc (Obj.cells #[.int .i64 x0, .int .i64 x1] 47))) := below_alloc _ _
                have HNA : Hid ((wr.alloc (Obj.cells #[.int .i64 x0, .int .i64 x1] 47)).heap[wr.heap.size]? = some (.cells #[.int .i64 x0, .int .i64 x1] 47)) := heap_alloc_new _ _
                have HCL : Hid (∀ X : Kp (Sb (wr.alloc (Obj.cells #[.int .i64 x0, .int .i64 x1] 47))), Calls Try.prog 57 #[.pointer (some ⟨q, 0, none⟩), (.agg #[.int .i64 p', .int .i64 k', .slice a' n' c']), .agg #[.int .i64 x0, .int .i64 x1], .int .i64 ((dd : Int) + 1)] X.W fun e w' => e = .returned (.int .i64 (r.1 : Int)) ∧ ThP w0 q tt n (.slice (some ⟨b, o, none⟩) ps.length gc) r X.W w') := fun X => by
                  have := HIH.out kids[i] (HKS.out _ (List.getElem_mem hik)) (.agg #[.int .i64 p', .int .i64 k', .slice a' n' c']) x0 x1 (dd + 1) n1 wv1 ws1 X.W KD.tx (by have := HN1.out; omega) hi1 hi2 ((hi3.next HWA.out).next X.h)
                  rw [HRR.out] at this
                  rw [show (dd : Int) + 1 = ((dd + 1 : Nat) : Int) by omega]
                  exact this
                replace g0 : wr.cell? ⟨b3, o3 + i * 2, none⟩ = _ := (hbw.cell (p := ⟨b3, o3 + i * 2, none⟩) hb3).trans g0
                replace g1 : wr.cell? ⟨b3, o3 + i * 2 + 1, none⟩ = _ := (hbw.cell (p := ⟨b3, o3 + i * 2 + 1, none⟩) hb3).trans g1
                have HKC : Hid (∀ X : Kp (Sb (wr.alloc (Obj.cells #[.int .i64 x0, .int .i64 x1] 47))), Below w0.heap.size w0 X.W ∧ X.W.heap[w.heap.size]? = some (.cells #[.int .i64 (z : Int), .int .i64 k, .slice (some ⟨b2, o2, none⟩) kids.length cap] 32) ∧ X.W.heap[wr.heap.size]? = some (.cells #[.int .i64 x0, .int .i64 x1] 47) ∧ Fy Z37 w X.W) := fun X =>
                  ⟨(hbw.trans (HWA.out.mono hbw.size)).trans (Below.mono X.h (Nat.le_trans hbw.size HWA.out.size)), tbox_next (tbox_next hi5 HWA.out) X.h, tbox_next HNA.out X.h, (hi4.trans (Fy.of HWA.out)).trans (Fy.of X.h)⟩
                have hk1 : (i : Int) < (bl : Int) := by omega
                have hk2 : (i : Int) < (kids.length : Int) := by omega
                have hk0 : (0 : Int) ≤ (i : Int) := by omega
                have HER : Hid (r.1 = 0 → r.2.1 ≤ 1000 ∧ r.2.2.length ≤ r.2.1) := fun e => by
                  obtain ⟨r0, r1, r2⟩ := r
                  simp only at e; subst e
                  exact thr_bound hi2 HRR.out
                clear hsc hbw hi1 hi2 hi3 hi4 hi5 HI
                go_upto_region 14 with fail
                clear g0 g1
                obtain ⟨wa, HWW⟩ : ∃ wa, Hid (wr.alloc (Obj.cells #[.int .i64 x0, .int .i64 x1] 47) = wa) := ⟨_, (rfl : wr.alloc (Obj.cells #[.int .i64 x0, .int .i64 x1] 47) = wr.alloc (Obj.cells #[.int .i64 x0, .int .i64 x1] 47))⟩
                rw [HWW.out] at HCL HKC ⊢
                clear HWA HNA
                have hne : Nonempty (Kp (Sb wa)) := ⟨⟨_, Sb.drew wa⟩⟩
                have p2 : ∀ X : Kp (Sb wa), X.W.cell? ⟨w.heap.size, 2, none⟩ = some (.slice (some ⟨b2, o2, none⟩) kids.length cap) := fun X => tcell_blk (HKC.out X).2.1 2
                have p3 : ∀ X : Kp (Sb wa), X.W.cell? ⟨wr.heap.size, 0, none⟩ = some (.int .i64 x0) := fun X => tcell_blk (HKC.out X).2.2.1 0
                have p4 : ∀ X : Kp (Sb wa), X.W.cell? ⟨wr.heap.size, 1, none⟩ = some (.int .i64 x1) := fun X => tcell_blk (HKC.out X).2.2.1 1
                have q0 : ∀ X : Kp (Sb wa), X.W.cell? ⟨b2, o2 + i * 3, none⟩ = some (.int .i64 p') := fun X => ((HKC.out X).1.cell (p := ⟨b2, o2 + i * 3, none⟩) KD.lt).trans KD.c0
                have q1 : ∀ X : Kp (Sb wa), X.W.cell? ⟨b2, o2 + i * 3 + 1, none⟩ = some (.int .i64 k') := fun X => ((HKC.out X).1.cell (p := ⟨b2, o2 + i * 3 + 1, none⟩) KD.lt).trans KD.c1
                have q2 : ∀ X : Kp (Sb wa), X.W.cell? ⟨b2, o2 + i * 3 + 2, none⟩ = some (.slice a' n' c') := fun X => ((HKC.out X).1.cell (p := ⟨b2, o2 + i * 3 + 2, none⟩) KD.lt).trans KD.c2
                clear KD
                refine wp_region_chain (S := Sb wa) [_, _, _, _, _, _, _, _, _] [_, _] mixed (by kernel_rfl) (Sb.drew wa) ?_
                simp only [List.cons_append, List.nil_append]
                repeat (go_big_quiet_step (fail))
                refine wpQuiet_nil ?_
                intro X
                by_cases he : r.1 = 0
                · go_wp2_with fail
                  refine (HCL.out X).mono ?_
                  rintro _ W5 ⟨rfl, hth⟩
                  rw [he]
                  have HR5 : Hid (ThP w0 q tt n (.slice (some ⟨b, o, none⟩) ps.length gc) r X.W W5) := hth
                  clear hth p2 p3 p4 q0 q1 q2 hne
                  go_wp2_with fail
                  go_roundw
                  case rel =>
                    refine ⟨i + 1, by omega, by go_num, ?_⟩
                    refine ⟨by rw [HT.out]; exact he, by rw [HT.out]; exact (HER.out he).1, by rw [HT.out]; exact (HER.out he).2, by rw [HT.out]; exact HR5.out.1, (HKC.out X).2.2.2.trans HR5.out.2, HR5.out.2.2 _ _ _ _ (HKC.out X).2.1 (by unfold Z37; omega)⟩
                  case measure => simp [intOf]; omega
                · have hz1 : ((r.1 : Int) != 0) = true := by simp; omega
                  have HFF : Hid (thrL ps kids body (dd + 1) (nn + 1) ws = r) := by
                    show _ = _
                    have := thrL_stop ps (kids.take (i + 1)) (kids.drop (i + 1)) (dd + 1) body (nn + 1) ws (by rw [HT.out]; exact he)
                    rw [List.take_append_drop, HT.out] at this
                    exact this
                  go_wp2_with fail
                  refine (HCL.out X).mono ?_
                  rintro _ W5 ⟨rfl, hth⟩
                  have HR5 : Hid (ThP w0 q tt n (.slice (some ⟨b, o, none⟩) ps.length gc) r X.W W5) := hth
                  clear hth p2 p3 p4 q0 q1 q2 hne
                  go_wp2_with fail
                  go_ret
                  rw [HE4.out, HFF.out]
                  exact ⟨rfl, HR5.out.1, (HKC.out X).2.2.2.trans HR5.out.2⟩
              · have hk1 : ¬ (i : Int) < (bl : Int) := by omega
                go_wp2_with fail
                go_ret
                have h4 := HI.out
                have e : kids.take i = kids := List.take_of_length_le (by rw [HMM.out.2, HBL.out]; omega)
                rw [e] at h4
                rw [HE4.out]
                exact ⟨by rw [h4.1]; rfl, h4.2.2.2.1, h4.2.2.2.2.1⟩
end Go.Proofs.Ytpfehghicaaghaa
