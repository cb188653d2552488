/-
  The contract of (*way).act: one act.
-/
import Derived.Test.YtpfehghicaaghaaClOpen
import Derived.Test.YtpfehghicaaghaaCtA
namespace Go.Proofs.Ytpfehghicaaghaa
open Go.RowKit
open Cg

/-- What is ahead behind an event, and how many tokens were had. -/
def nxT (ps : List Pd) (td : List Td) (x : Ev) : List Td := if x.1 = 1 then (bodyOf ps x.2).map symT ++ endT x.2 :: td.tail else td.tail
def nxS (sn : Int) (x : Ev) : Int := if x.1 = 2 then sn + 1 else sn
/-- What one act leaves. -/
def ActP (w0 : World) (g : Nat) (t : Int) (n : Nat) (pv rv : Value) (col : Nat) (sn : Int) (ps : List Pd) (rw : Int → Int) (td : List Td) (ev : List Ev) (e : Ending) (w' : World) : Prop :=
  ∃ er, e = .returned (.int .i64 er) ∧ Below w0.heap.size w0 w' ∧ ((nx1 rw (col : Int) sn td = none ∧ er = 13) ∨ ∃ x, nx1 rw (col : Int) sn td = some x ∧ ((er = 14 ∧ (60 < (nxT ps td x).length ∨ 2000 < ev.length + 1)) ∨
    (er = 0 ∧ ¬ (60 < (nxT ps td x).length ∨ 2000 < ev.length + 1) ∧ ∃ ta tn tc ea en ec, Wb w0 g t (n : Int) pv rv (col : Int) (nxS sn x) ta tn tc ea en ec (nxT ps td x) (ev ++ [x]) w')))
theorem nx1_some {rw : Int → Int} {col sn : Int} {t : Int} {n : Nat} {ps : List Pd} {td : List Td} {a b : Int} (h : nx1 rw col sn td = some (a, b)) (hr : ∀ x ∈ td, okT t (n : Int) ps x = true) (hrw : ∀ m : Nat, m < n → rw (m : Int) ≠ -1 → ∃ z : Nat, rw (m : Int) = (z : Int) ∧ z < ps.length) :
    ∃ y r, td = y :: r ∧ (a = 3 ∨ a = 2 ∨ (a = 1 ∧ ∃ z : Nat, b = (z : Int) ∧ z < ps.length)) := by
  match td with
  | [] => simp [nx1] at h
  | (true, p, s) :: r =>
    simp [nx1] at h
    exact ⟨_, _, rfl, Or.inl h.1.symm⟩
  | (false, p, s) :: r =>
    refine ⟨_, _, rfl, ?_⟩
    have hx := hr (false, p, s) (by simp)
    replace h : (if s.1 = 1 then (if s.2 = col then some (2, sn) else none) else if rw s.2 = -1 then none else some (1, rw s.2)) = some (a, b) := h
    by_cases h4 : s.1 = 1
    · rw [if_pos h4] at h
      split at h
      · simp at h; exact Or.inr (Or.inl h.1.symm)
      · cases h
    · rw [if_neg h4] at h
      unfold okT okSy okN at hx
      simp [h4] at hx
      obtain ⟨m, hm⟩ : ∃ m : Nat, s.2 = (m : Int) := ⟨s.2.toNat, by omega⟩
      split at h
      · cases h
      · rename_i h5
        rw [hm] at h5
        obtain ⟨z, hz, hz2⟩ := hrw m (by omega) h5
        simp at h
        exact Or.inr (Or.inr ⟨h.1.symm, z, by rw [← h.2, hm, hz], hz2⟩)
structure RAc (wr : World) (B g vn vc eb : Nat) (va : Option Addr) (s0 s1 : Int) (xs : List Value) (gb2 : Nat) (gr : Nat) (cr : Nat) (d : Nat → Bool) (x12 x13 x14 x15 x16 x17 x18 x19 x20 x21 : Value) (W : World) : Prop where
  f0 : d 0 = true → x12 = (.pointer (some ⟨g, 0, none⟩))
  f1 : d 1 = true → x13 = (.pointer (some ⟨g, 0, none⟩))
  f2 : d 2 = true → x14 = (.pointer (some ⟨g, 0, none⟩))
  f3 : d 3 = true → x15 = (.pointer (some ⟨g, 7, none⟩))
  f4 : d 4 = true → x16 = (.slice va vn vc)
  f5 : d 5 = true → x17 = (.agg #[.int .i64 s0, .int .i64 s1])
  f6 : d 6 = true → x18 = (.slice (some ⟨gb2, 0, none⟩) 1 1)
  f7 : d 7 = true → x19 = (.slice (some ⟨gr, 0, none⟩) (vn + 1) cr)
  f8 : d 8 = true → x20 = (.pointer (some ⟨g, 0, none⟩))
  f9 : d 9 = true → x21 = (.pointer (some ⟨g, 7, none⟩))
  f10 : d 10 = true → True
  ol : ∀ i, i < 10 → d 10 = true → d i = true
  cA : d 7 = true → d 6 = true
  cF : d 9 = true → d 8 = true
  kp : d 10 = false → wr.grownBy W (Value.ownBlock (.slice va vn vc))
  r0 : d 7 = false → W.ownsRow B 66 2 (.slice va vn vc) vn xs
  b0 : d 6 = true → d 7 = false → W.heap[gb2]? = some (.cells #[.int .i64 s0, .int .i64 s1] 66)
  r1 : d 7 = true → d 10 = false → W.ownsRow B 66 2 (.slice (some ⟨gr, 0, none⟩) (vn + 1) cr) (vn + 1) (xs ++ [.int .i64 s0, .int .i64 s1])
  fin : d 10 = true → ∃ V, wr.grownBy V (Value.ownBlock (.slice va vn vc)) ∧ V.ownsRow B 66 2 (.slice (some ⟨gr, 0, none⟩) (vn + 1) cr) (vn + 1) (xs ++ [.int .i64 s0, .int .i64 s1]) ∧ W = V.setCell ⟨g, 7, none⟩ (.slice (some ⟨gr, 0, none⟩) (vn + 1) cr)
structure RPo (wr : World) (g k0 rl tc : Nat) (d : Nat → Bool) (x22 x23 x24 x25 x26 x27 x28 x29 x30 x31 x32 x33 x34 x35 : Value) (W : World) : Prop where
  f0 : d 0 = true → x22 = (.pointer (some ⟨g, 0, none⟩))
  f1 : d 1 = true → x23 = (.pointer (some ⟨g, 0, none⟩))
  f2 : d 2 = true → x24 = (.pointer (some ⟨g, 0, none⟩))
  f3 : d 3 = true → x25 = (.pointer (some ⟨g, 5, none⟩))
  f4 : d 4 = true → x26 = (.slice (some ⟨k0, 0, none⟩) (rl + 1) tc)
  f5 : d 5 = true → x27 = (.pointer (some ⟨g, 0, none⟩))
  f6 : d 6 = true → x28 = (.pointer (some ⟨g, 0, none⟩))
  f7 : d 7 = true → x29 = (.pointer (some ⟨g, 5, none⟩))
  f8 : d 8 = true → x30 = (.slice (some ⟨k0, 0, none⟩) (rl + 1) tc)
  f9 : d 9 = true → x31 = (.int .i64 ((rl : Int) + 1))
  f10 : d 10 = true → x32 = (.int .i64 (rl : Int))
  f11 : d 11 = true → x33 = (.slice (some ⟨k0, 0, none⟩) rl tc)
  f12 : d 12 = true → x34 = (.pointer (some ⟨g, 0, none⟩))
  f13 : d 13 = true → x35 = (.pointer (some ⟨g, 5, none⟩))
  f14 : d 14 = true → True
  ol : ∀ i, i < 14 → d 14 = true → d i = true
  cF : d 13 = true → d 12 = true
  sm : d 14 = false → Sm wr W
  fin : d 14 = true → ∃ V, Sm wr V ∧ W = V.setCell ⟨g, 5, none⟩ (.slice (some ⟨k0, 0, none⟩) rl tc)

set_option maxHeartbeats 6400000 in
set_option maxRecDepth 20000 in
theorem act_any (w0 : World) (g : Nat) (t : Int) (n : Nat) (pv : Value) (ps : List Pd) (rv : Value) (rows : List (List Int)) (col : Nat) (sn : Int) (ta : Option Addr) (tn tc : Nat) (ea : Option Addr) (en ec : Nat) (td : List Td) (ev : List Ev) (w : World) (h : Wb w0 g t (n : Int) pv rv (col : Int) sn ta tn tc ea en ec td ev w)
    (hp : Pds w0 pv ps) (hbl : ∀ z (hz : z < ps.length), (ps[z]'hz).2.length ≤ 8) (hr : Rws w0 rv rows) (hrl : rows.length = n) (hrw : ∀ i (hi : i < rows.length), col < rows[i].length) (hro : ∀ m : Nat, m < n → rwF rows col (m : Int) ≠ -1 → ∃ z : Nat, rwF rows col (m : Int) = (z : Int) ∧ z < ps.length)
    (htd : ∀ x ∈ td, okT t (n : Int) ps x = true) (hlen : td.length ≤ 60) (hev : ev.length ≤ 2000) (hsn : 0 ≤ sn ∧ sn ≤ 1099511630000) :
    Calls Try.prog 78 #[.pointer (some ⟨g, 0, none⟩)] w fun e w' => ActP w0 g t n pv rv col sn ps (rwF rows col) td ev e w' := by
  have hcall := next_any w0 g t n pv ps rv rows col sn ta tn tc ea en ec td ev w h hr hrl hrw htd hlen
  have HW : Hid _ := h
  have HPS : Hid (Pds w0 pv ps) := hp
  have HBL : Hid (∀ z (hz : z < ps.length), (ps[z]'hz).2.length ≤ 8) := hbl
  have HRO : Hid (∀ m : Nat, m < n → rwF rows col (m : Int) ≠ -1 → ∃ z : Nat, rwF rows col (m : Int) = (z : Int) ∧ z < ps.length) := hro
  have HTD : Hid (∀ x ∈ td, okT t (n : Int) ps x = true) := htd
  have HLN : Hid (td.length ≤ 60 ∧ ev.length ≤ 2000) := ⟨hlen, hev⟩
  have HSN : Hid (0 ≤ sn ∧ sn ≤ 1099511630000) := hsn
  clear h hp hbl hr hrl hrw hro htd hlen hev hsn
  go_enter Try.func78, Try.ntmps78
  go_wp2_with fail
  refine hcall.mono ?_
  rintro _ w2 ⟨⟨s0, s1, ok, rfl, hnx⟩, hb2⟩
  have HW2 : Hid _ := HW.out.next hb2
  clear hcall hb2 HW
  have HEB : Hid _ := heap_alloc_new w2 (Obj.cells #[.int .i64 s0, .int .i64 s1] 66)
  have HW3 : Hid _ := HW2.out.next (below_alloc w2 (Obj.cells #[.int .i64 s0, .int .i64 s1] 66))
  obtain ⟨eb, HE⟩ : ∃ eb, Hid (w2.heap.size = eb) := ⟨_, (rfl : w2.heap.size = _)⟩
  have HNG : Hid (eb ≠ g) := fun e => by have := heap_lt3 HW2.out.blk; have := HE.out; omega
  have HNE : Hid (some eb ≠ Value.ownBlock (.slice ea en ec)) := fun e => by
    obtain ⟨cur, hc⟩ := own_blk HW2.out.eo e.symm
    have := heap_lt3 hc; have := HE.out; omega
  cases ok with
  | false =>
    have HX : Hid (nx1 (rwF rows col) (col : Int) sn td = none) := hnx
    clear hnx
    go_wp2_with fail
    go_ret
    exact ⟨13, rfl, HW3.out.bel, Or.inl ⟨HX.out, rfl⟩⟩
  | true =>
    have HX : Hid (nx1 (rwF rows col) (col : Int) sn td = some (s0, s1)) := hnx
    clear hnx
    obtain ⟨y, r, rfl, hk⟩ := nx1_some HX.out HTD.out HRO.out
    have HRL : Hid (r.length + 1 ≤ 60) := HLN.out.1
    have HKK : Hid _ := hk
    clear hk
    go_upto_region 4 with fail
    generalize w2.alloc (Obj.cells #[.int .i64 s0, .int .i64 s1] 66) = w3 at HEB HW3 ⊢
    rw [HE.out] at HEB ⊢
    clear HW2 HTD HRO
    obtain ⟨-, hvn⟩ := HW3.out.lens
    obtain ⟨vn, HVN⟩ : ∃ vn, Hid (ev.length = vn) := ⟨_, (rfl : ev.length = _)⟩
    have hen : vn = en := (hvn.trans HVN.out).symm
    subst hen
    clear hvn
    obtain ⟨xs, HXS⟩ : ∃ xs, Hid (ecs ev = xs) := ⟨_, (rfl : ecs ev = _)⟩
    obtain ⟨B, HBE⟩ : ∃ B, Hid (w0.heap.size = B) := ⟨_, (rfl : w0.heap.size = _)⟩
    have HLQ : Hid (g < w3.heap.size ∧ some g ≠ Value.ownBlock (.slice ea vn ec)) := ⟨heap_lt3 HW3.out.blk, HW3.out.neE⟩
    have HLB : Hid (eb < w3.heap.size ∧ some eb ≠ Value.ownBlock (.slice ea vn ec)) := ⟨heap_lt3 HEB.out, HNE.out⟩
    have q7 := tcell_blk HW3.out.blk 7
    simp only [List.getElem?_toArray, List.getElem?_cons_zero, List.getElem?_cons_succ] at q7
    have HC7 : Hid (w3.cell? ⟨g, 7, none⟩ = some (.slice ea vn ec)) := q7
    have c0 := tcell_blk HEB.out 0
    have c1 := tcell_blk HEB.out 1
    simp only [List.getElem?_toArray, List.getElem?_cons_zero, List.getElem?_cons_succ] at c0 c1
    have HCS : Hid (w3.cell? ⟨eb, 0, none⟩ = some (.int .i64 s0) ∧ w3.cell? ⟨eb, 1, none⟩ = some (.int .i64 s1)) := ⟨c0, c1⟩
    have HBQ : Hid _ := HW3.out.blk
    have HOWN : Hid _ := HW3.out.eo
    rw [HXS.out, HBE.out, HVN.out] at HOWN
    have HK1 : Hid (vn + 1 ≤ 100000) := by show _ ≤ _; have := HLN.out.2; have := HVN.out; omega
    have HBW : Hid (B ≤ w3.heap.size) := by show _ ≤ _; rw [← HBE.out]; exact HW3.out.bel.size
    obtain ⟨i1, hi1, hy0, hy1, hy2⟩ := info_parts info66
    clear q7 c0 c1
    refine wp_region_free mixed (fun a0 d a W => ∃ (gb2 : Nat) (gr : Nat) (cr : Nat) (x12 x13 x14 x15 x16 x17 x18 x19 x20 x21 : Value), a = ((((((((((a0.put (some 12) x12).put (some 13) x13).put (some 14) x14).put (some 15) x15).put (some 16) x16).put (some 17) x17).put (some 18) x18).put (some 19) x19).put (some 20) x20).put (some 21) x21) ∧ Hid (RAc w3 B g vn ec eb ea s0 s1 xs gb2 gr cr d x12 x13 x14 x15 x16 x17 x18 x19 x20 x21 W)) (by kernel_rfl) ⟨0, 0, 0, undef, undef, undef, undef, undef, undef, undef, undef, undef, undef, by first | (simp only [Act.put, List.setIfInBounds_toArray, List.set_cons_zero, List.set_cons_succ]; done) | (simp only [Act.put, List.setIfInBounds_toArray, List.set_cons_zero, List.set_cons_succ]; rfl), ?_⟩ ?_ ?_
    · exact ⟨fun h => no_way h, fun h => no_way h, fun h => no_way h, fun h => no_way h, fun h => no_way h, fun h => no_way h, fun h => no_way h, fun h => no_way h, fun h => no_way h, fun h => no_way h, fun _ => trivial, fun _ _ h => no_way h, fun h => no_way h, fun h => no_way h, fun _ => tgb_drew (World.grownBy.refl _ _), fun _ => HOWN.out, fun h => no_way h, fun h => no_way h, fun h => no_way h⟩
    · simp only [StepAll, and_true]
      refine ⟨?_, ?_, ?_, ?_, ?_, ?_, ?_, ?_, ?_, ?_, ?_⟩
      · intro d a W hI hd hdep
        obtain ⟨gb2, gr, cr, x12, x13, x14, x15, x16, x17, x18, x19, x20, x21, rfl, hF⟩ := hI
        clear hdep hd
        intro K hK
        simp only [Act.put, List.setIfInBounds_toArray, List.set_cons_zero, List.set_cons_succ]
        go_simp
        refine hK.out _ _ ⟨gb2, gr, cr, (.pointer (some ⟨g, 0, none⟩)), x13, x14, x15, x16, x17, x18, x19, x20, x21, by first | (simp only [Act.put, List.setIfInBounds_toArray, List.set_cons_zero, List.set_cons_succ]; done) | (simp only [Act.put, List.setIfInBounds_toArray, List.set_cons_zero, List.set_cons_succ]; rfl), ?_⟩
        exact ⟨fun _ => rfl, fun h => hF.out.f1 (by simpa using h), fun h => hF.out.f2 (by simpa using h), fun h => hF.out.f3 (by simpa using h), fun h => hF.out.f4 (by simpa using h), fun h => hF.out.f5 (by simpa using h), fun h => hF.out.f6 (by simpa using h), fun h => hF.out.f7 (by simpa using h), fun h => hF.out.f8 (by simpa using h), fun h => hF.out.f9 (by simpa using h), fun h => hF.out.f10 (by simpa using h), fun i hi h => by have := hF.out.ol i hi (by simpa using h); simp [this], fun h => by have := hF.out.cA (by simpa using h); simpa using this, fun h => by have := hF.out.cF (by simpa using h); simpa using this, fun h => hF.out.kp (by simpa using h), fun h => hF.out.r0 (by simpa using h), fun h h2 => hF.out.b0 (by simpa using h) (by simpa using h2), fun h h2 => hF.out.r1 (by simpa using h) (by simpa using h2), fun h => hF.out.fin (by simpa using h)⟩
      · intro d a W hI hd hdep
        obtain ⟨gb2, gr, cr, x12, x13, x14, x15, x16, x17, x18, x19, x20, x21, rfl, hF⟩ := hI
        clear hdep hd
        intro K hK
        simp only [Act.put, List.setIfInBounds_toArray, List.set_cons_zero, List.set_cons_succ]
        go_simp
        refine hK.out _ _ ⟨gb2, gr, cr, x12, (.pointer (some ⟨g, 0, none⟩)), x14, x15, x16, x17, x18, x19, x20, x21, by first | (simp only [Act.put, List.setIfInBounds_toArray, List.set_cons_zero, List.set_cons_succ]; done) | (simp only [Act.put, List.setIfInBounds_toArray, List.set_cons_zero, List.set_cons_succ]; rfl), ?_⟩
        exact ⟨fun h => hF.out.f0 (by simpa using h), fun _ => rfl, fun h => hF.out.f2 (by simpa using h), fun h => hF.out.f3 (by simpa using h), fun h => hF.out.f4 (by simpa using h), fun h => hF.out.f5 (by simpa using h), fun h => hF.out.f6 (by simpa using h), fun h => hF.out.f7 (by simpa using h), fun h => hF.out.f8 (by simpa using h), fun h => hF.out.f9 (by simpa using h), fun h => hF.out.f10 (by simpa using h), fun i hi h => by have := hF.out.ol i hi (by simpa using h); simp [this], fun h => by have := hF.out.cA (by simpa using h); simpa using this, fun h => by have := hF.out.cF (by simpa using h); simpa using this, fun h => hF.out.kp (by simpa using h), fun h => hF.out.r0 (by simpa using h), fun h h2 => hF.out.b0 (by simpa using h) (by simpa using h2), fun h h2 => hF.out.r1 (by simpa using h) (by simpa using h2), fun h => hF.out.fin (by simpa using h)⟩
      · intro d a W hI hd hdep
        obtain ⟨gb2, gr, cr, x12, x13, x14, x15, x16, x17, x18, x19, x20, x21, rfl, hF⟩ := hI
        have hd1 : d 1 = true := dep_of hdep 1 (by kernel_rfl)
        obtain rfl := hF.out.f1 hd1
        clear hdep hd hd1
        intro K hK
        simp only [Act.put, List.setIfInBounds_toArray, List.set_cons_zero, List.set_cons_succ]
        go_simp
        refine hK.out _ _ ⟨gb2, gr, cr, x12, (.pointer (some ⟨g, 0, none⟩)), (.pointer (some ⟨g, 0, none⟩)), x15, x16, x17, x18, x19, x20, x21, by first | (simp only [Act.put, List.setIfInBounds_toArray, List.set_cons_zero, List.set_cons_succ]; done) | (simp only [Act.put, List.setIfInBounds_toArray, List.set_cons_zero, List.set_cons_succ]; rfl), ?_⟩
        exact ⟨fun h => hF.out.f0 (by simpa using h), fun h => hF.out.f1 (by simpa using h), fun _ => rfl, fun h => hF.out.f3 (by simpa using h), fun h => hF.out.f4 (by simpa using h), fun h => hF.out.f5 (by simpa using h), fun h => hF.out.f6 (by simpa using h), fun h => hF.out.f7 (by simpa using h), fun h => hF.out.f8 (by simpa using h), fun h => hF.out.f9 (by simpa using h), fun h => hF.out.f10 (by simpa using h), fun i hi h => by have := hF.out.ol i hi (by simpa using h); simp [this], fun h => by have := hF.out.cA (by simpa using h); simpa using this, fun h => by have := hF.out.cF (by simpa using h); simpa using this, fun h => hF.out.kp (by simpa using h), fun h => hF.out.r0 (by simpa using h), fun h h2 => hF.out.b0 (by simpa using h) (by simpa using h2), fun h h2 => hF.out.r1 (by simpa using h) (by simpa using h2), fun h => hF.out.fin (by simpa using h)⟩
      · intro d a W hI hd hdep
        obtain ⟨gb2, gr, cr, x12, x13, x14, x15, x16, x17, x18, x19, x20, x21, rfl, hF⟩ := hI
        have hd2 : d 2 = true := dep_of hdep 2 (by kernel_rfl)
        obtain rfl := hF.out.f2 hd2
        clear hdep hd hd2
        intro K hK
        simp only [Act.put, List.setIfInBounds_toArray, List.set_cons_zero, List.set_cons_succ]
        go_simp
        refine hK.out _ _ ⟨gb2, gr, cr, x12, x13, (.pointer (some ⟨g, 0, none⟩)), (.pointer (some ⟨g, 7, none⟩)), x16, x17, x18, x19, x20, x21, by first | (simp only [Act.put, List.setIfInBounds_toArray, List.set_cons_zero, List.set_cons_succ]; done) | (simp only [Act.put, List.setIfInBounds_toArray, List.set_cons_zero, List.set_cons_succ]; rfl), ?_⟩
        exact ⟨fun h => hF.out.f0 (by simpa using h), fun h => hF.out.f1 (by simpa using h), fun h => hF.out.f2 (by simpa using h), fun _ => rfl, fun h => hF.out.f4 (by simpa using h), fun h => hF.out.f5 (by simpa using h), fun h => hF.out.f6 (by simpa using h), fun h => hF.out.f7 (by simpa using h), fun h => hF.out.f8 (by simpa using h), fun h => hF.out.f9 (by simpa using h), fun h => hF.out.f10 (by simpa using h), fun i hi h => by have := hF.out.ol i hi (by simpa using h); simp [this], fun h => by have := hF.out.cA (by simpa using h); simpa using this, fun h => by have := hF.out.cF (by simpa using h); simpa using this, fun h => hF.out.kp (by simpa using h), fun h => hF.out.r0 (by simpa using h), fun h h2 => hF.out.b0 (by simpa using h) (by simpa using h2), fun h h2 => hF.out.r1 (by simpa using h) (by simpa using h2), fun h => hF.out.fin (by simpa using h)⟩
      · intro d a W hI hd hdep
        obtain ⟨gb2, gr, cr, x12, x13, x14, x15, x16, x17, x18, x19, x20, x21, rfl, hF⟩ := hI
        have hd3 : d 3 = true := dep_of hdep 3 (by kernel_rfl)
        obtain rfl := hF.out.f3 hd3
        have HNL : Hid (d 10 = false) := no_later (hF.out.ol 4 (by omega)) hd
        have ya : W.cell? ⟨g, 7, none⟩ = some (.slice ea vn ec) := (tgb_old (hF.out.kp HNL.out) (p := ⟨g, 7, none⟩) HLQ.out.1 HLQ.out.2).trans HC7.out
        clear hdep hd hd3
        intro K hK
        simp only [Act.put, List.setIfInBounds_toArray, List.set_cons_zero, List.set_cons_succ]
        go_simp
        refine hK.out _ _ ⟨gb2, gr, cr, x12, x13, x14, (.pointer (some ⟨g, 7, none⟩)), (.slice ea vn ec), x17, x18, x19, x20, x21, by first | (simp only [Act.put, List.setIfInBounds_toArray, List.set_cons_zero, List.set_cons_succ]; done) | (simp only [Act.put, List.setIfInBounds_toArray, List.set_cons_zero, List.set_cons_succ]; rfl), ?_⟩
        exact ⟨fun h => hF.out.f0 (by simpa using h), fun h => hF.out.f1 (by simpa using h), fun h => hF.out.f2 (by simpa using h), fun h => hF.out.f3 (by simpa using h), fun _ => rfl, fun h => hF.out.f5 (by simpa using h), fun h => hF.out.f6 (by simpa using h), fun h => hF.out.f7 (by simpa using h), fun h => hF.out.f8 (by simpa using h), fun h => hF.out.f9 (by simpa using h), fun h => hF.out.f10 (by simpa using h), fun i hi h => by have := hF.out.ol i hi (by simpa using h); simp [this], fun h => by have := hF.out.cA (by simpa using h); simpa using this, fun h => by have := hF.out.cF (by simpa using h); simpa using this, fun h => hF.out.kp (by simpa using h), fun h => hF.out.r0 (by simpa using h), fun h h2 => hF.out.b0 (by simpa using h) (by simpa using h2), fun h h2 => hF.out.r1 (by simpa using h) (by simpa using h2), fun h => hF.out.fin (by simpa using h)⟩
      · intro d a W hI hd hdep
        obtain ⟨gb2, gr, cr, x12, x13, x14, x15, x16, x17, x18, x19, x20, x21, rfl, hF⟩ := hI
        have HNL : Hid (d 10 = false) := no_later (hF.out.ol 5 (by omega)) hd
        have ya : W.cell? ⟨eb, 0, none⟩ = some (.int .i64 s0) := (tgb_old (hF.out.kp HNL.out) (p := ⟨eb, 0, none⟩) HLB.out.1 HLB.out.2).trans HCS.out.1
        have yb : W.cell? ⟨eb, 1, none⟩ = some (.int .i64 s1) := (tgb_old (hF.out.kp HNL.out) (p := ⟨eb, 1, none⟩) HLB.out.1 HLB.out.2).trans HCS.out.2
        clear hdep hd
        intro K hK
        simp only [Act.put, List.setIfInBounds_toArray, List.set_cons_zero, List.set_cons_succ]
        go_simp
        refine hK.out _ _ ⟨gb2, gr, cr, x12, x13, x14, x15, x16, (.agg #[.int .i64 s0, .int .i64 s1]), x18, x19, x20, x21, by first | (simp only [Act.put, List.setIfInBounds_toArray, List.set_cons_zero, List.set_cons_succ]; done) | (simp only [Act.put, List.setIfInBounds_toArray, List.set_cons_zero, List.set_cons_succ]; rfl), ?_⟩
        exact ⟨fun h => hF.out.f0 (by simpa using h), fun h => hF.out.f1 (by simpa using h), fun h => hF.out.f2 (by simpa using h), fun h => hF.out.f3 (by simpa using h), fun h => hF.out.f4 (by simpa using h), fun _ => rfl, fun h => hF.out.f6 (by simpa using h), fun h => hF.out.f7 (by simpa using h), fun h => hF.out.f8 (by simpa using h), fun h => hF.out.f9 (by simpa using h), fun h => hF.out.f10 (by simpa using h), fun i hi h => by have := hF.out.ol i hi (by simpa using h); simp [this], fun h => by have := hF.out.cA (by simpa using h); simpa using this, fun h => by have := hF.out.cF (by simpa using h); simpa using this, fun h => hF.out.kp (by simpa using h), fun h => hF.out.r0 (by simpa using h), fun h h2 => hF.out.b0 (by simpa using h) (by simpa using h2), fun h h2 => hF.out.r1 (by simpa using h) (by simpa using h2), fun h => hF.out.fin (by simpa using h)⟩
      · intro d a W hI hd hdep
        obtain ⟨gb2, gr, cr, x12, x13, x14, x15, x16, x17, x18, x19, x20, x21, rfl, hF⟩ := hI
        have hd5 : d 5 = true := dep_of hdep 5 (by kernel_rfl)
        obtain rfl := hF.out.f5 hd5
        have HNL : Hid (d 10 = false) := no_later (hF.out.ol 6 (by omega)) hd
        have HN8 : Hid (d 7 = false) := no_later hF.out.cA hd
        clear hdep hd hd5
        intro K hK
        simp only [Act.put, List.setIfInBounds_toArray, List.set_cons_zero, List.set_cons_succ]
        go_simp
        refine hK.out _ _ ⟨W.heap.size, gr, cr, x12, x13, x14, x15, x16, (.agg #[.int .i64 s0, .int .i64 s1]), (.slice (some ⟨W.heap.size, 0, none⟩) 1 1), x19, x20, x21, by first | (simp only [Act.put, List.setIfInBounds_toArray, List.set_cons_zero, List.set_cons_succ]; done) | (simp only [Act.put, List.setIfInBounds_toArray, List.set_cons_zero, List.set_cons_succ]; rfl), ?_⟩
        exact ⟨fun h => hF.out.f0 (by simpa using h), fun h => hF.out.f1 (by simpa using h), fun h => hF.out.f2 (by simpa using h), fun h => hF.out.f3 (by simpa using h), fun h => hF.out.f4 (by simpa using h), fun h => hF.out.f5 (by simpa using h), fun _ => rfl, fun h => by have := HN8.out; simp [this] at h, fun h => hF.out.f8 (by simpa using h), fun h => hF.out.f9 (by simpa using h), fun h => hF.out.f10 (by simpa using h), fun i hi h => by have := hF.out.ol i hi (by simpa using h); simp [this], fun _ => by simp, fun h => by have := hF.out.cF (by simpa using h); simpa using this, fun _ => tgb_alloc (hF.out.kp HNL.out) _, fun _ => (hF.out.r0 HN8.out).alloc _, fun _ _ => heap_alloc_new _ _, fun h => by have := HN8.out; simp [this] at h, fun h => by have := HNL.out; simp [this] at h⟩
      · intro d a W hI hd hdep
        obtain ⟨gb2, gr, cr, x12, x13, x14, x15, x16, x17, x18, x19, x20, x21, rfl, hF⟩ := hI
        have hd4 : d 4 = true := dep_of hdep 4 (by kernel_rfl)
        have hd6 : d 6 = true := dep_of hdep 6 (by kernel_rfl)
        obtain rfl := hF.out.f4 hd4
        obtain rfl := hF.out.f6 hd6
        have HNL : Hid (d 10 = false) := no_later (hF.out.ol 7 (by omega)) hd
        have HD7 : Hid (d 6 = true) := hd6
        have hm := run_append_lies (P := Try.prog) W 51 51 B 66 i1 _ 2 16 Try.underlying51 hi1 hy0 hy1 hy2 rfl (by omega) (.slice ea vn ec) vn xs (hF.out.r0 hd) ⟨gb2, 0, none⟩ 1 1 [.int .i64 s0, .int .i64 s1] rfl (World.news_of_block (t := 66) (fr := (0, 0)) (hF.out.b0 hd6 hd)) (by simp [Value.oneCell']) (by omega) (by unfold maxLen; have := HK1.out; omega) (by have := HK1.out; omega) (Nat.le_trans HBW.out (hF.out.kp HNL.out).size) W.heap.size rfl
        have hmm := hm.choose_spec.choose_spec.choose_spec
        generalize hm.choose_spec.choose_spec.choose = W1 at hmm
        generalize hm.choose_spec.choose = cr1 at hmm
        generalize hm.choose = gr1 at hmm
        have hrun := hmm.1
        have HM : Hid (W1.ownsRow B 66 2 (.slice (some ⟨gr1, 0, none⟩) (vn + 1) cr1) (vn + 1) (xs ++ [.int .i64 s0, .int .i64 s1]) ∧ W.grownBy W1 (Value.ownBlock (.slice ea vn ec))) := ⟨hmm.2.1, hmm.2.2.1⟩
        clear hmm hm
        clear hdep hd hd4 hd6
        intro K hK
        refine tstep_call_append (sv := (.slice ea vn ec)) (xv := (.slice (some ⟨gb2, 0, none⟩) 1 1)) (v := (.slice (some ⟨gr1, 0, none⟩) (vn + 1) cr1)) (W1 := W1) (by rfl) _ _ 51 (by rfl) (by first | (simp only [Act.put, List.setIfInBounds_toArray, List.set_cons_zero, List.set_cons_succ]; done) | (simp only [Act.put, List.setIfInBounds_toArray, List.set_cons_zero, List.set_cons_succ]; rfl)) (by first | (simp only [Act.put, List.setIfInBounds_toArray, List.set_cons_zero, List.set_cons_succ]; done) | (simp only [Act.put, List.setIfInBounds_toArray, List.set_cons_zero, List.set_cons_succ]; rfl)) (by exact hrun) ?_
        simp only [Act.put, List.setIfInBounds_toArray, List.set_cons_zero, List.set_cons_succ]
        refine hK.out _ _ ⟨gb2, gr1, cr1, x12, x13, x14, x15, (.slice ea vn ec), x17, (.slice (some ⟨gb2, 0, none⟩) 1 1), (.slice (some ⟨gr1, 0, none⟩) (vn + 1) cr1), x20, x21, by first | (simp only [Act.put, List.setIfInBounds_toArray, List.set_cons_zero, List.set_cons_succ]; done) | (simp only [Act.put, List.setIfInBounds_toArray, List.set_cons_zero, List.set_cons_succ]; rfl), ?_⟩
        exact ⟨fun h => hF.out.f0 (by simpa using h), fun h => hF.out.f1 (by simpa using h), fun h => hF.out.f2 (by simpa using h), fun h => hF.out.f3 (by simpa using h), fun h => hF.out.f4 (by simpa using h), fun h => hF.out.f5 (by simpa using h), fun h => hF.out.f6 (by simpa using h), fun _ => rfl, fun h => hF.out.f8 (by simpa using h), fun h => hF.out.f9 (by simpa using h), fun h => hF.out.f10 (by simpa using h), fun i hi h => by have := hF.out.ol i hi (by simpa using h); simp [this], fun _ => by simpa using HD7.out, fun h => by have := hF.out.cF (by simpa using h); simpa using this, fun _ => tgb_then (hF.out.kp HNL.out) HM.out.2, fun h => by simp at h, fun _ h => by simp at h, fun _ _ => HM.out.1, fun h => by have := HNL.out; simp [this] at h⟩
      · intro d a W hI hd hdep
        obtain ⟨gb2, gr, cr, x12, x13, x14, x15, x16, x17, x18, x19, x20, x21, rfl, hF⟩ := hI
        have hd0 : d 0 = true := dep_of hdep 0 (by kernel_rfl)
        obtain rfl := hF.out.f0 hd0
        clear hdep hd hd0
        intro K hK
        simp only [Act.put, List.setIfInBounds_toArray, List.set_cons_zero, List.set_cons_succ]
        go_simp
        refine hK.out _ _ ⟨gb2, gr, cr, (.pointer (some ⟨g, 0, none⟩)), x13, x14, x15, x16, x17, x18, x19, (.pointer (some ⟨g, 0, none⟩)), x21, by first | (simp only [Act.put, List.setIfInBounds_toArray, List.set_cons_zero, List.set_cons_succ]; done) | (simp only [Act.put, List.setIfInBounds_toArray, List.set_cons_zero, List.set_cons_succ]; rfl), ?_⟩
        exact ⟨fun h => hF.out.f0 (by simpa using h), fun h => hF.out.f1 (by simpa using h), fun h => hF.out.f2 (by simpa using h), fun h => hF.out.f3 (by simpa using h), fun h => hF.out.f4 (by simpa using h), fun h => hF.out.f5 (by simpa using h), fun h => hF.out.f6 (by simpa using h), fun h => hF.out.f7 (by simpa using h), fun _ => rfl, fun h => hF.out.f9 (by simpa using h), fun h => hF.out.f10 (by simpa using h), fun i hi h => by have := hF.out.ol i hi (by simpa using h); simp [this], fun h => by have := hF.out.cA (by simpa using h); simpa using this, fun _ => by simp, fun h => hF.out.kp (by simpa using h), fun h => hF.out.r0 (by simpa using h), fun h h2 => hF.out.b0 (by simpa using h) (by simpa using h2), fun h h2 => hF.out.r1 (by simpa using h) (by simpa using h2), fun h => hF.out.fin (by simpa using h)⟩
      · intro d a W hI hd hdep
        obtain ⟨gb2, gr, cr, x12, x13, x14, x15, x16, x17, x18, x19, x20, x21, rfl, hF⟩ := hI
        have hd8 : d 8 = true := dep_of hdep 8 (by kernel_rfl)
        obtain rfl := hF.out.f8 hd8
        have HD9 : Hid (d 8 = true) := hd8
        clear hdep hd hd8
        intro K hK
        simp only [Act.put, List.setIfInBounds_toArray, List.set_cons_zero, List.set_cons_succ]
        go_simp
        refine hK.out _ _ ⟨gb2, gr, cr, x12, x13, x14, x15, x16, x17, x18, x19, (.pointer (some ⟨g, 0, none⟩)), (.pointer (some ⟨g, 7, none⟩)), by first | (simp only [Act.put, List.setIfInBounds_toArray, List.set_cons_zero, List.set_cons_succ]; done) | (simp only [Act.put, List.setIfInBounds_toArray, List.set_cons_zero, List.set_cons_succ]; rfl), ?_⟩
        exact ⟨fun h => hF.out.f0 (by simpa using h), fun h => hF.out.f1 (by simpa using h), fun h => hF.out.f2 (by simpa using h), fun h => hF.out.f3 (by simpa using h), fun h => hF.out.f4 (by simpa using h), fun h => hF.out.f5 (by simpa using h), fun h => hF.out.f6 (by simpa using h), fun h => hF.out.f7 (by simpa using h), fun h => hF.out.f8 (by simpa using h), fun _ => rfl, fun h => hF.out.f10 (by simpa using h), fun i hi h => by have := hF.out.ol i hi (by simpa using h); simp [this], fun h => by have := hF.out.cA (by simpa using h); simpa using this, fun _ => by simpa using HD9.out, fun h => hF.out.kp (by simpa using h), fun h => hF.out.r0 (by simpa using h), fun h h2 => hF.out.b0 (by simpa using h) (by simpa using h2), fun h h2 => hF.out.r1 (by simpa using h) (by simpa using h2), fun h => hF.out.fin (by simpa using h)⟩
      · intro d a W hI hd hdep
        obtain ⟨gb2, gr, cr, x12, x13, x14, x15, x16, x17, x18, x19, x20, x21, rfl, hF⟩ := hI
        have hd0 : d 0 = true := dep_of hdep 0 (by kernel_rfl)
        have hd1 : d 1 = true := dep_of hdep 1 (by kernel_rfl)
        have hd2 : d 2 = true := dep_of hdep 2 (by kernel_rfl)
        have hd3 : d 3 = true := dep_of hdep 3 (by kernel_rfl)
        have hd4 : d 4 = true := dep_of hdep 4 (by kernel_rfl)
        have hd5 : d 5 = true := dep_of hdep 5 (by kernel_rfl)
        have hd6 : d 6 = true := dep_of hdep 6 (by kernel_rfl)
        have hd7 : d 7 = true := dep_of hdep 7 (by kernel_rfl)
        have hd9 : d 9 = true := dep_of hdep 9 (by kernel_rfl)
        obtain rfl := hF.out.f0 hd0
        obtain rfl := hF.out.f1 hd1
        obtain rfl := hF.out.f2 hd2
        obtain rfl := hF.out.f3 hd3
        obtain rfl := hF.out.f4 hd4
        obtain rfl := hF.out.f5 hd5
        obtain rfl := hF.out.f6 hd6
        obtain rfl := hF.out.f7 hd7
        obtain rfl := hF.out.f9 hd9
        have hd8 : d 8 = true := hF.out.cF hd9
        obtain rfl := hF.out.f8 hd8
        have HD : Hid (∀ i, i < 10 → d i = true) := fun i hi => by
          have : i = 0 ∨ i = 1 ∨ i = 2 ∨ i = 3 ∨ i = 4 ∨ i = 5 ∨ i = 6 ∨ i = 7 ∨ i = 8 ∨ i = 9 := by omega
          rcases this with rfl | rfl | rfl | rfl | rfl | rfl | rfl | rfl | rfl | rfl <;> assumption
        have HKP : Hid (w3.grownBy W (Value.ownBlock (.slice ea vn ec))) := hF.out.kp hd
        have HR1 : Hid (W.ownsRow B 66 2 (.slice (some ⟨gr, 0, none⟩) (vn + 1) cr) (vn + 1) (xs ++ [.int .i64 s0, .int .i64 s1])) := hF.out.r1 hd7 hd
        have hblk := (HKP.out.block g HLQ.out.1 HLQ.out.2).trans HBQ.out
        have ya := tcell_blk hblk 7
        have yb := tfrozen_blk hblk 7
        clear hblk
        simp only [List.getElem?_toArray, List.getElem?_cons_zero, List.getElem?_cons_succ] at ya
        clear hdep hd hd0 hd1 hd2 hd3 hd4 hd5 hd6 hd7 hd9
        intro K hK
        simp only [Act.put, List.setIfInBounds_toArray, List.set_cons_zero, List.set_cons_succ]
        go_simp
        refine hK.out _ _ ⟨gb2, gr, cr, (.pointer (some ⟨g, 0, none⟩)), (.pointer (some ⟨g, 0, none⟩)), (.pointer (some ⟨g, 0, none⟩)), (.pointer (some ⟨g, 7, none⟩)), (.slice ea vn ec), (.agg #[.int .i64 s0, .int .i64 s1]), (.slice (some ⟨gb2, 0, none⟩) 1 1), (.slice (some ⟨gr, 0, none⟩) (vn + 1) cr), (.pointer (some ⟨g, 0, none⟩)), (.pointer (some ⟨g, 7, none⟩)), by first | (simp only [Act.put, List.setIfInBounds_toArray, List.set_cons_zero, List.set_cons_succ]; done) | (simp only [Act.put, List.setIfInBounds_toArray, List.set_cons_zero, List.set_cons_succ]; rfl), ?_⟩
        exact ⟨fun h => hF.out.f0 (by simpa using h), fun h => hF.out.f1 (by simpa using h), fun h => hF.out.f2 (by simpa using h), fun h => hF.out.f3 (by simpa using h), fun h => hF.out.f4 (by simpa using h), fun h => hF.out.f5 (by simpa using h), fun h => hF.out.f6 (by simpa using h), fun h => hF.out.f7 (by simpa using h), fun h => hF.out.f8 (by simpa using h), fun h => hF.out.f9 (by simpa using h), fun _ => trivial, fun i hi _ => by have := HD.out i hi; simp [this], fun h => by have := hF.out.cA (by simpa using h); simpa using this, fun h => by have := hF.out.cF (by simpa using h); simpa using this, fun h => by simp at h, fun h => by have := HD.out 7 (by omega); simp [this] at h, fun _ h => by have := HD.out 7 (by omega); simp [this] at h, fun _ h => by simp at h, fun _ => ⟨W, HKP.out, HR1.out, rfl⟩⟩
    · intro d a W hI hall
      obtain ⟨gb2, gr, cr, x12, x13, x14, x15, x16, x17, x18, x19, x20, x21, rfl, hF⟩ := hI
      simp only [List.length_cons, List.length_nil] at hall
      obtain rfl := hF.out.f0 (hall 0 (by omega))
      obtain rfl := hF.out.f1 (hall 1 (by omega))
      obtain rfl := hF.out.f2 (hall 2 (by omega))
      obtain rfl := hF.out.f3 (hall 3 (by omega))
      obtain rfl := hF.out.f4 (hall 4 (by omega))
      obtain rfl := hF.out.f5 (hall 5 (by omega))
      obtain rfl := hF.out.f6 (hall 6 (by omega))
      obtain rfl := hF.out.f7 (hall 7 (by omega))
      obtain rfl := hF.out.f8 (hall 8 (by omega))
      obtain rfl := hF.out.f9 (hall 9 (by omega))
      obtain ⟨V, v1, v2, rfl⟩ := hF.out.fin (hall 10 (by omega))
      have HW4 : Hid (Wb w0 g t (n : Int) pv rv (col : Int) sn ta tn tc (some ⟨gr, 0, none⟩) (vn + 1) cr (y :: r) (ev ++ [(s0, s1)]) (V.setCell ⟨g, 7, none⟩ (.slice (some ⟨gr, 0, none⟩) (vn + 1) cr)) ∧ (V.setCell ⟨g, 7, none⟩ (.slice (some ⟨gr, 0, none⟩) (vn + 1) cr)).heap[eb]? = some (.cells #[.int .i64 s0, .int .i64 s1] 66)) := by
        refine ⟨HW3.out.pushE (x := (s0, s1)) (V := V) v1 (by rw [HVN.out, HBE.out, HXS.out]; exact v2), ?_⟩
        exact (Below.heap_setCell _ _ _ _ (by have := HNG.out; simpa using this)).trans ((v1.block eb HLB.out.1 HLB.out.2).trans HEB.out)
      clear hF hall v1 v2
      simp only [Act.put, List.setIfInBounds_toArray, List.set_cons_zero, List.set_cons_succ]
      generalize V.setCell ⟨g, 7, none⟩ (.slice (some ⟨gr, 0, none⟩) (vn + 1) cr) = w4 at HW4 ⊢
      clear HW3 HEB HLQ HLB HC7 HBQ HOWN HCS
      have HL4 : Hid (tn = r.length + 1) := by show _ = _; have := HW4.out.1.lens.1; simpa using this
      have q5 := tcell_blk HW4.out.1.blk 5
      simp only [List.getElem?_toArray, List.getElem?_cons_zero, List.getElem?_cons_succ] at q5
      have HC5 : Hid (w4.cell? ⟨g, 5, none⟩ = some (.slice ta tn tc)) := q5
      have HBQ5 : Hid _ := HW4.out.1.blk
      rw [HL4.out] at HW4 HC5 HBQ5
      clear q5
      obtain ⟨k0, rfl, -, -, -, -, -, -, -⟩ := HW4.out.1.top
      have HCAP : Hid (r.length ≤ tc) := by
        show _ ≤ _
        obtain ⟨h1, ⟨h2, h3⟩ | ⟨gq, cap, cur, hv, hg, hh, hn, hc, hs, ht⟩⟩ := HW4.out.1.tq
        · simp at h3
        · simp only [Value.slice.injEq] at hv; have := hv.2.2; simp at hn; omega
      go_upto_region 5 with fail
      refine wp_region_free mixed (fun a0 d a W => ∃ (x22 x23 x24 x25 x26 x27 x28 x29 x30 x31 x32 x33 x34 x35 : Value), a = ((((((((((((((a0.put (some 22) x22).put (some 23) x23).put (some 24) x24).put (some 25) x25).put (some 26) x26).put (some 27) x27).put (some 28) x28).put (some 29) x29).put (some 30) x30).put (some 31) x31).put (some 32) x32).put (some 33) x33).put (some 34) x34).put (some 35) x35) ∧ Hid (RPo w4 g k0 r.length tc d x22 x23 x24 x25 x26 x27 x28 x29 x30 x31 x32 x33 x34 x35 W)) (by kernel_rfl) ⟨undef, undef, undef, undef, undef, undef, undef, undef, undef, undef, undef, undef, undef, undef, by first | (simp only [Act.put, List.setIfInBounds_toArray, List.set_cons_zero, List.set_cons_succ]; done) | (simp only [Act.put, List.setIfInBounds_toArray, List.set_cons_zero, List.set_cons_succ]; rfl), ?_⟩ ?_ ?_
      · exact ⟨fun h => no_way h, fun h => no_way h, fun h => no_way h, fun h => no_way h, fun h => no_way h, fun h => no_way h, fun h => no_way h, fun h => no_way h, fun h => no_way h, fun h => no_way h, fun h => no_way h, fun h => no_way h, fun h => no_way h, fun h => no_way h, fun _ => trivial, fun _ _ h => no_way h, fun h => no_way h, fun _ => Sm.drew _, fun h => no_way h⟩
      · simp only [StepAll, and_true]
        refine ⟨?_, ?_, ?_, ?_, ?_, ?_, ?_, ?_, ?_, ?_, ?_, ?_, ?_, ?_, ?_⟩
        · intro d a W hI hd hdep
          obtain ⟨x22, x23, x24, x25, x26, x27, x28, x29, x30, x31, x32, x33, x34, x35, rfl, hF⟩ := hI
          clear hdep hd
          intro K hK
          simp only [Act.put, List.setIfInBounds_toArray, List.set_cons_zero, List.set_cons_succ]
          go_simp
          refine hK.out _ _ ⟨(.pointer (some ⟨g, 0, none⟩)), x23, x24, x25, x26, x27, x28, x29, x30, x31, x32, x33, x34, x35, by first | (simp only [Act.put, List.setIfInBounds_toArray, List.set_cons_zero, List.set_cons_succ]; done) | (simp only [Act.put, List.setIfInBounds_toArray, List.set_cons_zero, List.set_cons_succ]; rfl), ?_⟩
          exact ⟨fun _ => rfl, fun h => hF.out.f1 (by simpa using h), fun h => hF.out.f2 (by simpa using h), fun h => hF.out.f3 (by simpa using h), fun h => hF.out.f4 (by simpa using h), fun h => hF.out.f5 (by simpa using h), fun h => hF.out.f6 (by simpa using h), fun h => hF.out.f7 (by simpa using h), fun h => hF.out.f8 (by simpa using h), fun h => hF.out.f9 (by simpa using h), fun h => hF.out.f10 (by simpa using h), fun h => hF.out.f11 (by simpa using h), fun h => hF.out.f12 (by simpa using h), fun h => hF.out.f13 (by simpa using h), fun h => hF.out.f14 (by simpa using h), fun i hi h => by have := hF.out.ol i hi (by simpa using h); simp [this], fun h => by have := hF.out.cF (by simpa using h); simpa using this, fun h => hF.out.sm (by simpa using h), fun h => hF.out.fin (by simpa using h)⟩
        · intro d a W hI hd hdep
          obtain ⟨x22, x23, x24, x25, x26, x27, x28, x29, x30, x31, x32, x33, x34, x35, rfl, hF⟩ := hI
          clear hdep hd
          intro K hK
          simp only [Act.put, List.setIfInBounds_toArray, List.set_cons_zero, List.set_cons_succ]
          go_simp
          refine hK.out _ _ ⟨x22, (.pointer (some ⟨g, 0, none⟩)), x24, x25, x26, x27, x28, x29, x30, x31, x32, x33, x34, x35, by first | (simp only [Act.put, List.setIfInBounds_toArray, List.set_cons_zero, List.set_cons_succ]; done) | (simp only [Act.put, List.setIfInBounds_toArray, List.set_cons_zero, List.set_cons_succ]; rfl), ?_⟩
          exact ⟨fun h => hF.out.f0 (by simpa using h), fun _ => rfl, fun h => hF.out.f2 (by simpa using h), fun h => hF.out.f3 (by simpa using h), fun h => hF.out.f4 (by simpa using h), fun h => hF.out.f5 (by simpa using h), fun h => hF.out.f6 (by simpa using h), fun h => hF.out.f7 (by simpa using h), fun h => hF.out.f8 (by simpa using h), fun h => hF.out.f9 (by simpa using h), fun h => hF.out.f10 (by simpa using h), fun h => hF.out.f11 (by simpa using h), fun h => hF.out.f12 (by simpa using h), fun h => hF.out.f13 (by simpa using h), fun h => hF.out.f14 (by simpa using h), fun i hi h => by have := hF.out.ol i hi (by simpa using h); simp [this], fun h => by have := hF.out.cF (by simpa using h); simpa using this, fun h => hF.out.sm (by simpa using h), fun h => hF.out.fin (by simpa using h)⟩
        · intro d a W hI hd hdep
          obtain ⟨x22, x23, x24, x25, x26, x27, x28, x29, x30, x31, x32, x33, x34, x35, rfl, hF⟩ := hI
          have hd1 : d 1 = true := dep_of hdep 1 (by kernel_rfl)
          obtain rfl := hF.out.f1 hd1
          clear hdep hd hd1
          intro K hK
          simp only [Act.put, List.setIfInBounds_toArray, List.set_cons_zero, List.set_cons_succ]
          go_simp
          refine hK.out _ _ ⟨x22, (.pointer (some ⟨g, 0, none⟩)), (.pointer (some ⟨g, 0, none⟩)), x25, x26, x27, x28, x29, x30, x31, x32, x33, x34, x35, by first | (simp only [Act.put, List.setIfInBounds_toArray, List.set_cons_zero, List.set_cons_succ]; done) | (simp only [Act.put, List.setIfInBounds_toArray, List.set_cons_zero, List.set_cons_succ]; rfl), ?_⟩
          exact ⟨fun h => hF.out.f0 (by simpa using h), fun h => hF.out.f1 (by simpa using h), fun _ => rfl, fun h => hF.out.f3 (by simpa using h), fun h => hF.out.f4 (by simpa using h), fun h => hF.out.f5 (by simpa using h), fun h => hF.out.f6 (by simpa using h), fun h => hF.out.f7 (by simpa using h), fun h => hF.out.f8 (by simpa using h), fun h => hF.out.f9 (by simpa using h), fun h => hF.out.f10 (by simpa using h), fun h => hF.out.f11 (by simpa using h), fun h => hF.out.f12 (by simpa using h), fun h => hF.out.f13 (by simpa using h), fun h => hF.out.f14 (by simpa using h), fun i hi h => by have := hF.out.ol i hi (by simpa using h); simp [this], fun h => by have := hF.out.cF (by simpa using h); simpa using this, fun h => hF.out.sm (by simpa using h), fun h => hF.out.fin (by simpa using h)⟩
        · intro d a W hI hd hdep
          obtain ⟨x22, x23, x24, x25, x26, x27, x28, x29, x30, x31, x32, x33, x34, x35, rfl, hF⟩ := hI
          have hd2 : d 2 = true := dep_of hdep 2 (by kernel_rfl)
          obtain rfl := hF.out.f2 hd2
          clear hdep hd hd2
          intro K hK
          simp only [Act.put, List.setIfInBounds_toArray, List.set_cons_zero, List.set_cons_succ]
          go_simp
          refine hK.out _ _ ⟨x22, x23, (.pointer (some ⟨g, 0, none⟩)), (.pointer (some ⟨g, 5, none⟩)), x26, x27, x28, x29, x30, x31, x32, x33, x34, x35, by first | (simp only [Act.put, List.setIfInBounds_toArray, List.set_cons_zero, List.set_cons_succ]; done) | (simp only [Act.put, List.setIfInBounds_toArray, List.set_cons_zero, List.set_cons_succ]; rfl), ?_⟩
          exact ⟨fun h => hF.out.f0 (by simpa using h), fun h => hF.out.f1 (by simpa using h), fun h => hF.out.f2 (by simpa using h), fun _ => rfl, fun h => hF.out.f4 (by simpa using h), fun h => hF.out.f5 (by simpa using h), fun h => hF.out.f6 (by simpa using h), fun h => hF.out.f7 (by simpa using h), fun h => hF.out.f8 (by simpa using h), fun h => hF.out.f9 (by simpa using h), fun h => hF.out.f10 (by simpa using h), fun h => hF.out.f11 (by simpa using h), fun h => hF.out.f12 (by simpa using h), fun h => hF.out.f13 (by simpa using h), fun h => hF.out.f14 (by simpa using h), fun i hi h => by have := hF.out.ol i hi (by simpa using h); simp [this], fun h => by have := hF.out.cF (by simpa using h); simpa using this, fun h => hF.out.sm (by simpa using h), fun h => hF.out.fin (by simpa using h)⟩
        · intro d a W hI hd hdep
          obtain ⟨x22, x23, x24, x25, x26, x27, x28, x29, x30, x31, x32, x33, x34, x35, rfl, hF⟩ := hI
          have hd3 : d 3 = true := dep_of hdep 3 (by kernel_rfl)
          obtain rfl := hF.out.f3 hd3
          have HNL : Hid (d 14 = false) := no_later (hF.out.ol 4 (by omega)) hd
          have q0 : W.cell? ⟨g, 5, none⟩ = some (.slice (some ⟨k0, 0, none⟩) (r.length + 1) tc) := ((hF.out.sm HNL.out).cell _).trans HC5.out
          clear hdep hd hd3
          intro K hK
          simp only [Act.put, List.setIfInBounds_toArray, List.set_cons_zero, List.set_cons_succ]
          go_simp
          refine hK.out _ _ ⟨x22, x23, x24, (.pointer (some ⟨g, 5, none⟩)), (.slice (some ⟨k0, 0, none⟩) (r.length + 1) tc), x27, x28, x29, x30, x31, x32, x33, x34, x35, by first | (simp only [Act.put, List.setIfInBounds_toArray, List.set_cons_zero, List.set_cons_succ]; done) | (simp only [Act.put, List.setIfInBounds_toArray, List.set_cons_zero, List.set_cons_succ]; rfl), ?_⟩
          exact ⟨fun h => hF.out.f0 (by simpa using h), fun h => hF.out.f1 (by simpa using h), fun h => hF.out.f2 (by simpa using h), fun h => hF.out.f3 (by simpa using h), fun _ => rfl, fun h => hF.out.f5 (by simpa using h), fun h => hF.out.f6 (by simpa using h), fun h => hF.out.f7 (by simpa using h), fun h => hF.out.f8 (by simpa using h), fun h => hF.out.f9 (by simpa using h), fun h => hF.out.f10 (by simpa using h), fun h => hF.out.f11 (by simpa using h), fun h => hF.out.f12 (by simpa using h), fun h => hF.out.f13 (by simpa using h), fun h => hF.out.f14 (by simpa using h), fun i hi h => by have := hF.out.ol i hi (by simpa using h); simp [this], fun h => by have := hF.out.cF (by simpa using h); simpa using this, fun h => hF.out.sm (by simpa using h), fun h => hF.out.fin (by simpa using h)⟩
        · intro d a W hI hd hdep
          obtain ⟨x22, x23, x24, x25, x26, x27, x28, x29, x30, x31, x32, x33, x34, x35, rfl, hF⟩ := hI
          clear hdep hd
          intro K hK
          simp only [Act.put, List.setIfInBounds_toArray, List.set_cons_zero, List.set_cons_succ]
          go_simp
          refine hK.out _ _ ⟨x22, x23, x24, x25, x26, (.pointer (some ⟨g, 0, none⟩)), x28, x29, x30, x31, x32, x33, x34, x35, by first | (simp only [Act.put, List.setIfInBounds_toArray, List.set_cons_zero, List.set_cons_succ]; done) | (simp only [Act.put, List.setIfInBounds_toArray, List.set_cons_zero, List.set_cons_succ]; rfl), ?_⟩
          exact ⟨fun h => hF.out.f0 (by simpa using h), fun h => hF.out.f1 (by simpa using h), fun h => hF.out.f2 (by simpa using h), fun h => hF.out.f3 (by simpa using h), fun h => hF.out.f4 (by simpa using h), fun _ => rfl, fun h => hF.out.f6 (by simpa using h), fun h => hF.out.f7 (by simpa using h), fun h => hF.out.f8 (by simpa using h), fun h => hF.out.f9 (by simpa using h), fun h => hF.out.f10 (by simpa using h), fun h => hF.out.f11 (by simpa using h), fun h => hF.out.f12 (by simpa using h), fun h => hF.out.f13 (by simpa using h), fun h => hF.out.f14 (by simpa using h), fun i hi h => by have := hF.out.ol i hi (by simpa using h); simp [this], fun h => by have := hF.out.cF (by simpa using h); simpa using this, fun h => hF.out.sm (by simpa using h), fun h => hF.out.fin (by simpa using h)⟩
        · intro d a W hI hd hdep
          obtain ⟨x22, x23, x24, x25, x26, x27, x28, x29, x30, x31, x32, x33, x34, x35, rfl, hF⟩ := hI
          have hd5 : d 5 = true := dep_of hdep 5 (by kernel_rfl)
          obtain rfl := hF.out.f5 hd5
          clear hdep hd hd5
          intro K hK
          simp only [Act.put, List.setIfInBounds_toArray, List.set_cons_zero, List.set_cons_succ]
          go_simp
          refine hK.out _ _ ⟨x22, x23, x24, x25, x26, (.pointer (some ⟨g, 0, none⟩)), (.pointer (some ⟨g, 0, none⟩)), x29, x30, x31, x32, x33, x34, x35, by first | (simp only [Act.put, List.setIfInBounds_toArray, List.set_cons_zero, List.set_cons_succ]; done) | (simp only [Act.put, List.setIfInBounds_toArray, List.set_cons_zero, List.set_cons_succ]; rfl), ?_⟩
          exact ⟨fun h => hF.out.f0 (by simpa using h), fun h => hF.out.f1 (by simpa using h), fun h => hF.out.f2 (by simpa using h), fun h => hF.out.f3 (by simpa using h), fun h => hF.out.f4 (by simpa using h), fun h => hF.out.f5 (by simpa using h), fun _ => rfl, fun h => hF.out.f7 (by simpa using h), fun h => hF.out.f8 (by simpa using h), fun h => hF.out.f9 (by simpa using h), fun h => hF.out.f10 (by simpa using h), fun h => hF.out.f11 (by simpa using h), fun h => hF.out.f12 (by simpa using h), fun h => hF.out.f13 (by simpa using h), fun h => hF.out.f14 (by simpa using h), fun i hi h => by have := hF.out.ol i hi (by simpa using h); simp [this], fun h => by have := hF.out.cF (by simpa using h); simpa using this, fun h => hF.out.sm (by simpa using h), fun h => hF.out.fin (by simpa using h)⟩
        · intro d a W hI hd hdep
          obtain ⟨x22, x23, x24, x25, x26, x27, x28, x29, x30, x31, x32, x33, x34, x35, rfl, hF⟩ := hI
          have hd6 : d 6 = true := dep_of hdep 6 (by kernel_rfl)
          obtain rfl := hF.out.f6 hd6
          clear hdep hd hd6
          intro K hK
          simp only [Act.put, List.setIfInBounds_toArray, List.set_cons_zero, List.set_cons_succ]
          go_simp
          refine hK.out _ _ ⟨x22, x23, x24, x25, x26, x27, (.pointer (some ⟨g, 0, none⟩)), (.pointer (some ⟨g, 5, none⟩)), x30, x31, x32, x33, x34, x35, by first | (simp only [Act.put, List.setIfInBounds_toArray, List.set_cons_zero, List.set_cons_succ]; done) | (simp only [Act.put, List.setIfInBounds_toArray, List.set_cons_zero, List.set_cons_succ]; rfl), ?_⟩
          exact ⟨fun h => hF.out.f0 (by simpa using h), fun h => hF.out.f1 (by simpa using h), fun h => hF.out.f2 (by simpa using h), fun h => hF.out.f3 (by simpa using h), fun h => hF.out.f4 (by simpa using h), fun h => hF.out.f5 (by simpa using h), fun h => hF.out.f6 (by simpa using h), fun _ => rfl, fun h => hF.out.f8 (by simpa using h), fun h => hF.out.f9 (by simpa using h), fun h => hF.out.f10 (by simpa using h), fun h => hF.out.f11 (by simpa using h), fun h => hF.out.f12 (by simpa using h), fun h => hF.out.f13 (by simpa using h), fun h => hF.out.f14 (by simpa using h), fun i hi h => by have := hF.out.ol i hi (by simpa using h); simp [this], fun h => by have := hF.out.cF (by simpa using h); simpa using this, fun h => hF.out.sm (by simpa using h), fun h => hF.out.fin (by simpa using h)⟩
        · intro d a W hI hd hdep
          obtain ⟨x22, x23, x24, x25, x26, x27, x28, x29, x30, x31, x32, x33, x34, x35, rfl, hF⟩ := hI
          have hd7 : d 7 = true := dep_of hdep 7 (by kernel_rfl)
          obtain rfl := hF.out.f7 hd7
          have HNL : Hid (d 14 = false) := no_later (hF.out.ol 8 (by omega)) hd
          have q0 : W.cell? ⟨g, 5, none⟩ = some (.slice (some ⟨k0, 0, none⟩) (r.length + 1) tc) := ((hF.out.sm HNL.out).cell _).trans HC5.out
          clear hdep hd hd7
          intro K hK
          simp only [Act.put, List.setIfInBounds_toArray, List.set_cons_zero, List.set_cons_succ]
          go_simp
          refine hK.out _ _ ⟨x22, x23, x24, x25, x26, x27, x28, (.pointer (some ⟨g, 5, none⟩)), (.slice (some ⟨k0, 0, none⟩) (r.length + 1) tc), x31, x32, x33, x34, x35, by first | (simp only [Act.put, List.setIfInBounds_toArray, List.set_cons_zero, List.set_cons_succ]; done) | (simp only [Act.put, List.setIfInBounds_toArray, List.set_cons_zero, List.set_cons_succ]; rfl), ?_⟩
          exact ⟨fun h => hF.out.f0 (by simpa using h), fun h => hF.out.f1 (by simpa using h), fun h => hF.out.f2 (by simpa using h), fun h => hF.out.f3 (by simpa using h), fun h => hF.out.f4 (by simpa using h), fun h => hF.out.f5 (by simpa using h), fun h => hF.out.f6 (by simpa using h), fun h => hF.out.f7 (by simpa using h), fun _ => rfl, fun h => hF.out.f9 (by simpa using h), fun h => hF.out.f10 (by simpa using h), fun h => hF.out.f11 (by simpa using h), fun h => hF.out.f12 (by simpa using h), fun h => hF.out.f13 (by simpa using h), fun h => hF.out.f14 (by simpa using h), fun i hi h => by have := hF.out.ol i hi (by simpa using h); simp [this], fun h => by have := hF.out.cF (by simpa using h); simpa using this, fun h => hF.out.sm (by simpa using h), fun h => hF.out.fin (by simpa using h)⟩
        · intro d a W hI hd hdep
          obtain ⟨x22, x23, x24, x25, x26, x27, x28, x29, x30, x31, x32, x33, x34, x35, rfl, hF⟩ := hI
          have hd8 : d 8 = true := dep_of hdep 8 (by kernel_rfl)
          obtain rfl := hF.out.f8 hd8
          clear hdep hd hd8
          intro K hK
          simp only [Act.put, List.setIfInBounds_toArray, List.set_cons_zero, List.set_cons_succ]
          go_simp
          refine hK.out _ _ ⟨x22, x23, x24, x25, x26, x27, x28, x29, (.slice (some ⟨k0, 0, none⟩) (r.length + 1) tc), (.int .i64 ((r.length : Int) + 1)), x32, x33, x34, x35, by first | (simp only [Act.put, List.setIfInBounds_toArray, List.set_cons_zero, List.set_cons_succ]; done) | (simp only [Act.put, List.setIfInBounds_toArray, List.set_cons_zero, List.set_cons_succ]; rfl), ?_⟩
          exact ⟨fun h => hF.out.f0 (by simpa using h), fun h => hF.out.f1 (by simpa using h), fun h => hF.out.f2 (by simpa using h), fun h => hF.out.f3 (by simpa using h), fun h => hF.out.f4 (by simpa using h), fun h => hF.out.f5 (by simpa using h), fun h => hF.out.f6 (by simpa using h), fun h => hF.out.f7 (by simpa using h), fun h => hF.out.f8 (by simpa using h), fun _ => rfl, fun h => hF.out.f10 (by simpa using h), fun h => hF.out.f11 (by simpa using h), fun h => hF.out.f12 (by simpa using h), fun h => hF.out.f13 (by simpa using h), fun h => hF.out.f14 (by simpa using h), fun i hi h => by have := hF.out.ol i hi (by simpa using h); simp [this], fun h => by have := hF.out.cF (by simpa using h); simpa using this, fun h => hF.out.sm (by simpa using h), fun h => hF.out.fin (by simpa using h)⟩
        · intro d a W hI hd hdep
          obtain ⟨x22, x23, x24, x25, x26, x27, x28, x29, x30, x31, x32, x33, x34, x35, rfl, hF⟩ := hI
          have hd9 : d 9 = true := dep_of hdep 9 (by kernel_rfl)
          obtain rfl := hF.out.f9 hd9
          have hwr : IntKind.i64.wrap (r.length : Int) = (r.length : Int) := by have := HRL.out; simp [IntKind.wrap, IntKind.bits, IntKind.signed]; omega
          clear hdep hd hd9
          intro K hK
          simp only [Act.put, List.setIfInBounds_toArray, List.set_cons_zero, List.set_cons_succ]
          go_simp
          first | rw [hwr] | skip
          refine hK.out _ _ ⟨x22, x23, x24, x25, x26, x27, x28, x29, x30, (.int .i64 ((r.length : Int) + 1)), (.int .i64 (r.length : Int)), x33, x34, x35, by first | (simp only [Act.put, List.setIfInBounds_toArray, List.set_cons_zero, List.set_cons_succ]; done) | (simp only [Act.put, List.setIfInBounds_toArray, List.set_cons_zero, List.set_cons_succ]; rfl), ?_⟩
          exact ⟨fun h => hF.out.f0 (by simpa using h), fun h => hF.out.f1 (by simpa using h), fun h => hF.out.f2 (by simpa using h), fun h => hF.out.f3 (by simpa using h), fun h => hF.out.f4 (by simpa using h), fun h => hF.out.f5 (by simpa using h), fun h => hF.out.f6 (by simpa using h), fun h => hF.out.f7 (by simpa using h), fun h => hF.out.f8 (by simpa using h), fun h => hF.out.f9 (by simpa using h), fun _ => rfl, fun h => hF.out.f11 (by simpa using h), fun h => hF.out.f12 (by simpa using h), fun h => hF.out.f13 (by simpa using h), fun h => hF.out.f14 (by simpa using h), fun i hi h => by have := hF.out.ol i hi (by simpa using h); simp [this], fun h => by have := hF.out.cF (by simpa using h); simpa using this, fun h => hF.out.sm (by simpa using h), fun h => hF.out.fin (by simpa using h)⟩
        · intro d a W hI hd hdep
          obtain ⟨x22, x23, x24, x25, x26, x27, x28, x29, x30, x31, x32, x33, x34, x35, rfl, hF⟩ := hI
          have hd4 : d 4 = true := dep_of hdep 4 (by kernel_rfl)
          have hd10 : d 10 = true := dep_of hdep 10 (by kernel_rfl)
          obtain rfl := hF.out.f4 hd4
          obtain rfl := hF.out.f10 hd10
          have hs0 : (0 : Int) ≤ (r.length : Int) := by omega
          have hs1 : (r.length : Int) ≤ (tc : Int) := by have := HCAP.out; omega
          clear hdep hd hd4 hd10
          intro K hK
          simp only [Act.put, List.setIfInBounds_toArray, List.set_cons_zero, List.set_cons_succ]
          go_simp
          refine hK.out _ _ ⟨x22, x23, x24, x25, (.slice (some ⟨k0, 0, none⟩) (r.length + 1) tc), x27, x28, x29, x30, x31, (.int .i64 (r.length : Int)), (.slice (some ⟨k0, 0, none⟩) r.length tc), x34, x35, by first | (simp only [Act.put, List.setIfInBounds_toArray, List.set_cons_zero, List.set_cons_succ]; done) | (simp only [Act.put, List.setIfInBounds_toArray, List.set_cons_zero, List.set_cons_succ]; rfl), ?_⟩
          exact ⟨fun h => hF.out.f0 (by simpa using h), fun h => hF.out.f1 (by simpa using h), fun h => hF.out.f2 (by simpa using h), fun h => hF.out.f3 (by simpa using h), fun h => hF.out.f4 (by simpa using h), fun h => hF.out.f5 (by simpa using h), fun h => hF.out.f6 (by simpa using h), fun h => hF.out.f7 (by simpa using h), fun h => hF.out.f8 (by simpa using h), fun h => hF.out.f9 (by simpa using h), fun h => hF.out.f10 (by simpa using h), fun _ => rfl, fun h => hF.out.f12 (by simpa using h), fun h => hF.out.f13 (by simpa using h), fun h => hF.out.f14 (by simpa using h), fun i hi h => by have := hF.out.ol i hi (by simpa using h); simp [this], fun h => by have := hF.out.cF (by simpa using h); simpa using this, fun h => hF.out.sm (by simpa using h), fun h => hF.out.fin (by simpa using h)⟩
        · intro d a W hI hd hdep
          obtain ⟨x22, x23, x24, x25, x26, x27, x28, x29, x30, x31, x32, x33, x34, x35, rfl, hF⟩ := hI
          have hd0 : d 0 = true := dep_of hdep 0 (by kernel_rfl)
          obtain rfl := hF.out.f0 hd0
          clear hdep hd hd0
          intro K hK
          simp only [Act.put, List.setIfInBounds_toArray, List.set_cons_zero, List.set_cons_succ]
          go_simp
          refine hK.out _ _ ⟨(.pointer (some ⟨g, 0, none⟩)), x23, x24, x25, x26, x27, x28, x29, x30, x31, x32, x33, (.pointer (some ⟨g, 0, none⟩)), x35, by first | (simp only [Act.put, List.setIfInBounds_toArray, List.set_cons_zero, List.set_cons_succ]; done) | (simp only [Act.put, List.setIfInBounds_toArray, List.set_cons_zero, List.set_cons_succ]; rfl), ?_⟩
          exact ⟨fun h => hF.out.f0 (by simpa using h), fun h => hF.out.f1 (by simpa using h), fun h => hF.out.f2 (by simpa using h), fun h => hF.out.f3 (by simpa using h), fun h => hF.out.f4 (by simpa using h), fun h => hF.out.f5 (by simpa using h), fun h => hF.out.f6 (by simpa using h), fun h => hF.out.f7 (by simpa using h), fun h => hF.out.f8 (by simpa using h), fun h => hF.out.f9 (by simpa using h), fun h => hF.out.f10 (by simpa using h), fun h => hF.out.f11 (by simpa using h), fun _ => rfl, fun h => hF.out.f13 (by simpa using h), fun h => hF.out.f14 (by simpa using h), fun i hi h => by have := hF.out.ol i hi (by simpa using h); simp [this], fun _ => by simp, fun h => hF.out.sm (by simpa using h), fun h => hF.out.fin (by simpa using h)⟩
        · intro d a W hI hd hdep
          obtain ⟨x22, x23, x24, x25, x26, x27, x28, x29, x30, x31, x32, x33, x34, x35, rfl, hF⟩ := hI
          have hd12 : d 12 = true := dep_of hdep 12 (by kernel_rfl)
          obtain rfl := hF.out.f12 hd12
          have HD12 : Hid (d 12 = true) := hd12
          clear hdep hd hd12
          intro K hK
          simp only [Act.put, List.setIfInBounds_toArray, List.set_cons_zero, List.set_cons_succ]
          go_simp
          refine hK.out _ _ ⟨x22, x23, x24, x25, x26, x27, x28, x29, x30, x31, x32, x33, (.pointer (some ⟨g, 0, none⟩)), (.pointer (some ⟨g, 5, none⟩)), by first | (simp only [Act.put, List.setIfInBounds_toArray, List.set_cons_zero, List.set_cons_succ]; done) | (simp only [Act.put, List.setIfInBounds_toArray, List.set_cons_zero, List.set_cons_succ]; rfl), ?_⟩
          exact ⟨fun h => hF.out.f0 (by simpa using h), fun h => hF.out.f1 (by simpa using h), fun h => hF.out.f2 (by simpa using h), fun h => hF.out.f3 (by simpa using h), fun h => hF.out.f4 (by simpa using h), fun h => hF.out.f5 (by simpa using h), fun h => hF.out.f6 (by simpa using h), fun h => hF.out.f7 (by simpa using h), fun h => hF.out.f8 (by simpa using h), fun h => hF.out.f9 (by simpa using h), fun h => hF.out.f10 (by simpa using h), fun h => hF.out.f11 (by simpa using h), fun h => hF.out.f12 (by simpa using h), fun _ => rfl, fun h => hF.out.f14 (by simpa using h), fun i hi h => by have := hF.out.ol i hi (by simpa using h); simp [this], fun _ => by simpa using HD12.out, fun h => hF.out.sm (by simpa using h), fun h => hF.out.fin (by simpa using h)⟩
        · intro d a W hI hd hdep
          obtain ⟨x22, x23, x24, x25, x26, x27, x28, x29, x30, x31, x32, x33, x34, x35, rfl, hF⟩ := hI
          have hd0 : d 0 = true := dep_of hdep 0 (by kernel_rfl)
          have hd1 : d 1 = true := dep_of hdep 1 (by kernel_rfl)
          have hd2 : d 2 = true := dep_of hdep 2 (by kernel_rfl)
          have hd3 : d 3 = true := dep_of hdep 3 (by kernel_rfl)
          have hd4 : d 4 = true := dep_of hdep 4 (by kernel_rfl)
          have hd5 : d 5 = true := dep_of hdep 5 (by kernel_rfl)
          have hd6 : d 6 = true := dep_of hdep 6 (by kernel_rfl)
          have hd7 : d 7 = true := dep_of hdep 7 (by kernel_rfl)
          have hd8 : d 8 = true := dep_of hdep 8 (by kernel_rfl)
          have hd9 : d 9 = true := dep_of hdep 9 (by kernel_rfl)
          have hd10 : d 10 = true := dep_of hdep 10 (by kernel_rfl)
          have hd11 : d 11 = true := dep_of hdep 11 (by kernel_rfl)
          have hd13 : d 13 = true := dep_of hdep 13 (by kernel_rfl)
          obtain rfl := hF.out.f0 hd0
          obtain rfl := hF.out.f1 hd1
          obtain rfl := hF.out.f2 hd2
          obtain rfl := hF.out.f3 hd3
          obtain rfl := hF.out.f4 hd4
          obtain rfl := hF.out.f5 hd5
          obtain rfl := hF.out.f6 hd6
          obtain rfl := hF.out.f7 hd7
          obtain rfl := hF.out.f8 hd8
          obtain rfl := hF.out.f9 hd9
          obtain rfl := hF.out.f10 hd10
          obtain rfl := hF.out.f11 hd11
          obtain rfl := hF.out.f13 hd13
          have hd12 : d 12 = true := hF.out.cF hd13
          obtain rfl := hF.out.f12 hd12
          have HD : Hid (∀ i, i < 14 → d i = true) := fun i hi => by
            have : i = 0 ∨ i = 1 ∨ i = 2 ∨ i = 3 ∨ i = 4 ∨ i = 5 ∨ i = 6 ∨ i = 7 ∨ i = 8 ∨ i = 9 ∨ i = 10 ∨ i = 11 ∨ i = 12 ∨ i = 13 := by omega
            rcases this with rfl | rfl | rfl | rfl | rfl | rfl | rfl | rfl | rfl | rfl | rfl | rfl | rfl | rfl <;> assumption
          have HSM := hF.out.sm hd
          have ya : W.cell? ⟨g, 5, none⟩ = some (.slice (some ⟨k0, 0, none⟩) (r.length + 1) tc) := (HSM.cell _).trans HC5.out
          have yb : W.frozen? ⟨g, 5, none⟩ = false := (HSM.frozen _).trans (tfrozen_blk HBQ5.out 5)
          clear hdep hd hd0 hd1 hd2 hd3 hd4 hd5 hd6 hd7 hd8 hd9 hd10 hd11 hd13
          intro K hK
          simp only [Act.put, List.setIfInBounds_toArray, List.set_cons_zero, List.set_cons_succ]
          go_simp
          refine hK.out _ _ ⟨(.pointer (some ⟨g, 0, none⟩)), (.pointer (some ⟨g, 0, none⟩)), (.pointer (some ⟨g, 0, none⟩)), (.pointer (some ⟨g, 5, none⟩)), (.slice (some ⟨k0, 0, none⟩) (r.length + 1) tc), (.pointer (some ⟨g, 0, none⟩)), (.pointer (some ⟨g, 0, none⟩)), (.pointer (some ⟨g, 5, none⟩)), (.slice (some ⟨k0, 0, none⟩) (r.length + 1) tc), (.int .i64 ((r.length : Int) + 1)), (.int .i64 (r.length : Int)), (.slice (some ⟨k0, 0, none⟩) r.length tc), (.pointer (some ⟨g, 0, none⟩)), (.pointer (some ⟨g, 5, none⟩)), by first | (simp only [Act.put, List.setIfInBounds_toArray, List.set_cons_zero, List.set_cons_succ]; done) | (simp only [Act.put, List.setIfInBounds_toArray, List.set_cons_zero, List.set_cons_succ]; rfl), ?_⟩
          exact ⟨fun h => hF.out.f0 (by simpa using h), fun h => hF.out.f1 (by simpa using h), fun h => hF.out.f2 (by simpa using h), fun h => hF.out.f3 (by simpa using h), fun h => hF.out.f4 (by simpa using h), fun h => hF.out.f5 (by simpa using h), fun h => hF.out.f6 (by simpa using h), fun h => hF.out.f7 (by simpa using h), fun h => hF.out.f8 (by simpa using h), fun h => hF.out.f9 (by simpa using h), fun h => hF.out.f10 (by simpa using h), fun h => hF.out.f11 (by simpa using h), fun h => hF.out.f12 (by simpa using h), fun h => hF.out.f13 (by simpa using h), fun _ => trivial, fun i hi _ => by have := HD.out i hi; simp [this], fun h => by have := hF.out.cF (by simpa using h); simpa using this, fun h => by simp at h, fun _ => ⟨W, HSM, rfl⟩⟩
      · intro d a W hI hall
        obtain ⟨x22, x23, x24, x25, x26, x27, x28, x29, x30, x31, x32, x33, x34, x35, rfl, hF⟩ := hI
        simp only [List.length_cons, List.length_nil] at hall
        obtain rfl := hF.out.f0 (hall 0 (by omega))
        obtain rfl := hF.out.f1 (hall 1 (by omega))
        obtain rfl := hF.out.f2 (hall 2 (by omega))
        obtain rfl := hF.out.f3 (hall 3 (by omega))
        obtain rfl := hF.out.f4 (hall 4 (by omega))
        obtain rfl := hF.out.f5 (hall 5 (by omega))
        obtain rfl := hF.out.f6 (hall 6 (by omega))
        obtain rfl := hF.out.f7 (hall 7 (by omega))
        obtain rfl := hF.out.f8 (hall 8 (by omega))
        obtain rfl := hF.out.f9 (hall 9 (by omega))
        obtain rfl := hF.out.f10 (hall 10 (by omega))
        obtain rfl := hF.out.f11 (hall 11 (by omega))
        obtain rfl := hF.out.f12 (hall 12 (by omega))
        obtain rfl := hF.out.f13 (hall 13 (by omega))
        obtain ⟨V, v1, rfl⟩ := hF.out.fin (hall 14 (by omega))
        have HB5 : Hid (Below w4.heap.size w4 V) := v1.below _
        have HW5 : Hid (Wb w0 g t (n : Int) pv rv (col : Int) sn (some ⟨k0, 0, none⟩) r.length tc (some ⟨gr, 0, none⟩) (vn + 1) cr r (ev ++ [(s0, s1)]) (V.setCell ⟨g, 5, none⟩ (.slice (some ⟨k0, 0, none⟩) r.length tc)) ∧ (V.setCell ⟨g, 5, none⟩ (.slice (some ⟨k0, 0, none⟩) r.length tc)).heap[eb]? = some (.cells #[.int .i64 s0, .int .i64 s1] 66)) :=
          ⟨(HW4.out.1.next HB5.out).pop, (Below.heap_setCell _ _ _ _ (by have := HNG.out; simpa using this)).trans (tbox_next HW4.out.2 HB5.out)⟩
        clear hF hall v1 HB5 HC5 HBQ5 HW4 HL4
        simp only [Act.put, List.setIfInBounds_toArray, List.set_cons_zero, List.set_cons_succ]
        generalize V.setCell ⟨g, 5, none⟩ (.slice (some ⟨k0, 0, none⟩) r.length tc) = w5 at HW5 ⊢
        have e0 := tcell_blk HW5.out.2 0
        have e1 := tcell_blk HW5.out.2 1
        simp only [List.getElem?_toArray, List.getElem?_cons_zero, List.getElem?_cons_succ] at e0 e1
        have hk := HKK.out
        rcases hk with rfl | rfl | ⟨rfl, z, rfl, hz⟩
        · have HTDE : Hid (nxT ps (y :: r) (3, s1) = r) := by show _ = _; simp [nxT]
          have HSNE : Hid (nxS sn (3, s1) = sn) := by show _ = _; simp [nxS]
          go_upto_region 11 with fail
          clear e0 e1
          obtain ⟨hl1, hl2⟩ := HW5.out.1.lens
          have q5 := tcell_blk HW5.out.1.blk 5
          have q7 := tcell_blk HW5.out.1.blk 7
          simp only [List.getElem?_toArray, List.getElem?_cons_zero, List.getElem?_cons_succ] at q5 q7
          obtain ⟨lt, HLT⟩ : ∃ lt, Hid (lt = (r).length) := ⟨_, rfl⟩
          have HLE : Hid (vn + 1 = ev.length + 1) := by show _ = _; have := HVN.out; omega
          by_cases hb1 : lt ≤ 60
          · have hc1 : (lt : Int) ≤ 60 := by omega
            by_cases hb2 : vn + 1 ≤ 2000
            · have hc2 : ((vn : Int) + 1) ≤ 2000 := by omega
              have HFIN : Hid (ActP w0 g t n pv rv col sn ps (rwF rows col) (y :: r) ev (.returned (.int .i64 0)) w5) := ⟨0, rfl, HW5.out.1.bel, Or.inr ⟨(3, s1), HX.out, Or.inr ⟨rfl, by have h1 := HLT.out; have h2 := HLE.out; have h3 := HTDE.out; rw [h3, ← h1]; omega, _, _, _, _, _, _, by rw [HTDE.out, HSNE.out]; exact HW5.out.1⟩⟩⟩
              rw [hl1, ← HLT.out] at q5
              clear hl1 hl2
              go_wp2_with fail
              go_ret
              exact HFIN.out
            · have hc2 : ¬ ((vn : Int) + 1) ≤ 2000 := by omega
              have HFIN : Hid (ActP w0 g t n pv rv col sn ps (rwF rows col) (y :: r) ev (.returned (.int .i64 14)) w5) := ⟨14, rfl, HW5.out.1.bel, Or.inr ⟨(3, s1), HX.out, Or.inl ⟨rfl, Or.inr (by have := HLE.out; omega)⟩⟩⟩
              rw [hl1, ← HLT.out] at q5
              clear hl1 hl2
              go_wp2_with fail
              go_ret
              exact HFIN.out
          · have hc1 : ¬ (lt : Int) ≤ 60 := by omega
            have HFIN : Hid (ActP w0 g t n pv rv col sn ps (rwF rows col) (y :: r) ev (.returned (.int .i64 14)) w5) := ⟨14, rfl, HW5.out.1.bel, Or.inr ⟨(3, s1), HX.out, Or.inl ⟨rfl, Or.inl (by have h1 := HLT.out; rw [HTDE.out, ← h1]; omega)⟩⟩⟩
            rw [hl1, ← HLT.out] at q5
            clear hl1 hl2
            go_wp2_with fail
            go_ret
            exact HFIN.out
        · have HTDE : Hid (nxT ps (y :: r) (2, s1) = r) := by show _ = _; simp [nxT]
          have HSNE : Hid (nxS sn (2, s1) = sn + 1) := by show _ = _; simp [nxS]
          have q6 := tcell_blk HW5.out.1.blk 6
          have f6 := tfrozen_blk HW5.out.1.blk 6
          simp only [List.getElem?_toArray, List.getElem?_cons_zero, List.getElem?_cons_succ] at q6
          have hwr : IntKind.i64.wrap (sn + 1) = sn + 1 := by have := HSN.out; simp [IntKind.wrap, IntKind.bits, IntKind.signed]; omega
          have HW6 : Hid _ := HW5.out.1.seen (sn + 1)
          have hs1 : -9223372036854775808 ≤ sn + 1 := by have := HSN.out; omega
          have hs2 : sn + 1 ≤ 9223372036854775807 := by have := HSN.out; omega
          go_upto_region 11 with fail
          first | rw [hwr] | skip
          generalize w5.setCell ⟨g, 6, none⟩ (.int .i64 (sn + 1)) = w6 at HW6 ⊢
          clear e0 e1 q6 f6 hwr hs1 hs2 HW5
          obtain ⟨hl1, hl2⟩ := HW6.out.lens
          have q5 := tcell_blk HW6.out.blk 5
          have q7 := tcell_blk HW6.out.blk 7
          simp only [List.getElem?_toArray, List.getElem?_cons_zero, List.getElem?_cons_succ] at q5 q7
          obtain ⟨lt, HLT⟩ : ∃ lt, Hid (lt = (r).length) := ⟨_, rfl⟩
          have HLE : Hid (vn + 1 = ev.length + 1) := by show _ = _; have := HVN.out; omega
          by_cases hb1 : lt ≤ 60
          · have hc1 : (lt : Int) ≤ 60 := by omega
            by_cases hb2 : vn + 1 ≤ 2000
            · have hc2 : ((vn : Int) + 1) ≤ 2000 := by omega
              have HFIN : Hid (ActP w0 g t n pv rv col sn ps (rwF rows col) (y :: r) ev (.returned (.int .i64 0)) w6) := ⟨0, rfl, HW6.out.bel, Or.inr ⟨(2, s1), HX.out, Or.inr ⟨rfl, by have h1 := HLT.out; have h2 := HLE.out; have h3 := HTDE.out; rw [h3, ← h1]; omega, _, _, _, _, _, _, by rw [HTDE.out, HSNE.out]; exact HW6.out⟩⟩⟩
              rw [hl1, ← HLT.out] at q5
              clear hl1 hl2
              go_wp2_with fail
              go_ret
              exact HFIN.out
            · have hc2 : ¬ ((vn : Int) + 1) ≤ 2000 := by omega
              have HFIN : Hid (ActP w0 g t n pv rv col sn ps (rwF rows col) (y :: r) ev (.returned (.int .i64 14)) w6) := ⟨14, rfl, HW6.out.bel, Or.inr ⟨(2, s1), HX.out, Or.inl ⟨rfl, Or.inr (by have := HLE.out; omega)⟩⟩⟩
              rw [hl1, ← HLT.out] at q5
              clear hl1 hl2
              go_wp2_with fail
              go_ret
              exact HFIN.out
          · have hc1 : ¬ (lt : Int) ≤ 60 := by omega
            have HFIN : Hid (ActP w0 g t n pv rv col sn ps (rwF rows col) (y :: r) ev (.returned (.int .i64 14)) w6) := ⟨14, rfl, HW6.out.bel, Or.inr ⟨(2, s1), HX.out, Or.inl ⟨rfl, Or.inl (by have h1 := HLT.out; rw [HTDE.out, ← h1]; omega)⟩⟩⟩
            rw [hl1, ← HLT.out] at q5
            clear hl1 hl2
            go_wp2_with fail
            go_ret
            exact HFIN.out
        · have HBD : Hid (bodyOf ps (z : Int) = (ps[z]'hz).2) := (bodyOf_nat hz).1
          have HTDE : Hid (nxT ps (y :: r) (1, (z : Int)) = (ps[z]'hz).2.map symT ++ endT (z : Int) :: r) := by show _ = _; simp [nxT, HBD.out]
          have HSNE : Hid (nxS sn (1, (z : Int)) = sn) := by show _ = _; simp [nxS]
          have hcall := open_any w0 g t (n : Int) pv ps rv (col : Int) sn _ _ _ _ _ _ r _ w5 HW5.out.1 HPS.out z hz (HBL.out z hz) (by have := HRL.out; omega)
          go_wp2_with fail
          refine hcall.mono ?_
          rintro _ w6 ⟨rfl, ua, un, uc, hw6⟩
          have HW6 : Hid _ := hw6
          clear hcall hw6 e0 e1 HW5
          go_upto_region 11 with fail
          obtain ⟨hl1, hl2⟩ := HW6.out.lens
          have q5 := tcell_blk HW6.out.blk 5
          have q7 := tcell_blk HW6.out.blk 7
          simp only [List.getElem?_toArray, List.getElem?_cons_zero, List.getElem?_cons_succ] at q5 q7
          obtain ⟨lt, HLT⟩ : ∃ lt, Hid (lt = ((ps[z]'hz).2.map symT ++ endT (z : Int) :: r).length) := ⟨_, rfl⟩
          have HLE : Hid (vn + 1 = ev.length + 1) := by show _ = _; have := HVN.out; omega
          by_cases hb1 : lt ≤ 60
          · have hc1 : (lt : Int) ≤ 60 := by omega
            by_cases hb2 : vn + 1 ≤ 2000
            · have hc2 : ((vn : Int) + 1) ≤ 2000 := by omega
              have HFIN : Hid (ActP w0 g t n pv rv col sn ps (rwF rows col) (y :: r) ev (.returned (.int .i64 0)) w6) := ⟨0, rfl, HW6.out.bel, Or.inr ⟨(1, (z : Int)), HX.out, Or.inr ⟨rfl, by have h1 := HLT.out; have h2 := HLE.out; have h3 := HTDE.out; rw [h3, ← h1]; omega, _, _, _, _, _, _, by rw [HTDE.out, HSNE.out]; exact HW6.out⟩⟩⟩
              rw [hl1, ← HLT.out] at q5
              clear hl1 hl2
              go_wp2_with fail
              go_ret
              exact HFIN.out
            · have hc2 : ¬ ((vn : Int) + 1) ≤ 2000 := by omega
              have HFIN : Hid (ActP w0 g t n pv rv col sn ps (rwF rows col) (y :: r) ev (.returned (.int .i64 14)) w6) := ⟨14, rfl, HW6.out.bel, Or.inr ⟨(1, (z : Int)), HX.out, Or.inl ⟨rfl, Or.inr (by have := HLE.out; omega)⟩⟩⟩
              rw [hl1, ← HLT.out] at q5
              clear hl1 hl2
              go_wp2_with fail
              go_ret
              exact HFIN.out
          · have hc1 : ¬ (lt : Int) ≤ 60 := by omega
            have HFIN : Hid (ActP w0 g t n pv rv col sn ps (rwF rows col) (y :: r) ev (.returned (.int .i64 14)) w6) := ⟨14, rfl, HW6.out.bel, Or.inr ⟨(1, (z : Int)), HX.out, Or.inl ⟨rfl, Or.inl (by have h1 := HLT.out; rw [HTDE.out, ← h1]; omega)⟩⟩⟩
            rw [hl1, ← HLT.out] at q5
            clear hl1 hl2
            go_wp2_with fail
            go_ret
            exact HFIN.out
end Go.Proofs.Ytpfehghicaaghaa
