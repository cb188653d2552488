/-
  The contract of (*way).open: what a production is made of is ahead.
-/
import Derived.Test.YtpfehghicaaghaaClNext
namespace Go.Proofs.Ytpfehghicaaghaa
open Go.RowKit
open Cg

structure ROp (wr : World) (B g vn vc b2 o2 bl bc j : Nat) (va : Option Addr) (s0 s1 : Int) (xs : List Value) (gb2 : Nat) (gr : Nat) (cr : Nat) (d : Nat → Bool) (x33 x34 x35 x36 x37 x38 x39 x40 x41 x42 x43 x44 x45 x46 : Value) (W : World) : Prop where
  f0 : d 0 = true → x33 = (.pointer (some ⟨g, 0, none⟩))
  f1 : d 1 = true → x34 = (.pointer (some ⟨g, 0, none⟩))
  f2 : d 2 = true → x35 = (.pointer (some ⟨g, 0, none⟩))
  f3 : d 3 = true → x36 = (.pointer (some ⟨g, 5, none⟩))
  f4 : d 4 = true → x37 = (.slice va vn vc)
  f5 : d 5 = true → x38 = (.slice (some ⟨b2, o2, none⟩) bl bc)
  f6 : d 6 = true → x39 = (.int .i64 (j : Int))
  f7 : d 7 = true → x40 = (.pointer (some ⟨b2, o2 + j * 2, none⟩))
  f8 : d 8 = true → x41 = (.agg #[.int .i64 s0, .int .i64 s1])
  f9 : d 9 = true → x42 = (.agg #[.bool false, .int .i64 0, .int .i64 s0, .int .i64 s1])
  f10 : d 10 = true → x43 = (.slice (some ⟨gb2, 0, none⟩) 1 1)
  f11 : d 11 = true → x44 = (.slice (some ⟨gr, 0, none⟩) (vn + 1) cr)
  f12 : d 12 = true → x45 = (.pointer (some ⟨g, 0, none⟩))
  f13 : d 13 = true → x46 = (.pointer (some ⟨g, 5, none⟩))
  f14 : d 14 = true → True
  ol : ∀ i, i < 14 → d 14 = true → d i = true
  cA : d 11 = true → d 10 = true
  cF : d 13 = true → d 12 = true
  kp : d 14 = false → wr.grownBy W (Value.ownBlock (.slice va vn vc))
  r0 : d 11 = false → W.ownsRow B 49 4 (.slice va vn vc) vn xs
  b0 : d 10 = true → d 11 = false → W.heap[gb2]? = some (.cells #[.bool false, .int .i64 0, .int .i64 s0, .int .i64 s1] 49)
  r1 : d 11 = true → d 14 = false → W.ownsRow B 49 4 (.slice (some ⟨gr, 0, none⟩) (vn + 1) cr) (vn + 1) (xs ++ [.bool false, .int .i64 0, .int .i64 s0, .int .i64 s1])
  fin : d 14 = true → ∃ V, wr.grownBy V (Value.ownBlock (.slice va vn vc)) ∧ V.ownsRow B 49 4 (.slice (some ⟨gr, 0, none⟩) (vn + 1) cr) (vn + 1) (xs ++ [.bool false, .int .i64 0, .int .i64 s0, .int .i64 s1]) ∧ W = V.setCell ⟨g, 5, none⟩ (.slice (some ⟨gr, 0, none⟩) (vn + 1) cr)

set_option maxHeartbeats 6400000 in
set_option maxRecDepth 20000 in
theorem open_any (w0 : World) (g : Nat) (t n : Int) (pv : Value) (ps : List Pd) (rv : Value) (col sn : Int) (ta : Option Addr) (tn tc : Nat) (ea : Option Addr) (en ec : Nat) (td : List Td) (ev : List Ev) (w : World) (h : Wb w0 g t n pv rv col sn ta tn tc ea en ec td ev w)
    (hp : Pds w0 pv ps) (z : Nat) (hz : z < ps.length) (hbl : (ps[z]'hz).2.length ≤ 8) (hlen : td.length ≤ 60) :
    Calls Try.prog 97 #[.pointer (some ⟨g, 0, none⟩), .int .i64 (z : Int)] w fun e w' => e = .returned (.tuple #[]) ∧ ∃ ta tn tc, Wb w0 g t n pv rv col sn ta tn tc ea en ec (((ps[z]'hz).2).map symT ++ endT (z : Int) :: td) ev w' := by
  have HPS : Hid (Pds w0 pv ps) := hp
  obtain ⟨po, pc, rfl, hpm, hcs⟩ := hp
  obtain ⟨b, o, rfl, hb, hc⟩ := hcs.resolve_left (by intro e; subst e; simp at hz)
  obtain ⟨-, u, hu0, hu1⟩ := hc z hz
  obtain ⟨bd, HBD⟩ : ∃ bd, Hid ((ps[z]'hz).2 = bd) := ⟨_, (rfl : (ps[z]'hz).2 = _)⟩
  rw [HBD.out] at hu1 hbl ⊢
  have HBO : Hid (b < w0.heap.size ∧ w0.cell? ⟨b, o + z * 2 + 1, none⟩ = some u ∧ Syms w0 u bd) := ⟨hb, hu0, hu1⟩
  have HLEN : Hid (td.length ≤ 60 ∧ bd.length ≤ 8) := ⟨hlen, hbl⟩
  have HZ : Hid (z < ps.length) := hz
  clear hcs hc hu0 hu1 hb HBD hlen hbl hz
  obtain ⟨rfl, HEN⟩ := h.lens
  obtain ⟨i1, hi1, hy0, hy1, hy2⟩ := info_parts info49
  have HW : Hid _ := h
  obtain ⟨tl, HTL⟩ : ∃ tl, Hid (td.length = tl) := ⟨_, (rfl : td.length = _)⟩
  have hown := h.tq
  have hne := h.neT
  have q5 := tcell_blk h.blk 5
  simp only [List.getElem?_toArray, List.getElem?_cons_zero, List.getElem?_cons_succ] at q5
  have HWA : Hid _ := h.next (below_alloc w (Obj.cells #[.bool true, .int .i64 (z : Int), .int .i64 0, .int .i64 0] 49))
  have HSZ : Hid (w0.heap.size ≤ w.heap.size) := h.bel.size
  rw [HTL.out] at hown hne q5 HLEN
  clear h
  go_enter Try.func97, Try.ntmps97
  go_wp2_with (at_builtin; refine wpList_append_lies _ rfl _ _ 41 rfl w0.heap.size 49 i1 (.agg #[.bool false, .int .i64 0, .int .i64 0, .int .i64 0]) 4 32 Try.underlying41 hi1 hy0 hy1 hy2 rfl (by decide) _ _ _ rfl (hown.alloc _) ⟨w.heap.size, 0, none⟩ 1 1 [.bool true, .int .i64 (z : Int), .int .i64 0, .int .i64 0] rfl rfl (World.news_of_block (t := 49) (fr := (0, 0)) (heap_alloc_new w _)) (by simp [Value.oneCell']) (by omega) (by unfold maxLen; have := HLEN.out; omega) (by have := HLEN.out; omega) (by have := HSZ.out; simp; omega) _ rfl ?_)
  intro gr cr V hown' hgrow hor hlt
  have hgb : V.heap[g]? = _ := (hgrow.block g (heap_lt3 HWA.out.blk) hne).trans HWA.out.blk
  have qa := tcell_blk hgb 5
  have qf := tfrozen_blk hgb 5
  simp only [List.getElem?_toArray, List.getElem?_cons_zero, List.getElem?_cons_succ] at qa
  have HW1 : Hid (Wb w0 g t n (.slice (some ⟨b, o, none⟩) ps.length pc) rv col sn (some ⟨gr, 0, none⟩) (tl + 1) cr ea en ec (endT (z : Int) :: td) ev (V.setCell ⟨g, 5, none⟩ (.slice (some ⟨gr, 0, none⟩) (tl + 1) cr))) := by
    have := HWA.out.pushT (x := endT (z : Int)) (V := V) (ra := some ⟨gr, 0, none⟩) (rn := tl + 1) (rc := cr) (by rw [HTL.out]; exact hgrow) (by rw [HTL.out]; exact hown')
    exact this
  clear hgb hown' hgrow hor hlt hown HWA HW q5 hne
  go_upto_region 1 with fail
  obtain ⟨w2, HW2⟩ : ∃ w2, Hid ((V.setCell ⟨g, 5, none⟩ (.slice (some ⟨gr, 0, none⟩) (tl + 1) cr)) = w2) := ⟨_, (rfl : (V.setCell ⟨g, 5, none⟩ (.slice (some ⟨gr, 0, none⟩) (tl + 1) cr)) = _)⟩
  rw [HW2.out] at HW1 ⊢
  clear HW2 qa qf
  have q2 := tcell_blk HW1.out.blk 2
  simp only [List.getElem?_toArray, List.getElem?_cons_zero, List.getElem?_cons_succ] at q2
  have q3 : w2.cell? ⟨b, o + z * 2 + 1, none⟩ = some u := (HW1.out.bel.cell (p := ⟨b, o + z * 2 + 1, none⟩) HBO.out.1).trans HBO.out.2.1
  obtain ⟨uo, uc, rfl, hul, huc⟩ := HBO.out.2.2
  have hz0 : (0 : Int) ≤ (z : Int) := by omega
  have hz1 : (z : Int) < (ps.length : Int) := by have := HZ.out; omega
  have hbl8 : bd.length ≤ 8 := HLEN.out.2
  go_upto_region 2 with fail
  clear q2 q3
  go_wp2_with fail
  clear hz0 hz1
  obtain ⟨LE, HLE⟩ : ∃ LE, Hid (LE = endT (z : Int) :: td) := ⟨_, (rfl : endT (z : Int) :: td = _)⟩
  rw [← HLE.out] at HW1
  go_loopw [5] (fun x wr => ∃ (j : Nat) (i : Int) (va : Option Addr) (vn vc : Nat), j ≤ bd.length ∧ x = .int .i64 i ∧ Hid (i = (j : Int) - 1) ∧ Hid (Wb w0 g t n (.slice (some ⟨b, o, none⟩) ps.length pc) rv col sn va vn vc ea en ec ((bd.drop j).map symT ++ LE) ev wr)) (fun x _ => (intOf x + 1).toNat)
  case atStart =>
    refine ⟨bd.length, (bd.length : Int) - 1, some ⟨gr, 0, none⟩, tl + 1, cr, Nat.le_refl _, by first | rfl | (simp; done) | go_num, (rfl : _ = _), ?_⟩
    · rw [List.drop_length]; exact HW1
  case round =>
    obtain ⟨j', i, va, vn, vc, hj, rfl, HIJ, HI⟩ := hrel
    clear HW1
    by_cases hj0 : j' = 0
    · subst hj0
      obtain rfl : i = -1 := by have := HIJ.out; omega
      clear HIJ
      have HI2 : Hid (Wb w0 g t n (.slice (some ⟨b, o, none⟩) ps.length pc) rv col sn va vn vc ea en ec (bd.map symT ++ endT (z : Int) :: td) ev wr) := by
        have := HI.out; rw [List.drop_zero, HLE.out] at this; exact this
      clear HI
      go_wp2_with fail
      exact bodyPost_end (v := .tuple #[]) (by simp [results, Try.results97, go_sem]) rfl ⟨rfl, _, _, _, HI2.out⟩
    · obtain ⟨j, rfl⟩ : ∃ j, j' = j + 1 := ⟨j' - 1, by omega⟩
      have hjl : j < bd.length := by omega
      obtain rfl : i = (j : Int) := by have := HIJ.out; omega
      clear HIJ
      obtain ⟨b2, o2, rfl, hb2, hc2⟩ := huc.resolve_left (by intro e; subst e; simp at hjl)
      have HCW := hc2 j hjl
      have HDR : Hid ((bd.drop j).map symT ++ LE = symT bd[j] :: ((bd.drop (j + 1)).map symT ++ LE)) := by
        show _ = _
        rw [List.drop_eq_getElem_cons hjl, List.map_cons, List.cons_append]
      rcases hs : bd[j] with ⟨s0, s1⟩
      rw [hs] at HDR HCW
      simp only at HCW
      obtain ⟨tdj, HTJ⟩ : ∃ tdj, Hid ((bd.drop (j + 1)).map symT ++ LE = tdj) := ⟨_, (rfl : (bd.drop (j + 1)).map symT ++ LE = _)⟩
      have HTJL : Hid (tdj.length ≤ 68) := by
        show _ ≤ _
        rw [← HTJ.out, HLE.out]
        have := HLEN.out
        have := HTL.out
        simp; omega
      rw [HTJ.out] at HI HDR
      have HJ : Hid ((j : Int) < (bd.length : Int)) := by show (j : Int) < (bd.length : Int); omega
      have HWR : Hid _ := HI.out
      obtain ⟨hvn, -⟩ := HI.out.lens
      subst hvn
      have HLQ : Hid (g < wr.heap.size ∧ some g ≠ Value.ownBlock (.slice va tdj.length vc)) := ⟨heap_lt3 HI.out.blk, HI.out.neT⟩
      have HLB : Hid (b2 < wr.heap.size ∧ some b2 ≠ Value.ownBlock (.slice va tdj.length vc)) := ⟨Nat.lt_of_lt_of_le hb2 HI.out.bel.size, fun e => by have := own_ge HI.out.tq b2 e.symm; omega⟩
      have q5 := tcell_blk HI.out.blk 5
      simp only [List.getElem?_toArray, List.getElem?_cons_zero, List.getElem?_cons_succ] at q5
      have HC5 : Hid (wr.cell? ⟨g, 5, none⟩ = some (.slice va tdj.length vc)) := q5
      have HBQ : Hid _ := HI.out.blk
      have HOWN : Hid _ := HI.out.tq
      have HCS : Hid (wr.cell? ⟨b2, o2 + j * 2, none⟩ = some (.int .i64 s0) ∧ wr.cell? ⟨b2, o2 + j * 2 + 1, none⟩ = some (.int .i64 s1)) := ⟨(HI.out.bel.cell (p := ⟨b2, o2 + j * 2, none⟩) hb2).trans HCW.1, (HI.out.bel.cell (p := ⟨b2, o2 + j * 2 + 1, none⟩) hb2).trans HCW.2⟩
      obtain ⟨vn, HVN⟩ : ∃ vn, Hid (tdj.length = vn) := ⟨_, (rfl : tdj.length = _)⟩
      obtain ⟨xs, HXS⟩ : ∃ xs, Hid (tcd tdj.reverse = xs) := ⟨_, (rfl : tcd tdj.reverse = _)⟩
      obtain ⟨B, HBE⟩ : ∃ B, Hid (w0.heap.size = B) := ⟨_, (rfl : w0.heap.size = _)⟩
      have HK1 : Hid (vn + 1 ≤ 100000) := by show _ ≤ _; have := HTJL.out; have := HVN.out; omega
      have HBW : Hid (B ≤ wr.heap.size) := by show _ ≤ _; rw [← HBE.out]; exact HI.out.bel.size
      rw [HVN.out] at HLQ HLB HC5 HBQ HOWN HWR
      rw [HXS.out, HBE.out] at HOWN
      have hge2 : (0 : Int) ≤ (j : Int) := by omega
      clear q5 HI HCW hc2 hs
      go_upto_region 5 with fail
      refine wp_region_free mixed (fun a0 d a W => ∃ (gb2 : Nat) (gr : Nat) (cr : Nat) (x33 x34 x35 x36 x37 x38 x39 x40 x41 x42 x43 x44 x45 x46 : Value), a = ((((((((((((((a0.put (some 33) x33).put (some 34) x34).put (some 35) x35).put (some 36) x36).put (some 37) x37).put (some 38) x38).put (some 39) x39).put (some 40) x40).put (some 41) x41).put (some 42) x42).put (some 43) x43).put (some 44) x44).put (some 45) x45).put (some 46) x46) ∧ Hid (ROp wr B g vn vc b2 o2 bd.length uc j va s0 s1 xs gb2 gr cr d x33 x34 x35 x36 x37 x38 x39 x40 x41 x42 x43 x44 x45 x46 W)) (by kernel_rfl) ⟨0, 0, 0, u33, u34, u35, u36, u37, u38, u39, u40, u41, u42, u43, u44, u45, u46, by first | (simp only [Act.put, List.setIfInBounds_toArray, List.set_cons_zero, List.set_cons_succ]; done) | (simp only [Act.put, List.setIfInBounds_toArray, List.set_cons_zero, List.set_cons_succ]; rfl), ?_⟩ ?_ ?_
      · exact ⟨fun h => no_way h, fun h => no_way h, fun h => no_way h, fun h => no_way h, fun h => no_way h, fun h => no_way h, fun h => no_way h, fun h => no_way h, fun h => no_way h, fun h => no_way h, fun h => no_way h, fun h => no_way h, fun h => no_way h, fun h => no_way h, fun _ => trivial, fun _ _ h => no_way h, fun h => no_way h, fun h => no_way h, fun _ => tgb_drew (World.grownBy.refl _ _), fun _ => HOWN.out, fun h => no_way h, fun h => no_way h, fun h => no_way h⟩
      · simp only [StepAll, and_true]
        refine ⟨?_, ?_, ?_, ?_, ?_, ?_, ?_, ?_, ?_, ?_, ?_, ?_, ?_, ?_, ?_⟩
        · intro d a W hI hd hdep
          obtain ⟨gb2, gr, cr, x33, x34, x35, x36, x37, x38, x39, x40, x41, x42, x43, x44, x45, x46, rfl, hF⟩ := hI
          clear hdep hd
          intro K hK
          simp only [Act.put, List.setIfInBounds_toArray, List.set_cons_zero, List.set_cons_succ]
          go_simp
          refine hK.out _ _ ⟨gb2, gr, cr, (.pointer (some ⟨g, 0, none⟩)), x34, x35, x36, x37, x38, x39, x40, x41, x42, x43, x44, x45, x46, by first | (simp only [Act.put, List.setIfInBounds_toArray, List.set_cons_zero, List.set_cons_succ]; done) | (simp only [Act.put, List.setIfInBounds_toArray, List.set_cons_zero, List.set_cons_succ]; rfl), ?_⟩
          exact ⟨fun _ => rfl, fun h => hF.out.f1 (by simpa using h), fun h => hF.out.f2 (by simpa using h), fun h => hF.out.f3 (by simpa using h), fun h => hF.out.f4 (by simpa using h), fun h => hF.out.f5 (by simpa using h), fun h => hF.out.f6 (by simpa using h), fun h => hF.out.f7 (by simpa using h), fun h => hF.out.f8 (by simpa using h), fun h => hF.out.f9 (by simpa using h), fun h => hF.out.f10 (by simpa using h), fun h => hF.out.f11 (by simpa using h), fun h => hF.out.f12 (by simpa using h), fun h => hF.out.f13 (by simpa using h), fun h => hF.out.f14 (by simpa using h), fun i hi h => by have := hF.out.ol i hi (by simpa using h); simp [this], fun h => by have := hF.out.cA (by simpa using h); simpa using this, fun h => by have := hF.out.cF (by simpa using h); simpa using this, fun h => hF.out.kp (by simpa using h), fun h => hF.out.r0 (by simpa using h), fun h h2 => hF.out.b0 (by simpa using h) (by simpa using h2), fun h h2 => hF.out.r1 (by simpa using h) (by simpa using h2), fun h => hF.out.fin (by simpa using h)⟩
        · intro d a W hI hd hdep
          obtain ⟨gb2, gr, cr, x33, x34, x35, x36, x37, x38, x39, x40, x41, x42, x43, x44, x45, x46, rfl, hF⟩ := hI
          clear hdep hd
          intro K hK
          simp only [Act.put, List.setIfInBounds_toArray, List.set_cons_zero, List.set_cons_succ]
          go_simp
          refine hK.out _ _ ⟨gb2, gr, cr, x33, (.pointer (some ⟨g, 0, none⟩)), x35, x36, x37, x38, x39, x40, x41, x42, x43, x44, x45, x46, by first | (simp only [Act.put, List.setIfInBounds_toArray, List.set_cons_zero, List.set_cons_succ]; done) | (simp only [Act.put, List.setIfInBounds_toArray, List.set_cons_zero, List.set_cons_succ]; rfl), ?_⟩
          exact ⟨fun h => hF.out.f0 (by simpa using h), fun _ => rfl, fun h => hF.out.f2 (by simpa using h), fun h => hF.out.f3 (by simpa using h), fun h => hF.out.f4 (by simpa using h), fun h => hF.out.f5 (by simpa using h), fun h => hF.out.f6 (by simpa using h), fun h => hF.out.f7 (by simpa using h), fun h => hF.out.f8 (by simpa using h), fun h => hF.out.f9 (by simpa using h), fun h => hF.out.f10 (by simpa using h), fun h => hF.out.f11 (by simpa using h), fun h => hF.out.f12 (by simpa using h), fun h => hF.out.f13 (by simpa using h), fun h => hF.out.f14 (by simpa using h), fun i hi h => by have := hF.out.ol i hi (by simpa using h); simp [this], fun h => by have := hF.out.cA (by simpa using h); simpa using this, fun h => by have := hF.out.cF (by simpa using h); simpa using this, fun h => hF.out.kp (by simpa using h), fun h => hF.out.r0 (by simpa using h), fun h h2 => hF.out.b0 (by simpa using h) (by simpa using h2), fun h h2 => hF.out.r1 (by simpa using h) (by simpa using h2), fun h => hF.out.fin (by simpa using h)⟩
        · intro d a W hI hd hdep
          obtain ⟨gb2, gr, cr, x33, x34, x35, x36, x37, x38, x39, x40, x41, x42, x43, x44, x45, x46, rfl, hF⟩ := hI
          have hd1 : d 1 = true := dep_of hdep 1 (by kernel_rfl)
          obtain rfl := hF.out.f1 hd1
          clear hdep hd hd1
          intro K hK
          simp only [Act.put, List.setIfInBounds_toArray, List.set_cons_zero, List.set_cons_succ]
          go_simp
          refine hK.out _ _ ⟨gb2, gr, cr, x33, (.pointer (some ⟨g, 0, none⟩)), (.pointer (some ⟨g, 0, none⟩)), x36, x37, x38, x39, x40, x41, x42, x43, x44, x45, x46, by first | (simp only [Act.put, List.setIfInBounds_toArray, List.set_cons_zero, List.set_cons_succ]; done) | (simp only [Act.put, List.setIfInBounds_toArray, List.set_cons_zero, List.set_cons_succ]; rfl), ?_⟩
          exact ⟨fun h => hF.out.f0 (by simpa using h), fun h => hF.out.f1 (by simpa using h), fun _ => rfl, fun h => hF.out.f3 (by simpa using h), fun h => hF.out.f4 (by simpa using h), fun h => hF.out.f5 (by simpa using h), fun h => hF.out.f6 (by simpa using h), fun h => hF.out.f7 (by simpa using h), fun h => hF.out.f8 (by simpa using h), fun h => hF.out.f9 (by simpa using h), fun h => hF.out.f10 (by simpa using h), fun h => hF.out.f11 (by simpa using h), fun h => hF.out.f12 (by simpa using h), fun h => hF.out.f13 (by simpa using h), fun h => hF.out.f14 (by simpa using h), fun i hi h => by have := hF.out.ol i hi (by simpa using h); simp [this], fun h => by have := hF.out.cA (by simpa using h); simpa using this, fun h => by have := hF.out.cF (by simpa using h); simpa using this, fun h => hF.out.kp (by simpa using h), fun h => hF.out.r0 (by simpa using h), fun h h2 => hF.out.b0 (by simpa using h) (by simpa using h2), fun h h2 => hF.out.r1 (by simpa using h) (by simpa using h2), fun h => hF.out.fin (by simpa using h)⟩
        · intro d a W hI hd hdep
          obtain ⟨gb2, gr, cr, x33, x34, x35, x36, x37, x38, x39, x40, x41, x42, x43, x44, x45, x46, rfl, hF⟩ := hI
          have hd2 : d 2 = true := dep_of hdep 2 (by kernel_rfl)
          obtain rfl := hF.out.f2 hd2
          clear hdep hd hd2
          intro K hK
          simp only [Act.put, List.setIfInBounds_toArray, List.set_cons_zero, List.set_cons_succ]
          go_simp
          refine hK.out _ _ ⟨gb2, gr, cr, x33, x34, (.pointer (some ⟨g, 0, none⟩)), (.pointer (some ⟨g, 5, none⟩)), x37, x38, x39, x40, x41, x42, x43, x44, x45, x46, by first | (simp only [Act.put, List.setIfInBounds_toArray, List.set_cons_zero, List.set_cons_succ]; done) | (simp only [Act.put, List.setIfInBounds_toArray, List.set_cons_zero, List.set_cons_succ]; rfl), ?_⟩
          exact ⟨fun h => hF.out.f0 (by simpa using h), fun h => hF.out.f1 (by simpa using h), fun h => hF.out.f2 (by simpa using h), fun _ => rfl, fun h => hF.out.f4 (by simpa using h), fun h => hF.out.f5 (by simpa using h), fun h => hF.out.f6 (by simpa using h), fun h => hF.out.f7 (by simpa using h), fun h => hF.out.f8 (by simpa using h), fun h => hF.out.f9 (by simpa using h), fun h => hF.out.f10 (by simpa using h), fun h => hF.out.f11 (by simpa using h), fun h => hF.out.f12 (by simpa using h), fun h => hF.out.f13 (by simpa using h), fun h => hF.out.f14 (by simpa using h), fun i hi h => by have := hF.out.ol i hi (by simpa using h); simp [this], fun h => by have := hF.out.cA (by simpa using h); simpa using this, fun h => by have := hF.out.cF (by simpa using h); simpa using this, fun h => hF.out.kp (by simpa using h), fun h => hF.out.r0 (by simpa using h), fun h h2 => hF.out.b0 (by simpa using h) (by simpa using h2), fun h h2 => hF.out.r1 (by simpa using h) (by simpa using h2), fun h => hF.out.fin (by simpa using h)⟩
        · intro d a W hI hd hdep
          obtain ⟨gb2, gr, cr, x33, x34, x35, x36, x37, x38, x39, x40, x41, x42, x43, x44, x45, x46, rfl, hF⟩ := hI
          have hd3 : d 3 = true := dep_of hdep 3 (by kernel_rfl)
          obtain rfl := hF.out.f3 hd3
          have HNL : Hid (d 14 = false) := no_later (hF.out.ol 4 (by omega)) hd
          have ya : W.cell? ⟨g, 5, none⟩ = some (.slice va vn vc) := (tgb_old (hF.out.kp HNL.out) (p := ⟨g, 5, none⟩) HLQ.out.1 HLQ.out.2).trans HC5.out
          clear hdep hd hd3
          intro K hK
          simp only [Act.put, List.setIfInBounds_toArray, List.set_cons_zero, List.set_cons_succ]
          go_simp
          refine hK.out _ _ ⟨gb2, gr, cr, x33, x34, x35, (.pointer (some ⟨g, 5, none⟩)), (.slice va vn vc), x38, x39, x40, x41, x42, x43, x44, x45, x46, by first | (simp only [Act.put, List.setIfInBounds_toArray, List.set_cons_zero, List.set_cons_succ]; done) | (simp only [Act.put, List.setIfInBounds_toArray, List.set_cons_zero, List.set_cons_succ]; rfl), ?_⟩
          exact ⟨fun h => hF.out.f0 (by simpa using h), fun h => hF.out.f1 (by simpa using h), fun h => hF.out.f2 (by simpa using h), fun h => hF.out.f3 (by simpa using h), fun _ => rfl, fun h => hF.out.f5 (by simpa using h), fun h => hF.out.f6 (by simpa using h), fun h => hF.out.f7 (by simpa using h), fun h => hF.out.f8 (by simpa using h), fun h => hF.out.f9 (by simpa using h), fun h => hF.out.f10 (by simpa using h), fun h => hF.out.f11 (by simpa using h), fun h => hF.out.f12 (by simpa using h), fun h => hF.out.f13 (by simpa using h), fun h => hF.out.f14 (by simpa using h), fun i hi h => by have := hF.out.ol i hi (by simpa using h); simp [this], fun h => by have := hF.out.cA (by simpa using h); simpa using this, fun h => by have := hF.out.cF (by simpa using h); simpa using this, fun h => hF.out.kp (by simpa using h), fun h => hF.out.r0 (by simpa using h), fun h h2 => hF.out.b0 (by simpa using h) (by simpa using h2), fun h h2 => hF.out.r1 (by simpa using h) (by simpa using h2), fun h => hF.out.fin (by simpa using h)⟩
        · intro d a W hI hd hdep
          obtain ⟨gb2, gr, cr, x33, x34, x35, x36, x37, x38, x39, x40, x41, x42, x43, x44, x45, x46, rfl, hF⟩ := hI
          clear hdep hd
          intro K hK
          simp only [Act.put, List.setIfInBounds_toArray, List.set_cons_zero, List.set_cons_succ]
          go_simp
          refine hK.out _ _ ⟨gb2, gr, cr, x33, x34, x35, x36, x37, (.slice (some ⟨b2, o2, none⟩) bd.length uc), x39, x40, x41, x42, x43, x44, x45, x46, by first | (simp only [Act.put, List.setIfInBounds_toArray, List.set_cons_zero, List.set_cons_succ]; done) | (simp only [Act.put, List.setIfInBounds_toArray, List.set_cons_zero, List.set_cons_succ]; rfl), ?_⟩
          exact ⟨fun h => hF.out.f0 (by simpa using h), fun h => hF.out.f1 (by simpa using h), fun h => hF.out.f2 (by simpa using h), fun h => hF.out.f3 (by simpa using h), fun h => hF.out.f4 (by simpa using h), fun _ => rfl, fun h => hF.out.f6 (by simpa using h), fun h => hF.out.f7 (by simpa using h), fun h => hF.out.f8 (by simpa using h), fun h => hF.out.f9 (by simpa using h), fun h => hF.out.f10 (by simpa using h), fun h => hF.out.f11 (by simpa using h), fun h => hF.out.f12 (by simpa using h), fun h => hF.out.f13 (by simpa using h), fun h => hF.out.f14 (by simpa using h), fun i hi h => by have := hF.out.ol i hi (by simpa using h); simp [this], fun h => by have := hF.out.cA (by simpa using h); simpa using this, fun h => by have := hF.out.cF (by simpa using h); simpa using this, fun h => hF.out.kp (by simpa using h), fun h => hF.out.r0 (by simpa using h), fun h h2 => hF.out.b0 (by simpa using h) (by simpa using h2), fun h h2 => hF.out.r1 (by simpa using h) (by simpa using h2), fun h => hF.out.fin (by simpa using h)⟩
        · intro d a W hI hd hdep
          obtain ⟨gb2, gr, cr, x33, x34, x35, x36, x37, x38, x39, x40, x41, x42, x43, x44, x45, x46, rfl, hF⟩ := hI
          clear hdep hd
          intro K hK
          simp only [Act.put, List.setIfInBounds_toArray, List.set_cons_zero, List.set_cons_succ]
          go_simp
          refine hK.out _ _ ⟨gb2, gr, cr, x33, x34, x35, x36, x37, x38, (.int .i64 (j : Int)), x40, x41, x42, x43, x44, x45, x46, by first | (simp only [Act.put, List.setIfInBounds_toArray, List.set_cons_zero, List.set_cons_succ]; done) | (simp only [Act.put, List.setIfInBounds_toArray, List.set_cons_zero, List.set_cons_succ]; rfl), ?_⟩
          exact ⟨fun h => hF.out.f0 (by simpa using h), fun h => hF.out.f1 (by simpa using h), fun h => hF.out.f2 (by simpa using h), fun h => hF.out.f3 (by simpa using h), fun h => hF.out.f4 (by simpa using h), fun h => hF.out.f5 (by simpa using h), fun _ => rfl, fun h => hF.out.f7 (by simpa using h), fun h => hF.out.f8 (by simpa using h), fun h => hF.out.f9 (by simpa using h), fun h => hF.out.f10 (by simpa using h), fun h => hF.out.f11 (by simpa using h), fun h => hF.out.f12 (by simpa using h), fun h => hF.out.f13 (by simpa using h), fun h => hF.out.f14 (by simpa using h), fun i hi h => by have := hF.out.ol i hi (by simpa using h); simp [this], fun h => by have := hF.out.cA (by simpa using h); simpa using this, fun h => by have := hF.out.cF (by simpa using h); simpa using this, fun h => hF.out.kp (by simpa using h), fun h => hF.out.r0 (by simpa using h), fun h h2 => hF.out.b0 (by simpa using h) (by simpa using h2), fun h h2 => hF.out.r1 (by simpa using h) (by simpa using h2), fun h => hF.out.fin (by simpa using h)⟩
        · intro d a W hI hd hdep
          obtain ⟨gb2, gr, cr, x33, x34, x35, x36, x37, x38, x39, x40, x41, x42, x43, x44, x45, x46, rfl, hF⟩ := hI
          have hd5 : d 5 = true := dep_of hdep 5 (by kernel_rfl)
          have hd6 : d 6 = true := dep_of hdep 6 (by kernel_rfl)
          obtain rfl := hF.out.f5 hd5
          obtain rfl := hF.out.f6 hd6
          have hk0 : (0 : Int) ≤ (j : Int) := by omega
          have hk1 : (j : Int) < (bd.length : Int) := HJ.out
          clear hdep hd hd5 hd6
          intro K hK
          simp only [Act.put, List.setIfInBounds_toArray, List.set_cons_zero, List.set_cons_succ]
          go_simp
          refine hK.out _ _ ⟨gb2, gr, cr, x33, x34, x35, x36, x37, (.slice (some ⟨b2, o2, none⟩) bd.length uc), (.int .i64 (j : Int)), (.pointer (some ⟨b2, o2 + j * 2, none⟩)), x41, x42, x43, x44, x45, x46, by first | (simp only [Act.put, List.setIfInBounds_toArray, List.set_cons_zero, List.set_cons_succ]; done) | (simp only [Act.put, List.setIfInBounds_toArray, List.set_cons_zero, List.set_cons_succ]; rfl), ?_⟩
          exact ⟨fun h => hF.out.f0 (by simpa using h), fun h => hF.out.f1 (by simpa using h), fun h => hF.out.f2 (by simpa using h), fun h => hF.out.f3 (by simpa using h), fun h => hF.out.f4 (by simpa using h), fun h => hF.out.f5 (by simpa using h), fun h => hF.out.f6 (by simpa using h), fun _ => rfl, fun h => hF.out.f8 (by simpa using h), fun h => hF.out.f9 (by simpa using h), fun h => hF.out.f10 (by simpa using h), fun h => hF.out.f11 (by simpa using h), fun h => hF.out.f12 (by simpa using h), fun h => hF.out.f13 (by simpa using h), fun h => hF.out.f14 (by simpa using h), fun i hi h => by have := hF.out.ol i hi (by simpa using h); simp [this], fun h => by have := hF.out.cA (by simpa using h); simpa using this, fun h => by have := hF.out.cF (by simpa using h); simpa using this, fun h => hF.out.kp (by simpa using h), fun h => hF.out.r0 (by simpa using h), fun h h2 => hF.out.b0 (by simpa using h) (by simpa using h2), fun h h2 => hF.out.r1 (by simpa using h) (by simpa using h2), fun h => hF.out.fin (by simpa using h)⟩
        · intro d a W hI hd hdep
          obtain ⟨gb2, gr, cr, x33, x34, x35, x36, x37, x38, x39, x40, x41, x42, x43, x44, x45, x46, rfl, hF⟩ := hI
          have hd7 : d 7 = true := dep_of hdep 7 (by kernel_rfl)
          obtain rfl := hF.out.f7 hd7
          have HNL : Hid (d 14 = false) := no_later (hF.out.ol 8 (by omega)) hd
          have ya : W.cell? ⟨b2, o2 + j * 2, none⟩ = some (.int .i64 s0) := (tgb_old (hF.out.kp HNL.out) (p := ⟨b2, o2 + j * 2, none⟩) HLB.out.1 HLB.out.2).trans HCS.out.1
          have yb : W.cell? ⟨b2, o2 + j * 2 + 1, none⟩ = some (.int .i64 s1) := (tgb_old (hF.out.kp HNL.out) (p := ⟨b2, o2 + j * 2 + 1, none⟩) HLB.out.1 HLB.out.2).trans HCS.out.2
          clear hdep hd hd7
          intro K hK
          simp only [Act.put, List.setIfInBounds_toArray, List.set_cons_zero, List.set_cons_succ]
          go_simp
          refine hK.out _ _ ⟨gb2, gr, cr, x33, x34, x35, x36, x37, x38, x39, (.pointer (some ⟨b2, o2 + j * 2, none⟩)), (.agg #[.int .i64 s0, .int .i64 s1]), x42, x43, x44, x45, x46, by first | (simp only [Act.put, List.setIfInBounds_toArray, List.set_cons_zero, List.set_cons_succ]; done) | (simp only [Act.put, List.setIfInBounds_toArray, List.set_cons_zero, List.set_cons_succ]; rfl), ?_⟩
          exact ⟨fun h => hF.out.f0 (by simpa using h), fun h => hF.out.f1 (by simpa using h), fun h => hF.out.f2 (by simpa using h), fun h => hF.out.f3 (by simpa using h), fun h => hF.out.f4 (by simpa using h), fun h => hF.out.f5 (by simpa using h), fun h => hF.out.f6 (by simpa using h), fun h => hF.out.f7 (by simpa using h), fun _ => rfl, fun h => hF.out.f9 (by simpa using h), fun h => hF.out.f10 (by simpa using h), fun h => hF.out.f11 (by simpa using h), fun h => hF.out.f12 (by simpa using h), fun h => hF.out.f13 (by simpa using h), fun h => hF.out.f14 (by simpa using h), fun i hi h => by have := hF.out.ol i hi (by simpa using h); simp [this], fun h => by have := hF.out.cA (by simpa using h); simpa using this, fun h => by have := hF.out.cF (by simpa using h); simpa using this, fun h => hF.out.kp (by simpa using h), fun h => hF.out.r0 (by simpa using h), fun h h2 => hF.out.b0 (by simpa using h) (by simpa using h2), fun h h2 => hF.out.r1 (by simpa using h) (by simpa using h2), fun h => hF.out.fin (by simpa using h)⟩
        · intro d a W hI hd hdep
          obtain ⟨gb2, gr, cr, x33, x34, x35, x36, x37, x38, x39, x40, x41, x42, x43, x44, x45, x46, rfl, hF⟩ := hI
          have hd8 : d 8 = true := dep_of hdep 8 (by kernel_rfl)
          obtain rfl := hF.out.f8 hd8
          clear hdep hd hd8
          intro K hK
          simp only [Act.put, List.setIfInBounds_toArray, List.set_cons_zero, List.set_cons_succ]
          go_simp
          refine hK.out _ _ ⟨gb2, gr, cr, x33, x34, x35, x36, x37, x38, x39, x40, (.agg #[.int .i64 s0, .int .i64 s1]), (.agg #[.bool false, .int .i64 0, .int .i64 s0, .int .i64 s1]), x43, x44, x45, x46, by first | (simp only [Act.put, List.setIfInBounds_toArray, List.set_cons_zero, List.set_cons_succ]; done) | (simp only [Act.put, List.setIfInBounds_toArray, List.set_cons_zero, List.set_cons_succ]; rfl), ?_⟩
          exact ⟨fun h => hF.out.f0 (by simpa using h), fun h => hF.out.f1 (by simpa using h), fun h => hF.out.f2 (by simpa using h), fun h => hF.out.f3 (by simpa using h), fun h => hF.out.f4 (by simpa using h), fun h => hF.out.f5 (by simpa using h), fun h => hF.out.f6 (by simpa using h), fun h => hF.out.f7 (by simpa using h), fun h => hF.out.f8 (by simpa using h), fun _ => rfl, fun h => hF.out.f10 (by simpa using h), fun h => hF.out.f11 (by simpa using h), fun h => hF.out.f12 (by simpa using h), fun h => hF.out.f13 (by simpa using h), fun h => hF.out.f14 (by simpa using h), fun i hi h => by have := hF.out.ol i hi (by simpa using h); simp [this], fun h => by have := hF.out.cA (by simpa using h); simpa using this, fun h => by have := hF.out.cF (by simpa using h); simpa using this, fun h => hF.out.kp (by simpa using h), fun h => hF.out.r0 (by simpa using h), fun h h2 => hF.out.b0 (by simpa using h) (by simpa using h2), fun h h2 => hF.out.r1 (by simpa using h) (by simpa using h2), fun h => hF.out.fin (by simpa using h)⟩
        · intro d a W hI hd hdep
          obtain ⟨gb2, gr, cr, x33, x34, x35, x36, x37, x38, x39, x40, x41, x42, x43, x44, x45, x46, rfl, hF⟩ := hI
          have hd9 : d 9 = true := dep_of hdep 9 (by kernel_rfl)
          obtain rfl := hF.out.f9 hd9
          have HNL : Hid (d 14 = false) := no_later (hF.out.ol 10 (by omega)) hd
          have HN8 : Hid (d 11 = false) := no_later hF.out.cA hd
          clear hdep hd hd9
          intro K hK
          simp only [Act.put, List.setIfInBounds_toArray, List.set_cons_zero, List.set_cons_succ]
          go_simp
          refine hK.out _ _ ⟨W.heap.size, gr, cr, x33, x34, x35, x36, x37, x38, x39, x40, x41, (.agg #[.bool false, .int .i64 0, .int .i64 s0, .int .i64 s1]), (.slice (some ⟨W.heap.size, 0, none⟩) 1 1), x44, x45, x46, by first | (simp only [Act.put, List.setIfInBounds_toArray, List.set_cons_zero, List.set_cons_succ]; done) | (simp only [Act.put, List.setIfInBounds_toArray, List.set_cons_zero, List.set_cons_succ]; rfl), ?_⟩
          exact ⟨fun h => hF.out.f0 (by simpa using h), fun h => hF.out.f1 (by simpa using h), fun h => hF.out.f2 (by simpa using h), fun h => hF.out.f3 (by simpa using h), fun h => hF.out.f4 (by simpa using h), fun h => hF.out.f5 (by simpa using h), fun h => hF.out.f6 (by simpa using h), fun h => hF.out.f7 (by simpa using h), fun h => hF.out.f8 (by simpa using h), fun h => hF.out.f9 (by simpa using h), fun _ => rfl, fun h => by have := HN8.out; simp [this] at h, fun h => hF.out.f12 (by simpa using h), fun h => hF.out.f13 (by simpa using h), fun h => hF.out.f14 (by simpa using h), fun i hi h => by have := hF.out.ol i hi (by simpa using h); simp [this], fun _ => by simp, fun h => by have := hF.out.cF (by simpa using h); simpa using this, fun _ => tgb_alloc (hF.out.kp HNL.out) _, fun _ => (hF.out.r0 HN8.out).alloc _, fun _ _ => heap_alloc_new _ _, fun h => by have := HN8.out; simp [this] at h, fun h => by have := HNL.out; simp [this] at h⟩
        · intro d a W hI hd hdep
          obtain ⟨gb2, gr, cr, x33, x34, x35, x36, x37, x38, x39, x40, x41, x42, x43, x44, x45, x46, rfl, hF⟩ := hI
          have hd4 : d 4 = true := dep_of hdep 4 (by kernel_rfl)
          have hd10 : d 10 = true := dep_of hdep 10 (by kernel_rfl)
          obtain rfl := hF.out.f4 hd4
          obtain rfl := hF.out.f10 hd10
          have HNL : Hid (d 14 = false) := no_later (hF.out.ol 11 (by omega)) hd
          have HD7 : Hid (d 10 = true) := hd10
          have hm := run_append_lies (P := Try.prog) W 41 41 B 49 i1 _ 4 32 Try.underlying41 hi1 hy0 hy1 hy2 rfl (by omega) (.slice va vn vc) vn xs (hF.out.r0 hd) ⟨gb2, 0, none⟩ 1 1 [.bool false, .int .i64 0, .int .i64 s0, .int .i64 s1] rfl (World.news_of_block (t := 49) (fr := (0, 0)) (hF.out.b0 hd10 hd)) (by simp [Value.oneCell']) (by omega) (by unfold maxLen; have := HK1.out; omega) (by have := HK1.out; omega) (Nat.le_trans HBW.out (hF.out.kp HNL.out).size) W.heap.size rfl
          have hmm := hm.choose_spec.choose_spec.choose_spec
          generalize hm.choose_spec.choose_spec.choose = W1 at hmm
          generalize hm.choose_spec.choose = cr1 at hmm
          generalize hm.choose = gr1 at hmm
          have hrun := hmm.1
          have HM : Hid (W1.ownsRow B 49 4 (.slice (some ⟨gr1, 0, none⟩) (vn + 1) cr1) (vn + 1) (xs ++ [.bool false, .int .i64 0, .int .i64 s0, .int .i64 s1]) ∧ W.grownBy W1 (Value.ownBlock (.slice va vn vc))) := ⟨hmm.2.1, hmm.2.2.1⟩
          clear hmm hm
          clear hdep hd hd4 hd10
          intro K hK
          refine tstep_call_append (sv := (.slice va vn vc)) (xv := (.slice (some ⟨gb2, 0, none⟩) 1 1)) (v := (.slice (some ⟨gr1, 0, none⟩) (vn + 1) cr1)) (W1 := W1) (by rfl) _ _ 41 (by rfl) (by first | (simp only [Act.put, List.setIfInBounds_toArray, List.set_cons_zero, List.set_cons_succ]; done) | (simp only [Act.put, List.setIfInBounds_toArray, List.set_cons_zero, List.set_cons_succ]; rfl)) (by first | (simp only [Act.put, List.setIfInBounds_toArray, List.set_cons_zero, List.set_cons_succ]; done) | (simp only [Act.put, List.setIfInBounds_toArray, List.set_cons_zero, List.set_cons_succ]; rfl)) (by exact hrun) ?_
          simp only [Act.put, List.setIfInBounds_toArray, List.set_cons_zero, List.set_cons_succ]
          refine hK.out _ _ ⟨gb2, gr1, cr1, x33, x34, x35, x36, (.slice va vn vc), x38, x39, x40, x41, x42, (.slice (some ⟨gb2, 0, none⟩) 1 1), (.slice (some ⟨gr1, 0, none⟩) (vn + 1) cr1), x45, x46, by first | (simp only [Act.put, List.setIfInBounds_toArray, List.set_cons_zero, List.set_cons_succ]; done) | (simp only [Act.put, List.setIfInBounds_toArray, List.set_cons_zero, List.set_cons_succ]; rfl), ?_⟩
          exact ⟨fun h => hF.out.f0 (by simpa using h), fun h => hF.out.f1 (by simpa using h), fun h => hF.out.f2 (by simpa using h), fun h => hF.out.f3 (by simpa using h), fun h => hF.out.f4 (by simpa using h), fun h => hF.out.f5 (by simpa using h), fun h => hF.out.f6 (by simpa using h), fun h => hF.out.f7 (by simpa using h), fun h => hF.out.f8 (by simpa using h), fun h => hF.out.f9 (by simpa using h), fun h => hF.out.f10 (by simpa using h), fun _ => rfl, fun h => hF.out.f12 (by simpa using h), fun h => hF.out.f13 (by simpa using h), fun h => hF.out.f14 (by simpa using h), fun i hi h => by have := hF.out.ol i hi (by simpa using h); simp [this], fun _ => by simpa using HD7.out, fun h => by have := hF.out.cF (by simpa using h); simpa using this, fun _ => tgb_then (hF.out.kp HNL.out) HM.out.2, fun h => by simp at h, fun _ h => by simp at h, fun _ _ => HM.out.1, fun h => by have := HNL.out; simp [this] at h⟩
        · intro d a W hI hd hdep
          obtain ⟨gb2, gr, cr, x33, x34, x35, x36, x37, x38, x39, x40, x41, x42, x43, x44, x45, x46, rfl, hF⟩ := hI
          have hd0 : d 0 = true := dep_of hdep 0 (by kernel_rfl)
          obtain rfl := hF.out.f0 hd0
          clear hdep hd hd0
          intro K hK
          simp only [Act.put, List.setIfInBounds_toArray, List.set_cons_zero, List.set_cons_succ]
          go_simp
          refine hK.out _ _ ⟨gb2, gr, cr, (.pointer (some ⟨g, 0, none⟩)), x34, x35, x36, x37, x38, x39, x40, x41, x42, x43, x44, (.pointer (some ⟨g, 0, none⟩)), x46, by first | (simp only [Act.put, List.setIfInBounds_toArray, List.set_cons_zero, List.set_cons_succ]; done) | (simp only [Act.put, List.setIfInBounds_toArray, List.set_cons_zero, List.set_cons_succ]; rfl), ?_⟩
          exact ⟨fun h => hF.out.f0 (by simpa using h), fun h => hF.out.f1 (by simpa using h), fun h => hF.out.f2 (by simpa using h), fun h => hF.out.f3 (by simpa using h), fun h => hF.out.f4 (by simpa using h), fun h => hF.out.f5 (by simpa using h), fun h => hF.out.f6 (by simpa using h), fun h => hF.out.f7 (by simpa using h), fun h => hF.out.f8 (by simpa using h), fun h => hF.out.f9 (by simpa using h), fun h => hF.out.f10 (by simpa using h), fun h => hF.out.f11 (by simpa using h), fun _ => rfl, fun h => hF.out.f13 (by simpa using h), fun h => hF.out.f14 (by simpa using h), fun i hi h => by have := hF.out.ol i hi (by simpa using h); simp [this], fun h => by have := hF.out.cA (by simpa using h); simpa using this, fun _ => by simp, fun h => hF.out.kp (by simpa using h), fun h => hF.out.r0 (by simpa using h), fun h h2 => hF.out.b0 (by simpa using h) (by simpa using h2), fun h h2 => hF.out.r1 (by simpa using h) (by simpa using h2), fun h => hF.out.fin (by simpa using h)⟩
        · intro d a W hI hd hdep
          obtain ⟨gb2, gr, cr, x33, x34, x35, x36, x37, x38, x39, x40, x41, x42, x43, x44, x45, x46, rfl, hF⟩ := hI
          have hd12 : d 12 = true := dep_of hdep 12 (by kernel_rfl)
          obtain rfl := hF.out.f12 hd12
          have HD9 : Hid (d 12 = true) := hd12
          clear hdep hd hd12
          intro K hK
          simp only [Act.put, List.setIfInBounds_toArray, List.set_cons_zero, List.set_cons_succ]
          go_simp
          refine hK.out _ _ ⟨gb2, gr, cr, x33, x34, x35, x36, x37, x38, x39, x40, x41, x42, x43, x44, (.pointer (some ⟨g, 0, none⟩)), (.pointer (some ⟨g, 5, none⟩)), by first | (simp only [Act.put, List.setIfInBounds_toArray, List.set_cons_zero, List.set_cons_succ]; done) | (simp only [Act.put, List.setIfInBounds_toArray, List.set_cons_zero, List.set_cons_succ]; rfl), ?_⟩
          exact ⟨fun h => hF.out.f0 (by simpa using h), fun h => hF.out.f1 (by simpa using h), fun h => hF.out.f2 (by simpa using h), fun h => hF.out.f3 (by simpa using h), fun h => hF.out.f4 (by simpa using h), fun h => hF.out.f5 (by simpa using h), fun h => hF.out.f6 (by simpa using h), fun h => hF.out.f7 (by simpa using h), fun h => hF.out.f8 (by simpa using h), fun h => hF.out.f9 (by simpa using h), fun h => hF.out.f10 (by simpa using h), fun h => hF.out.f11 (by simpa using h), fun h => hF.out.f12 (by simpa using h), fun _ => rfl, fun h => hF.out.f14 (by simpa using h), fun i hi h => by have := hF.out.ol i hi (by simpa using h); simp [this], fun h => by have := hF.out.cA (by simpa using h); simpa using this, fun _ => by simpa using HD9.out, fun h => hF.out.kp (by simpa using h), fun h => hF.out.r0 (by simpa using h), fun h h2 => hF.out.b0 (by simpa using h) (by simpa using h2), fun h h2 => hF.out.r1 (by simpa using h) (by simpa using h2), fun h => hF.out.fin (by simpa using h)⟩
        · intro d a W hI hd hdep
          obtain ⟨gb2, gr, cr, x33, x34, x35, x36, x37, x38, x39, x40, x41, x42, x43, x44, x45, x46, rfl, hF⟩ := hI
          have hd0 : d 0 = true := dep_of hdep 0 (by kernel_rfl)
          have hd1 : d 1 = true := dep_of hdep 1 (by kernel_rfl)
          have hd2 : d 2 = true := dep_of hdep 2 (by kernel_rfl)
          have hd3 : d 3 = true := dep_of hdep 3 (by kernel_rfl)
          have hd4 : d 4 = true := dep_of hdep 4 (by kernel_rfl)
          have hd5 : d 5 = true := dep_of hdep 5 (by kernel_rfl)
          have hd6 : d 6 = true := dep_of hdep 6 (by kernel_rfl)
          have hd7 : d 7 = true := dep_of hdep 7 (by kernel_rfl)
          have hd8 : d 8 = true := dep_of hdep 8 (by kernel_rfl)
          have hd9 : d 9 = true := dep_of hdep 9 (by kernel_rfl)
          have hd10 : d 10 = true := dep_of hdep 10 (by kernel_rfl)
          have hd11 : d 11 = true := dep_of hdep 11 (by kernel_rfl)
          have hd13 : d 13 = true := dep_of hdep 13 (by kernel_rfl)
          obtain rfl := hF.out.f0 hd0
          obtain rfl := hF.out.f1 hd1
          obtain rfl := hF.out.f2 hd2
          obtain rfl := hF.out.f3 hd3
          obtain rfl := hF.out.f4 hd4
          obtain rfl := hF.out.f5 hd5
          obtain rfl := hF.out.f6 hd6
          obtain rfl := hF.out.f7 hd7
          obtain rfl := hF.out.f8 hd8
          obtain rfl := hF.out.f9 hd9
          obtain rfl := hF.out.f10 hd10
          obtain rfl := hF.out.f11 hd11
          obtain rfl := hF.out.f13 hd13
          have hd12 : d 12 = true := hF.out.cF hd13
          obtain rfl := hF.out.f12 hd12
          have HD : Hid (∀ i, i < 14 → d i = true) := fun i hi => by
            have : i = 0 ∨ i = 1 ∨ i = 2 ∨ i = 3 ∨ i = 4 ∨ i = 5 ∨ i = 6 ∨ i = 7 ∨ i = 8 ∨ i = 9 ∨ i = 10 ∨ i = 11 ∨ i = 12 ∨ i = 13 := by omega
            rcases this with rfl | rfl | rfl | rfl | rfl | rfl | rfl | rfl | rfl | rfl | rfl | rfl | rfl | rfl <;> assumption
          have HKP : Hid (wr.grownBy W (Value.ownBlock (.slice va vn vc))) := hF.out.kp hd
          have HR1 : Hid (W.ownsRow B 49 4 (.slice (some ⟨gr, 0, none⟩) (vn + 1) cr) (vn + 1) (xs ++ [.bool false, .int .i64 0, .int .i64 s0, .int .i64 s1])) := hF.out.r1 hd11 hd
          have hblk := (HKP.out.block g HLQ.out.1 HLQ.out.2).trans HBQ.out
          have ya := tcell_blk hblk 5
          have yb := tfrozen_blk hblk 5
          clear hblk
          simp only [List.getElem?_toArray, List.getElem?_cons_zero, List.getElem?_cons_succ] at ya
          clear hdep hd hd0 hd1 hd2 hd3 hd4 hd5 hd6 hd7 hd8 hd9 hd10 hd11 hd13
          intro K hK
          simp only [Act.put, List.setIfInBounds_toArray, List.set_cons_zero, List.set_cons_succ]
          go_simp
          refine hK.out _ _ ⟨gb2, gr, cr, (.pointer (some ⟨g, 0, none⟩)), (.pointer (some ⟨g, 0, none⟩)), (.pointer (some ⟨g, 0, none⟩)), (.pointer (some ⟨g, 5, none⟩)), (.slice va vn vc), (.slice (some ⟨b2, o2, none⟩) bd.length uc), (.int .i64 (j : Int)), (.pointer (some ⟨b2, o2 + j * 2, none⟩)), (.agg #[.int .i64 s0, .int .i64 s1]), (.agg #[.bool false, .int .i64 0, .int .i64 s0, .int .i64 s1]), (.slice (some ⟨gb2, 0, none⟩) 1 1), (.slice (some ⟨gr, 0, none⟩) (vn + 1) cr), (.pointer (some ⟨g, 0, none⟩)), (.pointer (some ⟨g, 5, none⟩)), by first | (simp only [Act.put, List.setIfInBounds_toArray, List.set_cons_zero, List.set_cons_succ]; done) | (simp only [Act.put, List.setIfInBounds_toArray, List.set_cons_zero, List.set_cons_succ]; rfl), ?_⟩
          exact ⟨fun h => hF.out.f0 (by simpa using h), fun h => hF.out.f1 (by simpa using h), fun h => hF.out.f2 (by simpa using h), fun h => hF.out.f3 (by simpa using h), fun h => hF.out.f4 (by simpa using h), fun h => hF.out.f5 (by simpa using h), fun h => hF.out.f6 (by simpa using h), fun h => hF.out.f7 (by simpa using h), fun h => hF.out.f8 (by simpa using h), fun h => hF.out.f9 (by simpa using h), fun h => hF.out.f10 (by simpa using h), fun h => hF.out.f11 (by simpa using h), fun h => hF.out.f12 (by simpa using h), fun h => hF.out.f13 (by simpa using h), fun _ => trivial, fun i hi _ => by have := HD.out i hi; simp [this], fun h => by have := hF.out.cA (by simpa using h); simpa using this, fun h => by have := hF.out.cF (by simpa using h); simpa using this, fun h => by simp at h, fun h => by have := HD.out 11 (by omega); simp [this] at h, fun _ h => by have := HD.out 11 (by omega); simp [this] at h, fun _ h => by simp at h, fun _ => ⟨W, HKP.out, HR1.out, rfl⟩⟩
      · intro d a W hI hall
        obtain ⟨gb2, gr, cr, x33, x34, x35, x36, x37, x38, x39, x40, x41, x42, x43, x44, x45, x46, rfl, hF⟩ := hI
        simp only [List.length_cons, List.length_nil] at hall
        obtain rfl := hF.out.f0 (hall 0 (by omega))
        obtain rfl := hF.out.f1 (hall 1 (by omega))
        obtain rfl := hF.out.f2 (hall 2 (by omega))
        obtain rfl := hF.out.f3 (hall 3 (by omega))
        obtain rfl := hF.out.f4 (hall 4 (by omega))
        obtain rfl := hF.out.f5 (hall 5 (by omega))
        obtain rfl := hF.out.f6 (hall 6 (by omega))
        obtain rfl := hF.out.f7 (hall 7 (by omega))
        obtain rfl := hF.out.f8 (hall 8 (by omega))
        obtain rfl := hF.out.f9 (hall 9 (by omega))
        obtain rfl := hF.out.f10 (hall 10 (by omega))
        obtain rfl := hF.out.f11 (hall 11 (by omega))
        obtain rfl := hF.out.f12 (hall 12 (by omega))
        obtain rfl := hF.out.f13 (hall 13 (by omega))
        obtain ⟨V, v1, v2, rfl⟩ := hF.out.fin (hall 14 (by omega))
        have HFIN : Hid (Wb w0 g t n (.slice (some ⟨b, o, none⟩) ps.length pc) rv col sn (some ⟨gr, 0, none⟩) (vn + 1) cr ea en ec (symT (s0, s1) :: tdj) ev (V.setCell ⟨g, 5, none⟩ (.slice (some ⟨gr, 0, none⟩) (vn + 1) cr))) := by
          have h2 := HWR.out.pushT (x := symT (s0, s1)) (V := V) v1 (by rw [HVN.out, HBE.out, HXS.out]; exact v2)
          exact h2
        clear hF hall v1 v2
        simp only [Act.put, List.setIfInBounds_toArray, List.set_cons_zero, List.set_cons_succ]
        generalize V.setCell ⟨g, 5, none⟩ (.slice (some ⟨gr, 0, none⟩) (vn + 1) cr) = WN at HFIN ⊢
        go_wp2_with fail
        go_roundw
        case rel => exact ⟨j, (j : Int) - 1, _, _, _, by omega, by go_num, (rfl : _ = _), by rw [HDR.out]; exact HFIN.out⟩
        case measure => first | (simp [intOf]; done) | (simp [intOf]; omega)
end Go.Proofs.Ytpfehghicaaghaa
