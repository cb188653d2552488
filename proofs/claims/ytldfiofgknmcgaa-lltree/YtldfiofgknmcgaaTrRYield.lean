/-
  The contract of pushref.Yield: the word of a tree of the right form.
-/
import Derived.Test.YtldfiofgknmcgaaTrApp
namespace Go.Proofs.Ytldfiofgknmcgaa
open Go.RowKit
open Cg

theorem Cg.ylL_snoc (ps : List Pd) (l : List T) (t : T) : ∀ (ss : List Sy), ylL ps (l ++ [t]) ss = ylL ps l ss ++ yl ps t (ss.getD l.length (0, 0)) := by
  induction l with
  | nil => intro ss; cases ss <;> simp [ylL]
  | cons u l ih =>
    intro ss
    have e : ss.getD (l.length + 1) (0, 0) = ss.tail.getD l.length (0, 0) := by cases ss <;> simp
    rw [List.cons_append, ylL, ylL, ih, List.length_cons, e, List.append_assoc]
theorem Cg.ylL_len (ps : List Pd) (l m : List T) : ∀ (ss : List Sy), (ylL ps l ss).length ≤ (ylL ps (l ++ m) ss).length := by
  induction l with
  | nil => intro ss; simp [ylL]
  | cons u l ih => intro ss; rw [List.cons_append, ylL, ylL]; have := ih ss.tail; simp; omega
/-- What Yield holds: both boxes, and what is had. -/
def Yh (g : Nat) (tt n : Int) (ga : Option Addr) (gm gc : Nat) (p k : Int) (ao : Option Addr) (tn cap : Nat) (W : World) : Prop := W.heap[g]? = some (.cells #[.int .i64 tt, .int .i64 n, .slice ga gm gc] 24) ∧ W.heap[g + 1]? = some (.cells #[.int .i64 p, .int .i64 k, .slice ao tn cap] 27)
theorem Yh.next {g : Nat} {tt n : Int} {ga : Option Addr} {gm gc : Nat} {p k : Int} {ao : Option Addr} {tn cap : Nat} {W W' : World} (h : Yh g tt n ga gm gc p k ao tn cap W) (hb : Below W.heap.size W W') : Yh g tt n ga gm gc p k ao tn cap W' := ⟨tbox_next h.1 hb, tbox_next h.2 hb⟩
theorem Yh.fy {g : Nat} {tt n : Int} {ga : Option Addr} {gm gc : Nat} {p k : Int} {ao : Option Addr} {tn cap : Nat} {W W' : World} (h : Yh g tt n ga gm gc p k ao tn cap W) (hb : Fy Zi W W') : Yh g tt n ga gm gc p k ao tn cap W' := ⟨hb.2 _ _ _ _ h.1 (by unfold Zi; omega), hb.2 _ _ _ _ h.2 (by unfold Zi; omega)⟩

structure RYi (w : World) (g : Nat) (tt n : Int) (b o gm gc z : Nat) (k : Int) (b2 o2 tn cap i : Nat) (p' k' : Int) (a' : Option Addr) (n' c' : Nat) (sa9 : Option Addr) (sn9 sc9 : Nat) (L1 yk L2 : List Int) (ra : Option Addr) (rn : Nat) (rc : Nat) (ua : Option Addr) (un : Nat) (uc : Nat) (d : Nat → Bool) (x5 x35 x36 x37 x38 x39 x40 x41 x42 x43 : Value) (W : World) : Prop where
  f0 : d 0 = true → x35 = (.slice sa9 sn9 sc9)
  f1 : d 1 = true → x36 = (.agg #[.int .i64 tt, .int .i64 n, .slice (some ⟨b, o, none⟩) gm gc])
  f2 : d 2 = true → x37 = (.pointer (some ⟨g + 1, 2, none⟩))
  f3 : d 3 = true → x38 = (.slice (some ⟨b2, o2, none⟩) tn cap)
  f4 : d 4 = true → x39 = (.int .i64 (i : Int))
  f5 : d 5 = true → x40 = (.pointer (some ⟨b2, o2 + i * 3, none⟩))
  f6 : d 6 = true → x41 = (.agg #[.int .i64 p', .int .i64 k', .slice a' n' c'])
  f7 : d 7 = true → x42 = (.slice ra rn rc)
  f8 : d 8 = true → x43 = (.slice ua un uc)
  f9 : d 9 = true → x5 = (.slice ua un uc)
  o9_8 : d 9 = true → d 8 = true
  o8_7 : d 8 = true → d 7 = true
  o8_0 : d 8 = true → d 0 = true
  s5 : d 9 = false → x5 = (.slice sa9 sn9 sc9)
  yh : Yh g tt n (some ⟨b, o, none⟩) gm gc (z : Int) k (some ⟨b2, o2, none⟩) tn cap W
  bw : Below w.heap.size w W
  own : d 8 = false → Dw w (.slice sa9 sn9 sc9) L1 W
  r7 : d 7 = true → d 8 = false → rn = yk.length ∧ Oth W ra yk.length rc (yk.map (Value.int .i64))
  r8 : d 8 = true → Dw w (.slice ua un uc) L2 W
set_option maxHeartbeats 8000000 in
set_option maxRecDepth 20000 in
theorem RYield_all (ps : List Pd) (P : Nat → Prop) (tt n : Int) (m : Nat) : ∀ (t : T), t.sz ≤ m → ∀ (pv v : Value) (s : Sy) (w : World), Pds w pv ps → Tx w P v t → sh ps t s = true → s.1 ≠ 1 → (yl ps t s).length ≤ 100000 →
    Calls Try.prog 16 #[.agg #[.int .i64 tt, .int .i64 n, pv], v] w fun e w' => ∃ ra rn rc, e = .returned (.slice ra rn rc) ∧ Dw w (.slice ra rn rc) (yl ps t s) w' := by
  induction m with
  | zero => intro t hm; have := t.sz_pos; omega
  | succ m ih =>
    intro t hm pv v s w hp hx hsh hs hl
    have HIH : Hid _ := ih
    clear ih
    obtain ⟨p, k, ao, cap, kids, vals, rfl, rfl, hkm, -, -⟩ := hx.shape
    have HX : Hid (Tx w P (.agg #[.int .i64 p, .int .i64 k, .slice ao kids.length cap]) (.mk p k kids)) := hx
    have HP : Hid (Pds w pv ps) := hp
    have HKS : Hid (∀ s ∈ kids, s.sz ≤ m) := fun s hs => by have := T.sz_lt (t := .mk p k kids) hs; omega
    obtain ⟨hpr, -, -, hsl⟩ := sh_node hsh hs
    have HSL : Hid (shL ps kids (bodyOf ps p) = true) := hsl
    have HE : Hid (yl ps (.mk p k kids) s = ylL ps kids (bodyOf ps p)) := by show _ = _; rw [yl, if_neg hs]
    rw [HE.out] at hl ⊢
    have HLT : Hid ((ylL ps kids (bodyOf ps p)).length ≤ 100000) := hl
    have hle := isPr_le hpr
    obtain ⟨z, rfl⟩ : ∃ z : Nat, p = (z : Int) := ⟨p.toNat, by omega⟩
    obtain ⟨ga, gc, rfl, -, -⟩ := hp
    obtain ⟨b, o, bo, bc, rfl, -, hbl, hc0, hc1, hsy⟩ := Pds.prod HP.out hpr
    simp only [Int.toNat_natCast] at hc0 hc1
    have HBL := shL_length hsl
    obtain ⟨body, HBD⟩ : ∃ body, Hid (bodyOf ps (z : Int) = body) := ⟨_, (rfl : bodyOf ps (z : Int) = bodyOf ps (z : Int))⟩
    rw [HBD.out] at hc1 hsy HSL HLT HBL ⊢
    have HKL : Hid (kids.length = body.length) := HBL
    have HC1 : Hid (w.cell? ⟨b, o + z * 2 + 1, none⟩ = some (.slice bo body.length bc)) := hc1
    have HSY : Hid (Syms w (.slice bo body.length bc) body) := hsy
    obtain ⟨gm, HGM⟩ : ∃ gm, Hid (ps.length = gm) := ⟨_, (rfl : ps.length = ps.length)⟩
    obtain ⟨bl, HBN⟩ : ∃ bl, Hid (body.length = bl) := ⟨_, (rfl : body.length = body.length)⟩
    rw [HGM.out] at hle HP ⊢
    rw [HBN.out] at HC1 HKL
    have hz0 : (0 : Int) ≤ (z : Int) := by omega
    have hz : (z : Int) < (gm : Int) := hle.2
    have hz2 : z < gm := by omega
    clear hle hc0 hc1 hsy hsl hx hsh hl hs HE HBL hpr
    have HB1 : Hid (Below w.heap.size w ((w.alloc (Obj.cells #[.int .i64 tt, .int .i64 n, .slice (some ⟨b, o, none⟩) gm gc] 24)).alloc (Obj.cells #[.int .i64 (z : Int), .int .i64 k, .slice ao kids.length cap] 27))) := below_alloc2 _ _ _
    have HG1 : Hid (Yh w.heap.size tt n (some ⟨b, o, none⟩) gm gc (z : Int) k ao kids.length cap ((w.alloc (Obj.cells #[.int .i64 tt, .int .i64 n, .slice (some ⟨b, o, none⟩) gm gc] 24)).alloc (Obj.cells #[.int .i64 (z : Int), .int .i64 k, .slice ao kids.length cap] 27))) := by
      refine ⟨tbox_next (heap_alloc_new _ _) (below_alloc _ _), ?_⟩
      have := heap_alloc_new (w.alloc (Obj.cells #[.int .i64 tt, .int .i64 n, .slice (some ⟨b, o, none⟩) gm gc] 24)) (Obj.cells #[.int .i64 (z : Int), .int .i64 k, .slice ao kids.length cap] 27)
      rw [show (w.alloc (Obj.cells #[.int .i64 tt, .int .i64 n, .slice (some ⟨b, o, none⟩) gm gc] 24)).heap.size = w.heap.size + 1 by simp] at this
      exact this
    go_enter Try.func16, Try.ntmps16
    go_upto_region 3 with fail
    generalize (w.alloc (Obj.cells #[.int .i64 tt, .int .i64 n, .slice (some ⟨b, o, none⟩) gm gc] 24)).alloc (Obj.cells #[.int .i64 (z : Int), .int .i64 k, .slice ao kids.length cap] 27) = w1 at HB1 HG1 ⊢
    obtain ⟨g, HGG⟩ : ∃ g, Hid (w.heap.size = g) := ⟨_, (rfl : w.heap.size = w.heap.size)⟩
    rw [HGG.out] at HG1 ⊢
    have HD2 : Hid (Dw w (.slice none 0 0) [] w1) := Dw.nil w HB1.out
    go_loopw [5, 6] (fun x y wr => ∃ (i : Nat) (a : Option Addr) (xn c : Nat), i ≤ kids.length ∧ x = .slice a xn c ∧ y = .int .i64 (i : Int) ∧ Hid (Dw w (.slice a xn c) (ylL ps (kids.take i) body) wr ∧ Yh g tt n (some ⟨b, o, none⟩) gm gc (z : Int) k ao kids.length cap wr)) (fun _ y _ => kids.length - (intOf y).toNat)
    case atStart =>
      refine ⟨0, _, _, _, by omega, rfl, rfl, ?_⟩
      rw [List.take_zero, ylL]
      exact ⟨HD2.out, HG1.out⟩
    case round =>
      obtain ⟨i, sa9, sn9, sc9, hi, rfl, rfl, HI⟩ := hrel
      clear HD2 HG1 HB1
      have e0 := tcell_blk HI.out.2.2 0
      have e2 := tcell_blk HI.out.2.2 2
      have f2 := tcell_blk HI.out.2.1 2
      simp only [List.getElem?_toArray, List.getElem?_cons_zero, List.getElem?_cons_succ] at e0 e2 f2
      by_cases hlt : i < kids.length
      · obtain ⟨b2, o2, p', k', a', n', c', rfl, KD⟩ := HX.out.kid i hlt
        have hib : i < body.length := by rw [HBN.out, ← HKL.out]; exact hlt
        obtain ⟨bo2, bc2, hse, -, hsc⟩ := HSY.out
        simp only [Value.slice.injEq] at hse
        obtain ⟨rfl, -, rfl⟩ := hse
        obtain ⟨b3, o3, rfl, hb3, hsc⟩ := hsc.resolve_left (by intro e; subst e; simp at hib)
        obtain ⟨g0, g1⟩ := hsc i hib
        have hsk := shL_at HSL.out i hlt
        have hg : body.getD i (0, 0) = body[i] := by rw [List.getD_eq_getElem?_getD, List.getElem?_eq_getElem hib]; rfl
        rw [hg] at hsk
        have HT : Hid (ylL ps (kids.take (i + 1)) body = ylL ps (kids.take i) body ++ yl ps kids[i] body[i] ∧ (ylL ps (kids.take i) body).length + (yl ps kids[i] body[i]).length ≤ 100000) := by
          have hl : (kids.take i).length = i := by rw [List.length_take]; omega
          have h1 : ylL ps (kids.take (i + 1)) body = ylL ps (kids.take i) body ++ yl ps kids[i] body[i] := by
            rw [List.take_succ_eq_append_getElem hlt, ylL_snoc, hl, hg]
          refine ⟨h1, ?_⟩
          have h2 := ylL_len ps (kids.take (i + 1)) (kids.drop (i + 1)) body
          rw [List.take_append_drop, h1, List.length_append] at h2
          have := HLT.out
          omega
        have hneg := sh_neg hsk
        rw [← KD.pr] at hneg
        have hbel := HI.out.1.bel
        have q0 : wr.cell? ⟨b2, o2 + i * 3, none⟩ = some (.int .i64 p') := (hbel.cell (p := ⟨b2, o2 + i * 3, none⟩) KD.lt).trans KD.c0
        have q1 : wr.cell? ⟨b2, o2 + i * 3 + 1, none⟩ = some (.int .i64 k') := (hbel.cell (p := ⟨b2, o2 + i * 3 + 1, none⟩) KD.lt).trans KD.c1
        have q2 : wr.cell? ⟨b2, o2 + i * 3 + 2, none⟩ = some (.slice a' n' c') := (hbel.cell (p := ⟨b2, o2 + i * 3 + 2, none⟩) KD.lt).trans KD.c2
        have q4 : wr.cell? ⟨b3, o3 + i * 2 + 1, none⟩ = some (.int .i64 body[i].2) := (hbel.cell (p := ⟨b3, o3 + i * 2 + 1, none⟩) hb3).trans g1
        have q5 : wr.cell? ⟨b, o + z * 2 + 1, none⟩ = some (.slice (some ⟨b3, o3, none⟩) bl bc) := (hbel.cell (p := ⟨b, o + z * 2 + 1, none⟩) hbl).trans HC1.out
        have hk1 : (i : Int) < (kids.length : Int) := by omega
        have hk2 : (i : Int) < (bl : Int) := by rw [← HKL.out]; omega
        have hk3 : i < bl := by omega
        have hk0 : (0 : Int) ≤ (i : Int) := by omega
        by_cases hpn : p' < 0
        · have HY : Hid (yl ps kids[i] body[i] = [body[i].2]) := by
            show _ = _
            have h1 := hneg.1 hpn
            have h2 := sh_is_leaf hsk h1
            rw [h2, yl, if_pos h1]
          generalize body[i].2 = xx at HY q4
          have HOT : Hid (Oth (wr.alloc (Obj.cells #[.int .i64 xx] 3)) (some ⟨wr.heap.size, 0, none⟩) [xx].length 1 ([xx].map (Value.int .i64))) := by
            refine ⟨fun h => (by cases h), fun _ => ⟨wr.heap.size, 0, rfl, fun j u hu => ?_⟩⟩
            have hj : j < 1 := (List.getElem?_eq_some_iff.1 hu).1
            obtain rfl : j = 0 := by omega
            simp at hu
            subst hu
            exact tcell_blk (heap_alloc_new _ _) 0
          obtain ⟨ua, un, uc, V, hrun, hdv, hfv⟩ := (HI.out.1.next (below_alloc wr (Obj.cells #[.int .i64 xx] 3))).app HOT.out (by have h1 := HT.out.2; rw [HY.out] at h1; simp at h1 ⊢; omega)
          have HRUN : Hid _ := hrun
          have HR5 : Hid (Dw w (.slice ua un uc) (ylL ps (kids.take (i + 1)) body) V ∧ Yh g tt n (some ⟨b, o, none⟩) gm gc (z : Int) k (some ⟨b2, o2, none⟩) kids.length cap V) := ⟨by rw [HT.out.1, HY.out]; exact hdv, (HI.out.2.next (below_alloc _ _)).fy hfv⟩
          clear hrun hdv hfv KD hneg hsc hsk
          go_wp2_with (at_builtin; refine wpList_append_run rfl _ _ 31 rfl _ _ rfl rfl HRUN.out ?_)
          go_roundw
          case rel => exact ⟨i + 1, _, _, _, by omega, rfl, by go_num, HR5⟩
          case measure => simp [intOf]; omega
        · have hpd : decide (p' < 0) = false := by simp; omega
          have HNE : Hid (body[i].1 ≠ 1) := fun e => hpn (hneg.2 e)
          have HKD : Hid (Kid w P b2 o2 i kids[i] p' k' a' n' c') := KD
          have HCL0 : Hid (∀ X, Below w.heap.size w X → Calls Try.prog 16 #[(.agg #[.int .i64 tt, .int .i64 n, .slice (some ⟨b, o, none⟩) gm gc]), (.agg #[.int .i64 p', .int .i64 k', .slice a' n' c'])] X fun e w' => ∃ ra rn rc, e = .returned (.slice ra rn rc) ∧ Dw X (.slice ra rn rc) (yl ps kids[i] body[i]) w') := fun X hb => HIH.out kids[i] (HKS.out _ (List.getElem_mem hlt)) _ _ _ _ (HP.out.below hb) (HKD.out.tx.bel hb) hsk HNE.out (by have := HT.out.2; omega)
          have HKC : Hid (∀ X, Below w.heap.size w X → X.cell? ⟨b2, o2 + i * 3, none⟩ = some (.int .i64 p') ∧ X.cell? ⟨b2, o2 + i * 3 + 1, none⟩ = some (.int .i64 k') ∧ X.cell? ⟨b2, o2 + i * 3 + 2, none⟩ = some (.slice a' n' c')) := fun X hb => ⟨(hb.cell (p := ⟨b2, o2 + i * 3, none⟩) HKD.out.lt).trans HKD.out.c0, (hb.cell (p := ⟨b2, o2 + i * 3 + 1, none⟩) HKD.out.lt).trans HKD.out.c1, (hb.cell (p := ⟨b2, o2 + i * 3 + 2, none⟩) HKD.out.lt).trans HKD.out.c2⟩
          obtain ⟨yk, HYK⟩ : ∃ yk, Hid (yl ps kids[i] body[i] = yk) := ⟨_, (rfl : yl ps kids[i] body[i] = _)⟩
          obtain ⟨L1, HL1⟩ : ∃ L1, Hid (ylL ps (kids.take i) body = L1) := ⟨_, (rfl : ylL ps (kids.take i) body = _)⟩
          obtain ⟨L2, HL2⟩ : ∃ L2, Hid (ylL ps (kids.take (i + 1)) body = L2) := ⟨_, (rfl : ylL ps (kids.take (i + 1)) body = _)⟩
          rw [HYK.out, HL1.out, HL2.out] at HT
          rw [HYK.out] at HCL0
          rw [HL1.out] at HI
          have HCL : Hid (∀ X, Below w.heap.size w X → Calls Try.prog 16 #[(.agg #[.int .i64 tt, .int .i64 n, .slice (some ⟨b, o, none⟩) gm gc]), (.agg #[.int .i64 p', .int .i64 k', .slice a' n' c'])] X fun e w' => ∃ ra rn rc, e = .returned (.slice ra rn rc) ∧ Dw X (.slice ra rn rc) yk w') := HCL0.out
          clear KD hneg hpn HCL0 hsc hsk g0 g1 hbel
          go_upto_region 7 with fail
          clear e0 e2 f2 q0 q1 q2 q4 q5
          refine wp_region_free mixed (fun a0 d a W => ∃ (ra : Option Addr) (rn : Nat) (rc : Nat) (ua : Option Addr) (un : Nat) (uc : Nat) (x5 x35 x36 x37 x38 x39 x40 x41 x42 x43 : Value), a = ((((((((((a0.put (some 5) x5).put (some 35) x35).put (some 36) x36).put (some 37) x37).put (some 38) x38).put (some 39) x39).put (some 40) x40).put (some 41) x41).put (some 42) x42).put (some 43) x43) ∧ Hid (RYi w g tt n b o gm gc z k b2 o2 kids.length cap i p' k' a' n' c' sa9 sn9 sc9 L1 yk L2 ra rn rc ua un uc d x5 x35 x36 x37 x38 x39 x40 x41 x42 x43 W)) (by kernel_rfl) ⟨none, 0, 0, none, 0, 0, (.slice sa9 sn9 sc9), u35, u36, u37, u38, u39, u40, u41, u42, u43, by simp only [Act.put, List.setIfInBounds_toArray, List.set_cons_zero, List.set_cons_succ], ?_⟩ ?_ ?_
          · exact ⟨fun h => no_way h, fun h => no_way h, fun h => no_way h, fun h => no_way h, fun h => no_way h, fun h => no_way h, fun h => no_way h, fun h => no_way h, fun h => no_way h, fun h => no_way h, fun h => no_way h, fun h => no_way h, fun h => no_way h, fun _ => rfl, HI.out.2.next ((Below.refl _ _).drew), (HI.out.1.next ((Below.refl _ _).drew)).bel, fun _ => HI.out.1.next ((Below.refl _ _).drew), fun h => no_way h, fun h => no_way h⟩
          · simp only [StepAll, and_true]
            refine ⟨?_, ?_, ?_, ?_, ?_, ?_, ?_, ?_, ?_, ?_⟩
            · intro d a W hI hd hdep
              obtain ⟨ra, rn, rc, ua, un, uc, x5, x35, x36, x37, x38, x39, x40, x41, x42, x43, rfl, hF⟩ := hI
              have HD9 : d 9 = false := no_later (fun h => hF.out.o8_0 (hF.out.o9_8 h)) hd
              obtain rfl := hF.out.s5 HD9
              clear HD9
              clear hdep hd
              intro K hK
              simp only [Act.put, List.setIfInBounds_toArray, List.set_cons_zero, List.set_cons_succ]
              go_simp
              refine hK.out _ _ ⟨ra, rn, rc, ua, un, uc, (.slice sa9 sn9 sc9), (.slice sa9 sn9 sc9), x36, x37, x38, x39, x40, x41, x42, x43, by simp only [Act.put, List.setIfInBounds_toArray, List.set_cons_zero, List.set_cons_succ], ?_⟩
              exact ⟨fun _ => rfl, fun h => hF.out.f1 (by simpa using h), fun h => hF.out.f2 (by simpa using h), fun h => hF.out.f3 (by simpa using h), fun h => hF.out.f4 (by simpa using h), fun h => hF.out.f5 (by simpa using h), fun h => hF.out.f6 (by simpa using h), fun h => hF.out.f7 (by simpa using h), fun h => hF.out.f8 (by simpa using h), fun h => hF.out.f9 (by simpa using h), fun h => by have := hF.out.o9_8 (by simpa using h); simpa using this, fun h => by have := hF.out.o8_7 (by simpa using h); simpa using this, fun _ => by simp, fun _ => rfl, hF.out.yh, hF.out.bw, fun h => hF.out.own (by simpa using h), fun h h2 => hF.out.r7 (by simpa using h) (by simpa using h2), fun h => hF.out.r8 (by simpa using h)⟩
            · intro d a W hI hd hdep
              obtain ⟨ra, rn, rc, ua, un, uc, x5, x35, x36, x37, x38, x39, x40, x41, x42, x43, rfl, hF⟩ := hI
              have y0 := tcell_blk hF.out.yh.1 0
              have y1 := tcell_blk hF.out.yh.1 1
              have y2 := tcell_blk hF.out.yh.1 2
              simp only [List.getElem?_toArray, List.getElem?_cons_zero, List.getElem?_cons_succ] at y0 y1 y2
              clear hdep hd
              intro K hK
              simp only [Act.put, List.setIfInBounds_toArray, List.set_cons_zero, List.set_cons_succ]
              go_simp
              refine hK.out _ _ ⟨ra, rn, rc, ua, un, uc, x5, x35, (.agg #[.int .i64 tt, .int .i64 n, .slice (some ⟨b, o, none⟩) gm gc]), x37, x38, x39, x40, x41, x42, x43, by simp only [Act.put, List.setIfInBounds_toArray, List.set_cons_zero, List.set_cons_succ], ?_⟩
              exact ⟨fun h => hF.out.f0 (by simpa using h), fun _ => rfl, fun h => hF.out.f2 (by simpa using h), fun h => hF.out.f3 (by simpa using h), fun h => hF.out.f4 (by simpa using h), fun h => hF.out.f5 (by simpa using h), fun h => hF.out.f6 (by simpa using h), fun h => hF.out.f7 (by simpa using h), fun h => hF.out.f8 (by simpa using h), fun h => hF.out.f9 (by simpa using h), fun h => by have := hF.out.o9_8 (by simpa using h); simpa using this, fun h => by have := hF.out.o8_7 (by simpa using h); simpa using this, fun h => by have := hF.out.o8_0 (by simpa using h); simpa using this, fun h => hF.out.s5 (by simpa using h), hF.out.yh, hF.out.bw, fun h => hF.out.own (by simpa using h), fun h h2 => hF.out.r7 (by simpa using h) (by simpa using h2), fun h => hF.out.r8 (by simpa using h)⟩
            · intro d a W hI hd hdep
              obtain ⟨ra, rn, rc, ua, un, uc, x5, x35, x36, x37, x38, x39, x40, x41, x42, x43, rfl, hF⟩ := hI
              clear hdep hd
              intro K hK
              simp only [Act.put, List.setIfInBounds_toArray, List.set_cons_zero, List.set_cons_succ]
              go_simp
              refine hK.out _ _ ⟨ra, rn, rc, ua, un, uc, x5, x35, x36, (.pointer (some ⟨g + 1, 2, none⟩)), x38, x39, x40, x41, x42, x43, by simp only [Act.put, List.setIfInBounds_toArray, List.set_cons_zero, List.set_cons_succ], ?_⟩
              exact ⟨fun h => hF.out.f0 (by simpa using h), fun h => hF.out.f1 (by simpa using h), fun _ => rfl, fun h => hF.out.f3 (by simpa using h), fun h => hF.out.f4 (by simpa using h), fun h => hF.out.f5 (by simpa using h), fun h => hF.out.f6 (by simpa using h), fun h => hF.out.f7 (by simpa using h), fun h => hF.out.f8 (by simpa using h), fun h => hF.out.f9 (by simpa using h), fun h => by have := hF.out.o9_8 (by simpa using h); simpa using this, fun h => by have := hF.out.o8_7 (by simpa using h); simpa using this, fun h => by have := hF.out.o8_0 (by simpa using h); simpa using this, fun h => hF.out.s5 (by simpa using h), hF.out.yh, hF.out.bw, fun h => hF.out.own (by simpa using h), fun h h2 => hF.out.r7 (by simpa using h) (by simpa using h2), fun h => hF.out.r8 (by simpa using h)⟩
            · intro d a W hI hd hdep
              obtain ⟨ra, rn, rc, ua, un, uc, x5, x35, x36, x37, x38, x39, x40, x41, x42, x43, rfl, hF⟩ := hI
              have hd2 : d 2 = true := dep_of hdep 2 (by kernel_rfl)
              obtain rfl := hF.out.f2 hd2
              have y2 := tcell_blk hF.out.yh.2 2
              simp only [List.getElem?_toArray, List.getElem?_cons_zero, List.getElem?_cons_succ] at y2
              clear hdep hd hd2
              intro K hK
              simp only [Act.put, List.setIfInBounds_toArray, List.set_cons_zero, List.set_cons_succ]
              go_simp
              refine hK.out _ _ ⟨ra, rn, rc, ua, un, uc, x5, x35, x36, (.pointer (some ⟨g + 1, 2, none⟩)), (.slice (some ⟨b2, o2, none⟩) kids.length cap), x39, x40, x41, x42, x43, by simp only [Act.put, List.setIfInBounds_toArray, List.set_cons_zero, List.set_cons_succ], ?_⟩
              exact ⟨fun h => hF.out.f0 (by simpa using h), fun h => hF.out.f1 (by simpa using h), fun h => hF.out.f2 (by simpa using h), fun _ => rfl, fun h => hF.out.f4 (by simpa using h), fun h => hF.out.f5 (by simpa using h), fun h => hF.out.f6 (by simpa using h), fun h => hF.out.f7 (by simpa using h), fun h => hF.out.f8 (by simpa using h), fun h => hF.out.f9 (by simpa using h), fun h => by have := hF.out.o9_8 (by simpa using h); simpa using this, fun h => by have := hF.out.o8_7 (by simpa using h); simpa using this, fun h => by have := hF.out.o8_0 (by simpa using h); simpa using this, fun h => hF.out.s5 (by simpa using h), hF.out.yh, hF.out.bw, fun h => hF.out.own (by simpa using h), fun h h2 => hF.out.r7 (by simpa using h) (by simpa using h2), fun h => hF.out.r8 (by simpa using h)⟩
            · intro d a W hI hd hdep
              obtain ⟨ra, rn, rc, ua, un, uc, x5, x35, x36, x37, x38, x39, x40, x41, x42, x43, rfl, hF⟩ := hI
              clear hdep hd
              intro K hK
              simp only [Act.put, List.setIfInBounds_toArray, List.set_cons_zero, List.set_cons_succ]
              go_simp
              refine hK.out _ _ ⟨ra, rn, rc, ua, un, uc, x5, x35, x36, x37, x38, (.int .i64 (i : Int)), x40, x41, x42, x43, by simp only [Act.put, List.setIfInBounds_toArray, List.set_cons_zero, List.set_cons_succ], ?_⟩
              exact ⟨fun h => hF.out.f0 (by simpa using h), fun h => hF.out.f1 (by simpa using h), fun h => hF.out.f2 (by simpa using h), fun h => hF.out.f3 (by simpa using h), fun _ => rfl, fun h => hF.out.f5 (by simpa using h), fun h => hF.out.f6 (by simpa using h), fun h => hF.out.f7 (by simpa using h), fun h => hF.out.f8 (by simpa using h), fun h => hF.out.f9 (by simpa using h), fun h => by have := hF.out.o9_8 (by simpa using h); simpa using this, fun h => by have := hF.out.o8_7 (by simpa using h); simpa using this, fun h => by have := hF.out.o8_0 (by simpa using h); simpa using this, fun h => hF.out.s5 (by simpa using h), hF.out.yh, hF.out.bw, fun h => hF.out.own (by simpa using h), fun h h2 => hF.out.r7 (by simpa using h) (by simpa using h2), fun h => hF.out.r8 (by simpa using h)⟩
            · intro d a W hI hd hdep
              obtain ⟨ra, rn, rc, ua, un, uc, x5, x35, x36, x37, x38, x39, x40, x41, x42, x43, rfl, hF⟩ := hI
              have hd3 : d 3 = true := dep_of hdep 3 (by kernel_rfl)
              have hd4 : d 4 = true := dep_of hdep 4 (by kernel_rfl)
              obtain rfl := hF.out.f3 hd3
              obtain rfl := hF.out.f4 hd4
              clear hdep hd hd3 hd4
              intro K hK
              simp only [Act.put, List.setIfInBounds_toArray, List.set_cons_zero, List.set_cons_succ]
              go_simp
              refine hK.out _ _ ⟨ra, rn, rc, ua, un, uc, x5, x35, x36, x37, (.slice (some ⟨b2, o2, none⟩) kids.length cap), (.int .i64 (i : Int)), (.pointer (some ⟨b2, o2 + i * 3, none⟩)), x41, x42, x43, by simp only [Act.put, List.setIfInBounds_toArray, List.set_cons_zero, List.set_cons_succ], ?_⟩
              exact ⟨fun h => hF.out.f0 (by simpa using h), fun h => hF.out.f1 (by simpa using h), fun h => hF.out.f2 (by simpa using h), fun h => hF.out.f3 (by simpa using h), fun h => hF.out.f4 (by simpa using h), fun _ => rfl, fun h => hF.out.f6 (by simpa using h), fun h => hF.out.f7 (by simpa using h), fun h => hF.out.f8 (by simpa using h), fun h => hF.out.f9 (by simpa using h), fun h => by have := hF.out.o9_8 (by simpa using h); simpa using this, fun h => by have := hF.out.o8_7 (by simpa using h); simpa using this, fun h => by have := hF.out.o8_0 (by simpa using h); simpa using this, fun h => hF.out.s5 (by simpa using h), hF.out.yh, hF.out.bw, fun h => hF.out.own (by simpa using h), fun h h2 => hF.out.r7 (by simpa using h) (by simpa using h2), fun h => hF.out.r8 (by simpa using h)⟩
            · intro d a W hI hd hdep
              obtain ⟨ra, rn, rc, ua, un, uc, x5, x35, x36, x37, x38, x39, x40, x41, x42, x43, rfl, hF⟩ := hI
              have hd5 : d 5 = true := dep_of hdep 5 (by kernel_rfl)
              obtain rfl := hF.out.f5 hd5
              have y0 := (HKC.out W hF.out.bw).1
              have y1 := (HKC.out W hF.out.bw).2.1
              have y2 := (HKC.out W hF.out.bw).2.2
              clear hdep hd hd5
              intro K hK
              simp only [Act.put, List.setIfInBounds_toArray, List.set_cons_zero, List.set_cons_succ]
              go_simp
              refine hK.out _ _ ⟨ra, rn, rc, ua, un, uc, x5, x35, x36, x37, x38, x39, (.pointer (some ⟨b2, o2 + i * 3, none⟩)), (.agg #[.int .i64 p', .int .i64 k', .slice a' n' c']), x42, x43, by simp only [Act.put, List.setIfInBounds_toArray, List.set_cons_zero, List.set_cons_succ], ?_⟩
              exact ⟨fun h => hF.out.f0 (by simpa using h), fun h => hF.out.f1 (by simpa using h), fun h => hF.out.f2 (by simpa using h), fun h => hF.out.f3 (by simpa using h), fun h => hF.out.f4 (by simpa using h), fun h => hF.out.f5 (by simpa using h), fun _ => rfl, fun h => hF.out.f7 (by simpa using h), fun h => hF.out.f8 (by simpa using h), fun h => hF.out.f9 (by simpa using h), fun h => by have := hF.out.o9_8 (by simpa using h); simpa using this, fun h => by have := hF.out.o8_7 (by simpa using h); simpa using this, fun h => by have := hF.out.o8_0 (by simpa using h); simpa using this, fun h => hF.out.s5 (by simpa using h), hF.out.yh, hF.out.bw, fun h => hF.out.own (by simpa using h), fun h h2 => hF.out.r7 (by simpa using h) (by simpa using h2), fun h => hF.out.r8 (by simpa using h)⟩
            · intro d a W hI hd hdep
              obtain ⟨ra, rn, rc, ua, un, uc, x5, x35, x36, x37, x38, x39, x40, x41, x42, x43, rfl, hF⟩ := hI
              have hd1 : d 1 = true := dep_of hdep 1 (by kernel_rfl)
              have hd6 : d 6 = true := dep_of hdep 6 (by kernel_rfl)
              obtain rfl := hF.out.f1 hd1
              obtain rfl := hF.out.f6 hd6
              have HD8 : Hid (d 8 = false) := no_later hF.out.o8_7 hd
              clear hdep hd hd1 hd6
              intro K hK
              simp only [Act.put, List.setIfInBounds_toArray, List.set_cons_zero, List.set_cons_succ]
              go_simp
              refine (HCL.out W hF.out.bw).mono ?_
              rintro _ W2 ⟨ra2, rn2, rc2, rfl, hd5⟩
              have hB := hd5.bel
              have hrl : Hid (rn2 = yk.length ∧ Oth W2 ra2 yk.length rc2 (yk.map (Value.int .i64))) := by
                obtain ⟨_, _, hre⟩ := own_len hd5.own
                simp only [Value.slice.injEq] at hre
                obtain ⟨-, rfl, -⟩ := hre
                exact ⟨rfl, Oth.own hd5.own⟩
              clear hd5
              go_simp
              refine hK.out _ _ ⟨ra2, rn2, rc2, ua, un, uc, x5, x35, (.agg #[.int .i64 tt, .int .i64 n, .slice (some ⟨b, o, none⟩) gm gc]), x37, x38, x39, x40, (.agg #[.int .i64 p', .int .i64 k', .slice a' n' c']), (.slice ra2 rn2 rc2), x43, by simp only [Act.put, List.setIfInBounds_toArray, List.set_cons_zero, List.set_cons_succ], ?_⟩
              exact ⟨fun h => hF.out.f0 (by simpa using h), fun h => hF.out.f1 (by simpa using h), fun h => hF.out.f2 (by simpa using h), fun h => hF.out.f3 (by simpa using h), fun h => hF.out.f4 (by simpa using h), fun h => hF.out.f5 (by simpa using h), fun h => hF.out.f6 (by simpa using h), fun _ => rfl, fun h => by have := HD8.out; simp [this] at h, fun h => by have := hF.out.o9_8 (by simpa using h); have h8 := HD8.out; simp [this] at h8, fun h => by have := hF.out.o9_8 (by simpa using h); simpa using this, fun _ => by simp, fun h => by have := hF.out.o8_0 (by simpa using h); simpa using this, fun h => hF.out.s5 (by simpa using h), hF.out.yh.next hB, hF.out.bw.trans (hB.mono hF.out.bw.size), fun h => (hF.out.own (by simpa using h)).next hB, fun _ _ => hrl.out, fun h => by have := HD8.out; simp [this] at h⟩
            · intro d a W hI hd hdep
              obtain ⟨ra, rn, rc, ua, un, uc, x5, x35, x36, x37, x38, x39, x40, x41, x42, x43, rfl, hF⟩ := hI
              have hd0 : d 0 = true := dep_of hdep 0 (by kernel_rfl)
              have hd7 : d 7 = true := dep_of hdep 7 (by kernel_rfl)
              obtain rfl := hF.out.f0 hd0
              obtain rfl := hF.out.f7 hd7
              have e8_7 := hd7
              have e8_0 := hd0
              have HD9 : Hid (d 9 = false) := no_later hF.out.o9_8 hd
              obtain ⟨hrn, hoth⟩ := hF.out.r7 hd7 hd
              obtain ⟨ua2, un2, uc2, W2, hrun, hdv, hfv⟩ := (hF.out.own hd).app hoth (by have := HT.out.2; omega)
              rw [← hrn] at hrun
              rw [← HT.out.1] at hdv
              clear hdep hd hd0 hd7
              intro K hK
              refine tstep_call_append (sv := (.slice sa9 sn9 sc9)) (xv := .slice ra rn rc) (v := .slice ua2 un2 uc2) (W1 := W2) (by rfl) _ _ 31 (by rfl) (by simp only [Act.put, List.setIfInBounds_toArray, List.set_cons_zero, List.set_cons_succ]; rfl) (by simp only [Act.put, List.setIfInBounds_toArray, List.set_cons_zero, List.set_cons_succ]; rfl) (by exact hrun) ?_
              simp only [Act.put, List.setIfInBounds_toArray, List.set_cons_zero, List.set_cons_succ]
              refine hK.out _ _ ⟨ra, rn, rc, ua2, un2, uc2, x5, (.slice sa9 sn9 sc9), x36, x37, x38, x39, x40, x41, (.slice ra rn rc), (.slice ua2 un2 uc2), by simp only [Act.put, List.setIfInBounds_toArray, List.set_cons_zero, List.set_cons_succ], ?_⟩
              exact ⟨fun h => hF.out.f0 (by simpa using h), fun h => hF.out.f1 (by simpa using h), fun h => hF.out.f2 (by simpa using h), fun h => hF.out.f3 (by simpa using h), fun h => hF.out.f4 (by simpa using h), fun h => hF.out.f5 (by simpa using h), fun h => hF.out.f6 (by simpa using h), fun h => hF.out.f7 (by simpa using h), fun _ => rfl, fun h => by have := HD9.out; simp [this] at h, fun _ => by simp, fun _ => by simpa using e8_7, fun _ => by simpa using e8_0, fun h => hF.out.s5 (by simpa using h), hF.out.yh.fy hfv, hdv.bel, fun h => by simp at h, fun _ h => by simp at h, fun _ => hdv⟩
            · intro d a W hI hd hdep
              obtain ⟨ra, rn, rc, ua, un, uc, x5, x35, x36, x37, x38, x39, x40, x41, x42, x43, rfl, hF⟩ := hI
              have hd8 : d 8 = true := dep_of hdep 8 (by kernel_rfl)
              obtain rfl := hF.out.f8 hd8
              have e9_8 := hd8
              clear hdep hd hd8
              intro K hK
              simp only [Act.put, List.setIfInBounds_toArray, List.set_cons_zero, List.set_cons_succ]
              go_simp
              refine hK.out _ _ ⟨ra, rn, rc, ua, un, uc, (.slice ua un uc), x35, x36, x37, x38, x39, x40, x41, x42, (.slice ua un uc), by simp only [Act.put, List.setIfInBounds_toArray, List.set_cons_zero, List.set_cons_succ], ?_⟩
              exact ⟨fun h => hF.out.f0 (by simpa using h), fun h => hF.out.f1 (by simpa using h), fun h => hF.out.f2 (by simpa using h), fun h => hF.out.f3 (by simpa using h), fun h => hF.out.f4 (by simpa using h), fun h => hF.out.f5 (by simpa using h), fun h => hF.out.f6 (by simpa using h), fun h => hF.out.f7 (by simpa using h), fun h => hF.out.f8 (by simpa using h), fun _ => rfl, fun _ => by simpa using e9_8, fun h => by have := hF.out.o8_7 (by simpa using h); simpa using this, fun h => by have := hF.out.o8_0 (by simpa using h); simpa using this, fun h => by simp at h, hF.out.yh, hF.out.bw, fun h => hF.out.own (by simpa using h), fun h h2 => hF.out.r7 (by simpa using h) (by simpa using h2), fun h => hF.out.r8 (by simpa using h)⟩
          · intro d a W hI hall
            obtain ⟨ra, rn, rc, ua, un, uc, x5, x35, x36, x37, x38, x39, x40, x41, x42, x43, rfl, hF⟩ := hI
            simp only [List.length_cons, List.length_nil] at hall
            obtain rfl := hF.out.f0 (hall 0 (by omega))
            obtain rfl := hF.out.f1 (hall 1 (by omega))
            obtain rfl := hF.out.f2 (hall 2 (by omega))
            obtain rfl := hF.out.f3 (hall 3 (by omega))
            obtain rfl := hF.out.f4 (hall 4 (by omega))
            obtain rfl := hF.out.f5 (hall 5 (by omega))
            obtain rfl := hF.out.f6 (hall 6 (by omega))
            obtain rfl := hF.out.f7 (hall 7 (by omega))
            obtain rfl := hF.out.f8 (hall 8 (by omega))
            obtain rfl := hF.out.f9 (hall 9 (by omega))
            have HR5 : Hid (Dw w (.slice ua un uc) (ylL ps (kids.take (i + 1)) body) W ∧ Yh g tt n (some ⟨b, o, none⟩) gm gc (z : Int) k (some ⟨b2, o2, none⟩) kids.length cap W) := ⟨by rw [HL2.out]; exact hF.out.r8 (hall 8 (by omega)), hF.out.yh⟩
            clear hF hall
            simp only [Act.put, List.setIfInBounds_toArray, List.set_cons_zero, List.set_cons_succ]
            go_wp2_with fail
            go_roundw
            case rel => exact ⟨i + 1, _, _, _, by omega, rfl, by go_num, HR5⟩
            case measure => simp [intOf]; omega
      · have hk1 : ¬ (i : Int) < (kids.length : Int) := by omega
        have h4 := HI.out.1
        rw [List.take_of_length_le (by omega : kids.length ≤ i)] at h4
        have HI2 : Hid _ := h4
        clear h4
        go_wp2_with fail
        go_ret
        exact ⟨_, _, _, rfl, HI2.out⟩
end Go.Proofs.Ytldfiofgknmcgaa
