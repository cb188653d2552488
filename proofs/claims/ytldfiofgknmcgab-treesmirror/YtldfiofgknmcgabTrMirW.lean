/-
  The contract of pushkeep.mirrored: a tree turned round, for every tree of the right form.
-/
import Derived.Test.YtldfiofgknmcgabTrMir
import Derived.Test.YtldfiofgknmcgabTrDone2
import Derived.Test.YtldfiofgknmcgabTrEnds
namespace Go.Proofs.Ytldfiofgknmcgab
open Go.RowKit
open Cg

theorem set3_apart2 {W : World} {g b : Nat} {x y z : Value} (h : b ≠ g) : (set3 W g x y z).heap[b]? = W.heap[b]? := by
  unfold set3
  rw [Below.heap_setCell _ _ _ _ (by simpa using h), Below.heap_setCell _ _ _ _ (by simpa using h), Below.heap_setCell _ _ _ _ (by simpa using h)]
theorem below_both {B : Nat} {w W : World} (h : Below B w W) {p : Addr} (v : Value) : Below B (w.setCell p v) (W.setCell p v) := by
  refine ⟨h.os, h.tape, h.output, by simpa [World.setCell] using h.size, fun k hk => ?_⟩
  by_cases e : k = p.block
  · subst e
    have hb := h.block p.block hk
    simp only [World.setCell, Array.getElem?_modify, hb]
  · rw [Below.heap_setCell _ _ _ _ e, Below.heap_setCell _ _ _ _ e]
    exact h.block k hk
theorem Dt.set {w0 : World} {dv : Value} {vs : List Value} {st : List T} {W : World} (h : Dt w0 dv vs st W) {ob j : Nat} (hob : ob < w0.heap.size) (v : Value) : Dt (w0.setCell ⟨ob, j, Option.none⟩ v) dv vs st (W.setCell ⟨ob, j, Option.none⟩ v) := by
  have e : (w0.setCell ⟨ob, j, Option.none⟩ v).heap.size = w0.heap.size := by simp [World.setCell]
  refine ⟨?_, h.len, fun i a b => ?_, ?_⟩
  · rw [e]
    refine town_keep h.own fun b hb => ?_
    have := own_ge h.own b hb
    exact Below.heap_setCell _ _ _ _ (by simp; omega)
  · have h1 := h.tx i a b
    have h2 : Tx (W.setCell ⟨ob, j, Option.none⟩ v) (Pw w0 dv) vs[i] st[i] := h1.next (fun b _ hp => Below.heap_setCell _ _ _ _ (by have := hp.1; simp; omega)) (by simp [World.setCell])
    exact h2.mono fun b _ hp => ⟨by rw [e]; exact hp.1, hp.2⟩
  · rw [e]; exact below_both h.bel v
/-- What mirrored holds in its loop. -/
structure MrH (w : World) (g ob : Nat) (p k : Int) (ao : Option Addr) (tn cap : Nat) (sa : Option Addr) (sn sc : Nat) (w0 : World) (vs : List Value) (ks : List T) (W : World) : Prop where
  b0 : Below w.heap.size w w0
  sz : w0.heap.size = ob + 1
  dt : Dt w0 (.slice sa sn sc) vs ks W
  bx : w0.heap[ob]? = some (.cells #[.int .i64 p, .int .i64 0, .slice sa sn sc] 27)
  t1 : w0.heap[g]? = some (.cells #[.int .i64 p, .int .i64 k, .slice ao tn cap] 27)
  t2 : w0.heap[g + 1]? = some (.cells #[.int .i64 0, .int .i64 0, .slice none 0 0] 27)
  gt : g + 1 < ob
  ge : w.heap.size ≤ ob
theorem MrH.bel {w : World} {g ob : Nat} {p k : Int} {ao : Option Addr} {tn cap : Nat} {sa : Option Addr} {sn sc : Nat} {w0 : World} {vs : List Value} {ks : List T} {W : World} (h : MrH w g ob p k ao tn cap sa sn sc w0 vs ks W) : Below w.heap.size w W := h.b0.trans (h.dt.bel.mono h.b0.size)
theorem MrH.put {w : World} {g ob : Nat} {p k : Int} {ao : Option Addr} {tn cap : Nat} {sa : Option Addr} {sn sc : Nat} {w0 : World} {vs vs2 : List Value} {ks ks2 : List T} {W V : World} {ra : Option Addr} {rm rc : Nat} (h : MrH w g ob p k ao tn cap sa sn sc w0 vs ks W) (hd : Dt w0 (.slice ra rm rc) vs2 ks2 V) :
    MrH w g ob p k ao tn cap ra rm rc (w0.setCell ⟨ob, 2, none⟩ (.slice ra rm rc)) vs2 ks2 (V.setCell ⟨ob, 2, none⟩ (.slice ra rm rc)) := by
  have hgt := h.gt
  refine ⟨h.b0.setCell (p := ⟨ob, 2, none⟩) h.ge _, by simpa [World.setCell] using h.sz, hd.set (by have := h.sz; omega) _, ?_, ?_, ?_, h.gt, h.ge⟩
  · have := tblock_store (i := 2) h.bx (.slice ra rm rc)
    simpa using this
  · rw [Below.heap_setCell _ _ _ _ (by simp; omega)]; exact h.t1
  · rw [Below.heap_setCell _ _ _ _ (by simp; omega)]; exact h.t2
structure RMw (wr w0 : World) (g ob : Nat) (sa : Option Addr) (sn sc b2 o2 tn cap i n : Nat) (p' k' : Int) (a' : Option Addr) (n' c' : Nat) (vs : List Value) (ks : List T) (x : T) (p2 : Int) (k2 : Int) (a2 : Option Addr) (m2 : Nat) (c2 : Nat) (gb : Nat) (ra : Option Addr) (rm : Nat) (rc : Nat) (d : Nat → Bool) (x27 x28 x29 x30 x31 x32 x33 x34 x35 x36 x37 x38 : Value) (W : World) : Prop where
  f0 : d 0 = true → x27 = (.pointer (some ⟨ob, 2, none⟩))
  f1 : d 1 = true → x28 = (.slice sa sn sc)
  f2 : d 2 = true → x29 = (.pointer (some ⟨g, 2, none⟩))
  f3 : d 3 = true → x30 = (.slice (some ⟨b2, o2, none⟩) tn cap)
  f4 : d 4 = true → x31 = (.int .i64 (i : Int))
  f5 : d 5 = true → x32 = (.pointer (some ⟨b2, o2 + i * 3, none⟩))
  f6 : d 6 = true → x33 = (.agg #[.int .i64 p', .int .i64 k', .slice a' n' c'])
  f7 : d 7 = true → x34 = (.int .i64 (n : Int))
  f8 : d 8 = true → x35 = (.agg #[.int .i64 p2, .int .i64 k2, .slice a2 m2 c2])
  f9 : d 9 = true → x36 = (.slice (some ⟨gb, 0, none⟩) 1 1)
  f10 : d 10 = true → x37 = (.slice ra rm rc)
  f11 : d 11 = true → x38 = (.pointer (some ⟨ob, 2, none⟩))
  f12 : d 12 = true → True
  o10_1 : d 10 = true → d 1 = true
  o5_3 : d 5 = true → d 3 = true
  o6_5 : d 6 = true → d 5 = true
  o8_6 : d 8 = true → d 6 = true
  o9_8 : d 9 = true → d 8 = true
  o10_9 : d 10 = true → d 9 = true
  o12_10 : d 12 = true → d 10 = true
  bw : d 10 = false → Below wr.heap.size wr W
  r8 : d 8 = true → d 10 = false → Tx W (fun b => wr.heap.size ≤ b) (.agg #[.int .i64 p2, .int .i64 k2, .slice a2 m2 c2]) x
  r9 : d 9 = true → d 10 = false → W.heap[gb]? = some (.cells #[.int .i64 p2, .int .i64 k2, .slice a2 m2 c2] 27)
  r10 : d 10 = true → d 12 = false → Dt w0 (.slice ra rm rc) (vs ++ [(.agg #[.int .i64 p2, .int .i64 k2, .slice a2 m2 c2])]) (ks ++ [x]) W
  fin : d 12 = true → ∃ V, Dt w0 (.slice ra rm rc) (vs ++ [(.agg #[.int .i64 p2, .int .i64 k2, .slice a2 m2 c2])]) (ks ++ [x]) V ∧ W = V.setCell ⟨ob, 2, none⟩ (.slice ra rm rc)

def MiQ (w : World) (x : T) (e : Ending) (w' : World) : Prop := ∃ p k a m c, e = .returned (.agg #[.int .i64 p, .int .i64 k, .slice a m c]) ∧ Below w.heap.size w w' ∧ Tx w' (fun b => w.heap.size ≤ b) (.agg #[.int .i64 p, .int .i64 k, .slice a m c]) x
theorem szL_ge : ∀ (l : List T), l.length ≤ szL l
  | [] => by simp
  | t :: l => by have := szL_ge l; have := t.sz_pos; rw [szL, List.length_cons]; omega
theorem tkL_mem {t : T} : ∀ {l : List T}, t ∈ l → ∀ k ∈ tk t, k ∈ tkL l
  | u :: l, h, k, hk => by
    rw [tkL]
    rcases List.mem_cons.1 h with rfl | h
    · exact List.mem_append_left _ hk
    · exact List.mem_append_right _ (tkL_mem h k hk)
set_option maxHeartbeats 8000000 in
set_option maxRecDepth 20000 in
theorem mirrored_all (ps : List Pd) (P : Nat → Prop) (n : Nat) (hn : n ≤ 100000) (m : Nat) (hm9 : m ≤ 100000) : ∀ (x : T), x.sz ≤ m → ∀ (v : Value) (s : Sy) (w : World), Tx w P v x → sh ps x s = true → (∀ k ∈ tk x, 0 ≤ k ∧ k ≤ 100000) →
    Calls Try.prog 11 #[v, .int .i64 (n : Int)] w fun e w' => MiQ w (mirT n x) e w' := by
  induction m with
  | zero => intro t hm; have := t.sz_pos; omega
  | succ m ih =>
    intro x hm v s w hx hsh htk
    have HIH : Hid _ := ih (by omega)
    clear ih
    obtain ⟨p, k, ao, cap, kids, vals, rfl, rfl, hkm, -, -⟩ := hx.shape
    have HX : Hid (Tx w P (.agg #[.int .i64 p, .int .i64 k, .slice ao kids.length cap]) (.mk p k kids)) := hx
    have HKS : Hid (∀ s ∈ kids, s.sz ≤ m) := fun s hs => by have := T.sz_lt (t := .mk p k kids) hs; omega
    have HKL0 : Hid (kids.length + 1 ≤ 1000000) := by
      have h1 := szL_ge kids
      rw [T.sz] at hm
      show _ ≤ _
      omega
    obtain ⟨tn, HTN⟩ : ∃ tn, Hid (kids.length = tn) := ⟨_, (rfl : kids.length = kids.length)⟩
    rw [HTN.out] at HX hkm ⊢
    have HB1 : Hid (Below w.heap.size w ((w.alloc (Obj.cells #[.int .i64 p, .int .i64 k, .slice ao tn cap] 27)).alloc (Obj.cells #[.int .i64 0, .int .i64 0, .slice none 0 0] 27))) := below_alloc2 _ _ _
    have HG1 : Hid (((w.alloc (Obj.cells #[.int .i64 p, .int .i64 k, .slice ao tn cap] 27)).alloc (Obj.cells #[.int .i64 0, .int .i64 0, .slice none 0 0] 27)).heap[w.heap.size]? = some (.cells #[.int .i64 p, .int .i64 k, .slice ao tn cap] 27) ∧ ((w.alloc (Obj.cells #[.int .i64 p, .int .i64 k, .slice ao tn cap] 27)).alloc (Obj.cells #[.int .i64 0, .int .i64 0, .slice none 0 0] 27)).heap[w.heap.size + 1]? = some (.cells #[.int .i64 0, .int .i64 0, .slice none 0 0] 27)) := by
      have g1 := heap_alloc_new (w.alloc (Obj.cells #[.int .i64 p, .int .i64 k, .slice ao tn cap] 27)) (Obj.cells #[.int .i64 0, .int .i64 0, .slice none 0 0] 27)
      rw [show (w.alloc (Obj.cells #[.int .i64 p, .int .i64 k, .slice ao tn cap] 27)).heap.size = w.heap.size + 1 by simp] at g1
      exact ⟨tbox_next (heap_alloc_new _ _) (below_alloc _ _), g1⟩
    go_enter Try.func11, Try.ntmps11
    go_upto_region 1 with fail
    generalize ((w.alloc (Obj.cells #[.int .i64 p, .int .i64 k, .slice ao tn cap] 27)).alloc (Obj.cells #[.int .i64 0, .int .i64 0, .slice none 0 0] 27)) = w1 at HB1 HG1 ⊢
    obtain ⟨g, HGG⟩ : ∃ g, Hid (w.heap.size = g) := ⟨_, (rfl : w.heap.size = w.heap.size)⟩
    rw [HGG.out] at HG1 ⊢
    have b0 := tcell_blk HG1.out.1 0
    have b1 := tcell_blk HG1.out.1 1
    have b2 := tcell_blk HG1.out.1 2
    simp only [List.getElem?_toArray, List.getElem?_cons_zero, List.getElem?_cons_succ] at b0 b1 b2
    by_cases h4 : s.1 = 1
    · have h5 := sh_is_leaf hsh h4
      injection h5 with e1 e2 e3
      have hk := htk k (by rw [tk, if_pos e1]; simp)
      have hp0 : p < 0 := by omega
      have HMT : Hid (mirT n (.mk p k kids) = .mk (-1) ((n : Int) - 1 - k) []) := by show _ = _; rw [mirT, if_pos hp0]
      clear htk hx e1 e2 e3 hsh
      have HGR := HG1.out.2
      have HV := set3_blk HGR (.int .i64 (-1)) (.int .i64 ((n : Int) - 1 - k)) (.slice none 0 0)
      have HBV : Hid (Below w.heap.size w (set3 w1 (g + 1) (.int .i64 (-1)) (.int .i64 ((n : Int) - 1 - k)) (.slice none 0 0))) := set3_bel HB1.out (by have := HGG.out; omega)
      have r0 := tcell_blk HGR 0
      have r1 := tcell_blk HGR 1
      have r2 := tcell_blk HGR 2
      have f0 := tfrozen_blk HGR 0
      have f1 := tfrozen_blk HGR 1
      have f2 := tfrozen_blk HGR 2
      simp only [List.getElem?_toArray, List.getElem?_cons_zero, List.getElem?_cons_succ] at r0 r1 r2
      go_wp2_with fail
      rw [← set3_eq]
      generalize set3 w1 (g + 1) (.int .i64 (-1)) (.int .i64 ((n : Int) - 1 - k)) (.slice none 0 0) = w9 at *
      have z0 := tcell_blk HV 0
      have z1 := tcell_blk HV 1
      have z2 := tcell_blk HV 2
      simp only [List.getElem?_toArray, List.getElem?_cons_zero, List.getElem?_cons_succ] at z0 z1 z2
      exact bodyPost_ret (v := .agg #[.int .i64 (-1), .int .i64 ((n : Int) - 1 - k), .slice none 0 0]) (by simp [results, Try.results11, go_sem, z0, z1, z2]) rfl ⟨_, _, _, _, _, rfl, HBV.out, by rw [HMT.out]; exact Tx.mk (-1) _ none 0 [] (fun _ => undef) (by simp) (Or.inl rfl) (fun i hi => absurd hi (Nat.not_lt_zero _))⟩
    · obtain ⟨h1, h2, h3, h5⟩ := sh_node hsh h4
      subst h3
      have hle := isPr_le h1
      have HMT : Hid (mirT n (.mk p 0 kids) = .mk p 0 (mirL n kids)) := by show _ = _; rw [mirT, if_neg (by omega)]
      have HSL : Hid (shL ps kids (bodyOf ps p) = true) := h5
      have HTK : Hid (∀ t ∈ kids, ∀ k ∈ tk t, 0 ≤ k ∧ k ≤ 100000) := fun t ht k hk => htk k (by rw [tk, if_neg (by omega)]; exact tkL_mem ht k hk)
      have hp0 : ¬ p < 0 := by omega
      clear htk hx hle h1 h2 h5 hsh
      have HST : Hid (MrH w g w1.heap.size p 0 ao tn cap none 0 0 (w1.alloc (Obj.cells #[.int .i64 p, .int .i64 0, .slice none 0 0] 27)) [] [] (w1.alloc (Obj.cells #[.int .i64 p, .int .i64 0, .slice none 0 0] 27))) :=
        ⟨HB1.out.trans ((below_alloc _ _).mono HB1.out.size), by simp, Dt.nil _ (Below.refl _ _), heap_alloc_new _ _, tbox_next HG1.out.1 (below_alloc _ _), tbox_next HG1.out.2 (below_alloc _ _), heap_lt3 HG1.out.2, HB1.out.size⟩
      go_upto_region 4 with fail
      obtain ⟨ob, HOBN⟩ : ∃ ob, Hid (w1.heap.size = ob) := ⟨_, (rfl : w1.heap.size = _)⟩
      rw [HOBN.out] at HST ⊢
      generalize w1.alloc (Obj.cells #[.int .i64 p, .int .i64 0, .slice none 0 0] 27) = w3 at HST ⊢
      have HSTART : Hid (∃ w0 vs, MrH w g ob p 0 ao tn cap none 0 0 w0 vs (mirL n (kids.drop tn)) w3) := by
        refine ⟨w3, [], ?_⟩
        rw [List.drop_eq_nil_of_le (by rw [HTN.out]; omega), mirL]
        exact HST.out
      have b3 := tcell_blk HST.out.t1 2
      simp only [List.getElem?_toArray, List.getElem?_cons_zero, List.getElem?_cons_succ] at b3
      clear HST HB1 HG1 b0 b1 b2 HOBN
      go_upto_region 5 with fail
      clear b3
      go_loopw [6] (fun y wr => ∃ (q : Nat) (Y : Int) (sa : Option Addr) (sn sc : Nat), q ≤ tn ∧ Y = (q : Int) - 1 ∧ y = .int .i64 Y ∧ Hid (∃ w0 vs, MrH w g ob p 0 ao tn cap sa sn sc w0 vs (mirL n (kids.drop q)) wr)) (fun y _ => (intOf y + 1).toNat)
      case atStart => exact ⟨tn, (tn : Int) - 1, none, 0, 0, by omega, rfl, by go_num, HSTART⟩
      case round =>
        obtain ⟨q, Y, sa, sn, sc, hq, hY, rfl, HI⟩ := hrel
        clear HSTART
        obtain ⟨w0, vs, hod⟩ := HI.out
        have HOD : Hid (MrH w g ob p 0 ao tn cap sa sn sc w0 vs (mirL n (kids.drop q)) wr) := hod
        clear HI hod
        have HWR : Hid (Below w.heap.size w wr) := HOD.out.bel
        by_cases hq0 : 0 < q
        · obtain ⟨i, rfl⟩ : ∃ i, q = i + 1 := ⟨q - 1, by omega⟩
          obtain rfl : Y = (i : Int) := by omega
          clear hY hq0
          have hik : i < kids.length := by rw [HTN.out]; omega
          obtain ⟨b2, o2, p', k', a', n', c', rfl, KD⟩ := HX.out.kid i hik
          have HKD : Hid (Kid w P b2 o2 i kids[i] p' k' a' n' c') := KD
          clear KD
          have hsk := shL_at HSL.out i hik
          have HCL : Hid (∀ W, Below wr.heap.size wr W → Calls Try.prog 11 #[(.agg #[.int .i64 p', .int .i64 k', .slice a' n' c']), .int .i64 (n : Int)] W fun e w' => MiQ W (mirT n kids[i]) e w') := fun W hb => by
            have h1 := HWR.out.trans (hb.mono HWR.out.size)
            exact HIH.out kids[i] (HKS.out _ (List.getElem_mem hik)) _ _ W (HKD.out.tx.bel h1) hsk (HTK.out _ (List.getElem_mem hik))
          have HKC : Hid (∀ W, Below wr.heap.size wr W → W.cell? ⟨b2, o2 + i * 3, none⟩ = some (.int .i64 p') ∧ W.cell? ⟨b2, o2 + i * 3 + 1, none⟩ = some (.int .i64 k') ∧ W.cell? ⟨b2, o2 + i * 3 + 2, none⟩ = some (.slice a' n' c')) := fun W hb => by
            have h1 := HWR.out.trans (hb.mono HWR.out.size)
            exact ⟨(h1.cell (p := ⟨b2, o2 + i * 3, none⟩) HKD.out.lt).trans HKD.out.c0, (h1.cell (p := ⟨b2, o2 + i * 3 + 1, none⟩) HKD.out.lt).trans HKD.out.c1, (h1.cell (p := ⟨b2, o2 + i * 3 + 2, none⟩) HKD.out.lt).trans HKD.out.c2⟩
          obtain ⟨xk, HXK⟩ : ∃ xk, Hid (mirT n kids[i] = xk) := ⟨_, (rfl : mirT n kids[i] = _)⟩
          rw [HXK.out] at HCL
          obtain ⟨ks, HKSN⟩ : ∃ ks, Hid (mirL n (kids.drop (i + 1)) = ks) := ⟨_, (rfl : mirL n (kids.drop (i + 1)) = _)⟩
          rw [HKSN.out] at HOD
          have HKS2 : Hid (mirL n (kids.drop i) = ks ++ [xk]) := by show _ = _; rw [List.drop_eq_getElem_cons hik, mirL, HKSN.out, HXK.out]
          have HKL : Hid (ks.length + 1 ≤ 1000000) := by
            have h1 := HKL0.out
            have h2 := congrArg List.length HKSN.out
            rw [mirL_length, List.length_drop] at h2
            show _ ≤ _
            omega
          have HDT : Hid (Dt w0 (.slice sa sn sc) vs ks wr) := HOD.out.dt
          have HOS : Hid (ob < w0.heap.size ∧ w0.heap[ob]? = some (.cells #[.int .i64 p, .int .i64 0, .slice sa sn sc] 27)) := ⟨by have := HOD.out.sz; omega, HOD.out.bx⟩
          have HOB : Hid (∀ W, Below wr.heap.size wr W → W.cell? ⟨ob, 2, none⟩ = some (.slice sa sn sc)) := fun W hb => by
            have h1 := (HDT.out.bel.trans (hb.mono HDT.out.bel.size)).block ob HOS.out.1
            have := tcell_blk (h1.trans HOS.out.2) 2
            simpa using this
          have HTB : Hid (∀ W, Below wr.heap.size wr W → W.cell? ⟨g, 2, none⟩ = some (.slice (some ⟨b2, o2, none⟩) tn cap)) := fun W hb => by
            have h1 := (HDT.out.bel.trans (hb.mono HDT.out.bel.size)).block g (by have := HOD.out.sz; have := HOD.out.gt; omega)
            have := tcell_blk (h1.trans HOD.out.t1) 2
            simpa using this
          have hk1 : (i : Int) < (tn : Int) := by omega
          have hk2 : i < tn := by omega
          have hk0 : (0 : Int) ≤ (i : Int) := by omega
          clear hsk
          go_upto_region 7 with fail
          refine wp_region_free mixed (fun a0 d a W => ∃ (p2 : Int) (k2 : Int) (a2 : Option Addr) (m2 : Nat) (c2 : Nat) (gb : Nat) (ra : Option Addr) (rm : Nat) (rc : Nat) (x27 x28 x29 x30 x31 x32 x33 x34 x35 x36 x37 x38 : Value), a = ((((((((((((a0.put (some 27) x27).put (some 28) x28).put (some 29) x29).put (some 30) x30).put (some 31) x31).put (some 32) x32).put (some 33) x33).put (some 34) x34).put (some 35) x35).put (some 36) x36).put (some 37) x37).put (some 38) x38) ∧ Hid (RMw wr w0 g ob sa sn sc b2 o2 tn cap i n p' k' a' n' c' vs ks xk p2 k2 a2 m2 c2 gb ra rm rc d x27 x28 x29 x30 x31 x32 x33 x34 x35 x36 x37 x38 W)) (by kernel_rfl) ⟨0, 0, none, 0, 0, 0, none, 0, 0, u27, u28, u29, u30, u31, u32, u33, u34, u35, u36, u37, u38, by first | (simp only [Act.put, List.setIfInBounds_toArray, List.set_cons_zero, List.set_cons_succ]; done) | (simp only [Act.put, List.setIfInBounds_toArray, List.set_cons_zero, List.set_cons_succ]; rfl), ?_⟩ ?_ ?_
          · exact ⟨fun h => no_way h, fun h => no_way h, fun h => no_way h, fun h => no_way h, fun h => no_way h, fun h => no_way h, fun h => no_way h, fun h => no_way h, fun h => no_way h, fun h => no_way h, fun h => no_way h, fun h => no_way h, fun _ => trivial, fun h => no_way h, fun h => no_way h, fun h => no_way h, fun h => no_way h, fun h => no_way h, fun h => no_way h, fun h => no_way h, fun _ => (Below.refl _ _).drew, fun h => no_way h, fun h => no_way h, fun h => no_way h, fun h => no_way h⟩
          · simp only [StepAll, and_true]
            refine ⟨?_, ?_, ?_, ?_, ?_, ?_, ?_, ?_, ?_, ?_, ?_, ?_, ?_⟩
            · intro d a W hI hd hdep
              obtain ⟨p2, k2, a2, m2, c2, gb, ra, rm, rc, x27, x28, x29, x30, x31, x32, x33, x34, x35, x36, x37, x38, rfl, hF⟩ := hI
              clear hdep hd
              intro K hK
              simp only [Act.put, List.setIfInBounds_toArray, List.set_cons_zero, List.set_cons_succ]
              go_simp
              refine hK.out _ _ ⟨p2, k2, a2, m2, c2, gb, ra, rm, rc, (.pointer (some ⟨ob, 2, none⟩)), x28, x29, x30, x31, x32, x33, x34, x35, x36, x37, x38, by first | (simp only [Act.put, List.setIfInBounds_toArray, List.set_cons_zero, List.set_cons_succ]; done) | (simp only [Act.put, List.setIfInBounds_toArray, List.set_cons_zero, List.set_cons_succ]; rfl), ?_⟩
              exact ⟨fun _ => rfl, fun h => hF.out.f1 (by simpa using h), fun h => hF.out.f2 (by simpa using h), fun h => hF.out.f3 (by simpa using h), fun h => hF.out.f4 (by simpa using h), fun h => hF.out.f5 (by simpa using h), fun h => hF.out.f6 (by simpa using h), fun h => hF.out.f7 (by simpa using h), fun h => hF.out.f8 (by simpa using h), fun h => hF.out.f9 (by simpa using h), fun h => hF.out.f10 (by simpa using h), fun h => hF.out.f11 (by simpa using h), fun h => hF.out.f12 (by simpa using h), fun h => by have := hF.out.o10_1 (by simpa using h); simpa using this, fun h => by have := hF.out.o5_3 (by simpa using h); simpa using this, fun h => by have := hF.out.o6_5 (by simpa using h); simpa using this, fun h => by have := hF.out.o8_6 (by simpa using h); simpa using this, fun h => by have := hF.out.o9_8 (by simpa using h); simpa using this, fun h => by have := hF.out.o10_9 (by simpa using h); simpa using this, fun h => by have := hF.out.o12_10 (by simpa using h); simpa using this, fun h => hF.out.bw (by simpa using h), fun h h2 => hF.out.r8 (by simpa using h) (by simpa using h2), fun h h2 => hF.out.r9 (by simpa using h) (by simpa using h2), fun h h2 => hF.out.r10 (by simpa using h) (by simpa using h2), fun h => hF.out.fin (by simpa using h)⟩
            · intro d a W hI hd hdep
              obtain ⟨p2, k2, a2, m2, c2, gb, ra, rm, rc, x27, x28, x29, x30, x31, x32, x33, x34, x35, x36, x37, x38, rfl, hF⟩ := hI
              have hd0 : d 0 = true := dep_of hdep 0 (by kernel_rfl)
              obtain rfl := hF.out.f0 hd0
              have HD10 : Hid (d 10 = false) := no_later (fun h => hF.out.o10_1 h) hd
              have hbw := hF.out.bw HD10.out
              have q0 := HOB.out W hbw
              clear hbw HD10
              clear hdep hd hd0
              intro K hK
              simp only [Act.put, List.setIfInBounds_toArray, List.set_cons_zero, List.set_cons_succ]
              go_simp
              refine hK.out _ _ ⟨p2, k2, a2, m2, c2, gb, ra, rm, rc, (.pointer (some ⟨ob, 2, none⟩)), (.slice sa sn sc), x29, x30, x31, x32, x33, x34, x35, x36, x37, x38, by first | (simp only [Act.put, List.setIfInBounds_toArray, List.set_cons_zero, List.set_cons_succ]; done) | (simp only [Act.put, List.setIfInBounds_toArray, List.set_cons_zero, List.set_cons_succ]; rfl), ?_⟩
              exact ⟨fun h => hF.out.f0 (by simpa using h), fun _ => rfl, fun h => hF.out.f2 (by simpa using h), fun h => hF.out.f3 (by simpa using h), fun h => hF.out.f4 (by simpa using h), fun h => hF.out.f5 (by simpa using h), fun h => hF.out.f6 (by simpa using h), fun h => hF.out.f7 (by simpa using h), fun h => hF.out.f8 (by simpa using h), fun h => hF.out.f9 (by simpa using h), fun h => hF.out.f10 (by simpa using h), fun h => hF.out.f11 (by simpa using h), fun h => hF.out.f12 (by simpa using h), fun _ => by simp, fun h => by have := hF.out.o5_3 (by simpa using h); simpa using this, fun h => by have := hF.out.o6_5 (by simpa using h); simpa using this, fun h => by have := hF.out.o8_6 (by simpa using h); simpa using this, fun h => by have := hF.out.o9_8 (by simpa using h); simpa using this, fun h => by have := hF.out.o10_9 (by simpa using h); simpa using this, fun h => by have := hF.out.o12_10 (by simpa using h); simpa using this, fun h => hF.out.bw (by simpa using h), fun h h2 => hF.out.r8 (by simpa using h) (by simpa using h2), fun h h2 => hF.out.r9 (by simpa using h) (by simpa using h2), fun h h2 => hF.out.r10 (by simpa using h) (by simpa using h2), fun h => hF.out.fin (by simpa using h)⟩
            · intro d a W hI hd hdep
              obtain ⟨p2, k2, a2, m2, c2, gb, ra, rm, rc, x27, x28, x29, x30, x31, x32, x33, x34, x35, x36, x37, x38, rfl, hF⟩ := hI
              clear hdep hd
              intro K hK
              simp only [Act.put, List.setIfInBounds_toArray, List.set_cons_zero, List.set_cons_succ]
              go_simp
              refine hK.out _ _ ⟨p2, k2, a2, m2, c2, gb, ra, rm, rc, x27, x28, (.pointer (some ⟨g, 2, none⟩)), x30, x31, x32, x33, x34, x35, x36, x37, x38, by first | (simp only [Act.put, List.setIfInBounds_toArray, List.set_cons_zero, List.set_cons_succ]; done) | (simp only [Act.put, List.setIfInBounds_toArray, List.set_cons_zero, List.set_cons_succ]; rfl), ?_⟩
              exact ⟨fun h => hF.out.f0 (by simpa using h), fun h => hF.out.f1 (by simpa using h), fun _ => rfl, fun h => hF.out.f3 (by simpa using h), fun h => hF.out.f4 (by simpa using h), fun h => hF.out.f5 (by simpa using h), fun h => hF.out.f6 (by simpa using h), fun h => hF.out.f7 (by simpa using h), fun h => hF.out.f8 (by simpa using h), fun h => hF.out.f9 (by simpa using h), fun h => hF.out.f10 (by simpa using h), fun h => hF.out.f11 (by simpa using h), fun h => hF.out.f12 (by simpa using h), fun h => by have := hF.out.o10_1 (by simpa using h); simpa using this, fun h => by have := hF.out.o5_3 (by simpa using h); simpa using this, fun h => by have := hF.out.o6_5 (by simpa using h); simpa using this, fun h => by have := hF.out.o8_6 (by simpa using h); simpa using this, fun h => by have := hF.out.o9_8 (by simpa using h); simpa using this, fun h => by have := hF.out.o10_9 (by simpa using h); simpa using this, fun h => by have := hF.out.o12_10 (by simpa using h); simpa using this, fun h => hF.out.bw (by simpa using h), fun h h2 => hF.out.r8 (by simpa using h) (by simpa using h2), fun h h2 => hF.out.r9 (by simpa using h) (by simpa using h2), fun h h2 => hF.out.r10 (by simpa using h) (by simpa using h2), fun h => hF.out.fin (by simpa using h)⟩
            · intro d a W hI hd hdep
              obtain ⟨p2, k2, a2, m2, c2, gb, ra, rm, rc, x27, x28, x29, x30, x31, x32, x33, x34, x35, x36, x37, x38, rfl, hF⟩ := hI
              have hd2 : d 2 = true := dep_of hdep 2 (by kernel_rfl)
              obtain rfl := hF.out.f2 hd2
              have HD10 : Hid (d 10 = false) := no_later (fun h => hF.out.o5_3 (hF.out.o6_5 (hF.out.o8_6 (hF.out.o9_8 (hF.out.o10_9 h))))) hd
              have hbw := hF.out.bw HD10.out
              have q0 := HTB.out W hbw
              clear hbw HD10
              clear hdep hd hd2
              intro K hK
              simp only [Act.put, List.setIfInBounds_toArray, List.set_cons_zero, List.set_cons_succ]
              go_simp
              refine hK.out _ _ ⟨p2, k2, a2, m2, c2, gb, ra, rm, rc, x27, x28, (.pointer (some ⟨g, 2, none⟩)), (.slice (some ⟨b2, o2, none⟩) tn cap), x31, x32, x33, x34, x35, x36, x37, x38, by first | (simp only [Act.put, List.setIfInBounds_toArray, List.set_cons_zero, List.set_cons_succ]; done) | (simp only [Act.put, List.setIfInBounds_toArray, List.set_cons_zero, List.set_cons_succ]; rfl), ?_⟩
              exact ⟨fun h => hF.out.f0 (by simpa using h), fun h => hF.out.f1 (by simpa using h), fun h => hF.out.f2 (by simpa using h), fun _ => rfl, fun h => hF.out.f4 (by simpa using h), fun h => hF.out.f5 (by simpa using h), fun h => hF.out.f6 (by simpa using h), fun h => hF.out.f7 (by simpa using h), fun h => hF.out.f8 (by simpa using h), fun h => hF.out.f9 (by simpa using h), fun h => hF.out.f10 (by simpa using h), fun h => hF.out.f11 (by simpa using h), fun h => hF.out.f12 (by simpa using h), fun h => by have := hF.out.o10_1 (by simpa using h); simpa using this, fun _ => by simp, fun h => by have := hF.out.o6_5 (by simpa using h); simpa using this, fun h => by have := hF.out.o8_6 (by simpa using h); simpa using this, fun h => by have := hF.out.o9_8 (by simpa using h); simpa using this, fun h => by have := hF.out.o10_9 (by simpa using h); simpa using this, fun h => by have := hF.out.o12_10 (by simpa using h); simpa using this, fun h => hF.out.bw (by simpa using h), fun h h2 => hF.out.r8 (by simpa using h) (by simpa using h2), fun h h2 => hF.out.r9 (by simpa using h) (by simpa using h2), fun h h2 => hF.out.r10 (by simpa using h) (by simpa using h2), fun h => hF.out.fin (by simpa using h)⟩
            · intro d a W hI hd hdep
              obtain ⟨p2, k2, a2, m2, c2, gb, ra, rm, rc, x27, x28, x29, x30, x31, x32, x33, x34, x35, x36, x37, x38, rfl, hF⟩ := hI
              clear hdep hd
              intro K hK
              simp only [Act.put, List.setIfInBounds_toArray, List.set_cons_zero, List.set_cons_succ]
              go_simp
              refine hK.out _ _ ⟨p2, k2, a2, m2, c2, gb, ra, rm, rc, x27, x28, x29, x30, (.int .i64 (i : Int)), x32, x33, x34, x35, x36, x37, x38, by first | (simp only [Act.put, List.setIfInBounds_toArray, List.set_cons_zero, List.set_cons_succ]; done) | (simp only [Act.put, List.setIfInBounds_toArray, List.set_cons_zero, List.set_cons_succ]; rfl), ?_⟩
              exact ⟨fun h => hF.out.f0 (by simpa using h), fun h => hF.out.f1 (by simpa using h), fun h => hF.out.f2 (by simpa using h), fun h => hF.out.f3 (by simpa using h), fun _ => rfl, fun h => hF.out.f5 (by simpa using h), fun h => hF.out.f6 (by simpa using h), fun h => hF.out.f7 (by simpa using h), fun h => hF.out.f8 (by simpa using h), fun h => hF.out.f9 (by simpa using h), fun h => hF.out.f10 (by simpa using h), fun h => hF.out.f11 (by simpa using h), fun h => hF.out.f12 (by simpa using h), fun h => by have := hF.out.o10_1 (by simpa using h); simpa using this, fun h => by have := hF.out.o5_3 (by simpa using h); simpa using this, fun h => by have := hF.out.o6_5 (by simpa using h); simpa using this, fun h => by have := hF.out.o8_6 (by simpa using h); simpa using this, fun h => by have := hF.out.o9_8 (by simpa using h); simpa using this, fun h => by have := hF.out.o10_9 (by simpa using h); simpa using this, fun h => by have := hF.out.o12_10 (by simpa using h); simpa using this, fun h => hF.out.bw (by simpa using h), fun h h2 => hF.out.r8 (by simpa using h) (by simpa using h2), fun h h2 => hF.out.r9 (by simpa using h) (by simpa using h2), fun h h2 => hF.out.r10 (by simpa using h) (by simpa using h2), fun h => hF.out.fin (by simpa using h)⟩
            · intro d a W hI hd hdep
              obtain ⟨p2, k2, a2, m2, c2, gb, ra, rm, rc, x27, x28, x29, x30, x31, x32, x33, x34, x35, x36, x37, x38, rfl, hF⟩ := hI
              have hd3 : d 3 = true := dep_of hdep 3 (by kernel_rfl)
              have hd4 : d 4 = true := dep_of hdep 4 (by kernel_rfl)
              obtain rfl := hF.out.f3 hd3
              obtain rfl := hF.out.f4 hd4
              have e5_3 := hd3
              clear hdep hd hd3 hd4
              intro K hK
              simp only [Act.put, List.setIfInBounds_toArray, List.set_cons_zero, List.set_cons_succ]
              go_simp
              refine hK.out _ _ ⟨p2, k2, a2, m2, c2, gb, ra, rm, rc, x27, x28, x29, (.slice (some ⟨b2, o2, none⟩) tn cap), (.int .i64 (i : Int)), (.pointer (some ⟨b2, o2 + i * 3, none⟩)), x33, x34, x35, x36, x37, x38, by first | (simp only [Act.put, List.setIfInBounds_toArray, List.set_cons_zero, List.set_cons_succ]; done) | (simp only [Act.put, List.setIfInBounds_toArray, List.set_cons_zero, List.set_cons_succ]; rfl), ?_⟩
              exact ⟨fun h => hF.out.f0 (by simpa using h), fun h => hF.out.f1 (by simpa using h), fun h => hF.out.f2 (by simpa using h), fun h => hF.out.f3 (by simpa using h), fun h => hF.out.f4 (by simpa using h), fun _ => rfl, fun h => hF.out.f6 (by simpa using h), fun h => hF.out.f7 (by simpa using h), fun h => hF.out.f8 (by simpa using h), fun h => hF.out.f9 (by simpa using h), fun h => hF.out.f10 (by simpa using h), fun h => hF.out.f11 (by simpa using h), fun h => hF.out.f12 (by simpa using h), fun h => by have := hF.out.o10_1 (by simpa using h); simpa using this, fun _ => by simpa using e5_3, fun _ => by simp, fun h => by have := hF.out.o8_6 (by simpa using h); simpa using this, fun h => by have := hF.out.o9_8 (by simpa using h); simpa using this, fun h => by have := hF.out.o10_9 (by simpa using h); simpa using this, fun h => by have := hF.out.o12_10 (by simpa using h); simpa using this, fun h => hF.out.bw (by simpa using h), fun h h2 => hF.out.r8 (by simpa using h) (by simpa using h2), fun h h2 => hF.out.r9 (by simpa using h) (by simpa using h2), fun h h2 => hF.out.r10 (by simpa using h) (by simpa using h2), fun h => hF.out.fin (by simpa using h)⟩
            · intro d a W hI hd hdep
              obtain ⟨p2, k2, a2, m2, c2, gb, ra, rm, rc, x27, x28, x29, x30, x31, x32, x33, x34, x35, x36, x37, x38, rfl, hF⟩ := hI
              have hd5 : d 5 = true := dep_of hdep 5 (by kernel_rfl)
              obtain rfl := hF.out.f5 hd5
              have e6_5 := hd5
              have HD10 : Hid (d 10 = false) := no_later (fun h => hF.out.o8_6 (hF.out.o9_8 (hF.out.o10_9 h))) hd
              have hbw := hF.out.bw HD10.out
              have hkc := HKC.out W hbw
              have q0 := hkc.1
              have q1 := hkc.2.1
              have q2 := hkc.2.2
              clear hbw HD10 hkc
              clear hdep hd hd5
              intro K hK
              simp only [Act.put, List.setIfInBounds_toArray, List.set_cons_zero, List.set_cons_succ]
              go_simp
              refine hK.out _ _ ⟨p2, k2, a2, m2, c2, gb, ra, rm, rc, x27, x28, x29, x30, x31, (.pointer (some ⟨b2, o2 + i * 3, none⟩)), (.agg #[.int .i64 p', .int .i64 k', .slice a' n' c']), x34, x35, x36, x37, x38, by first | (simp only [Act.put, List.setIfInBounds_toArray, List.set_cons_zero, List.set_cons_succ]; done) | (simp only [Act.put, List.setIfInBounds_toArray, List.set_cons_zero, List.set_cons_succ]; rfl), ?_⟩
              exact ⟨fun h => hF.out.f0 (by simpa using h), fun h => hF.out.f1 (by simpa using h), fun h => hF.out.f2 (by simpa using h), fun h => hF.out.f3 (by simpa using h), fun h => hF.out.f4 (by simpa using h), fun h => hF.out.f5 (by simpa using h), fun _ => rfl, fun h => hF.out.f7 (by simpa using h), fun h => hF.out.f8 (by simpa using h), fun h => hF.out.f9 (by simpa using h), fun h => hF.out.f10 (by simpa using h), fun h => hF.out.f11 (by simpa using h), fun h => hF.out.f12 (by simpa using h), fun h => by have := hF.out.o10_1 (by simpa using h); simpa using this, fun h => by have := hF.out.o5_3 (by simpa using h); simpa using this, fun _ => by simpa using e6_5, fun _ => by simp, fun h => by have := hF.out.o9_8 (by simpa using h); simpa using this, fun h => by have := hF.out.o10_9 (by simpa using h); simpa using this, fun h => by have := hF.out.o12_10 (by simpa using h); simpa using this, fun h => hF.out.bw (by simpa using h), fun h h2 => hF.out.r8 (by simpa using h) (by simpa using h2), fun h h2 => hF.out.r9 (by simpa using h) (by simpa using h2), fun h h2 => hF.out.r10 (by simpa using h) (by simpa using h2), fun h => hF.out.fin (by simpa using h)⟩
            · intro d a W hI hd hdep
              obtain ⟨p2, k2, a2, m2, c2, gb, ra, rm, rc, x27, x28, x29, x30, x31, x32, x33, x34, x35, x36, x37, x38, rfl, hF⟩ := hI
              clear hdep hd
              intro K hK
              simp only [Act.put, List.setIfInBounds_toArray, List.set_cons_zero, List.set_cons_succ]
              go_simp
              refine hK.out _ _ ⟨p2, k2, a2, m2, c2, gb, ra, rm, rc, x27, x28, x29, x30, x31, x32, x33, (.int .i64 (n : Int)), x35, x36, x37, x38, by first | (simp only [Act.put, List.setIfInBounds_toArray, List.set_cons_zero, List.set_cons_succ]; done) | (simp only [Act.put, List.setIfInBounds_toArray, List.set_cons_zero, List.set_cons_succ]; rfl), ?_⟩
              exact ⟨fun h => hF.out.f0 (by simpa using h), fun h => hF.out.f1 (by simpa using h), fun h => hF.out.f2 (by simpa using h), fun h => hF.out.f3 (by simpa using h), fun h => hF.out.f4 (by simpa using h), fun h => hF.out.f5 (by simpa using h), fun h => hF.out.f6 (by simpa using h), fun _ => rfl, fun h => hF.out.f8 (by simpa using h), fun h => hF.out.f9 (by simpa using h), fun h => hF.out.f10 (by simpa using h), fun h => hF.out.f11 (by simpa using h), fun h => hF.out.f12 (by simpa using h), fun h => by have := hF.out.o10_1 (by simpa using h); simpa using this, fun h => by have := hF.out.o5_3 (by simpa using h); simpa using this, fun h => by have := hF.out.o6_5 (by simpa using h); simpa using this, fun h => by have := hF.out.o8_6 (by simpa using h); simpa using this, fun h => by have := hF.out.o9_8 (by simpa using h); simpa using this, fun h => by have := hF.out.o10_9 (by simpa using h); simpa using this, fun h => by have := hF.out.o12_10 (by simpa using h); simpa using this, fun h => hF.out.bw (by simpa using h), fun h h2 => hF.out.r8 (by simpa using h) (by simpa using h2), fun h h2 => hF.out.r9 (by simpa using h) (by simpa using h2), fun h h2 => hF.out.r10 (by simpa using h) (by simpa using h2), fun h => hF.out.fin (by simpa using h)⟩
            · intro d a W hI hd hdep
              obtain ⟨p2, k2, a2, m2, c2, gb, ra, rm, rc, x27, x28, x29, x30, x31, x32, x33, x34, x35, x36, x37, x38, rfl, hF⟩ := hI
              have hd6 : d 6 = true := dep_of hdep 6 (by kernel_rfl)
              have hd7 : d 7 = true := dep_of hdep 7 (by kernel_rfl)
              obtain rfl := hF.out.f6 hd6
              obtain rfl := hF.out.f7 hd7
              have e8_6 := hd6
              have HD9 : Hid (d 9 = false) := no_later (fun h => hF.out.o9_8 h) hd
              have HD10 : Hid (d 10 = false) := no_later (fun h => hF.out.o9_8 (hF.out.o10_9 h)) hd
              have HD12 : Hid (d 12 = false) := no_later (fun h => hF.out.o9_8 (hF.out.o10_9 (hF.out.o12_10 h))) hd
              have hbw0 := hF.out.bw HD10.out
              clear hdep hd hd6 hd7
              intro K hK
              simp only [Act.put, List.setIfInBounds_toArray, List.set_cons_zero, List.set_cons_succ]
              go_simp
              refine (HCL.out W hbw0).mono ?_
              rintro _ W2 ⟨p9, k9, a9, m9, c9, rfl, hB, hbt⟩
              have hbx : Tx W2 (fun b => wr.heap.size ≤ b) (.agg #[.int .i64 p9, .int .i64 k9, .slice a9 m9 c9]) xk := hbt.mono fun b _ hp => Nat.le_trans hbw0.size hp
              clear hbt
              go_simp
              refine hK.out _ _ ⟨p9, k9, a9, m9, c9, gb, ra, rm, rc, x27, x28, x29, x30, x31, x32, (.agg #[.int .i64 p', .int .i64 k', .slice a' n' c']), (.int .i64 (n : Int)), (.agg #[.int .i64 p9, .int .i64 k9, .slice a9 m9 c9]), x36, x37, x38, by first | (simp only [Act.put, List.setIfInBounds_toArray, List.set_cons_zero, List.set_cons_succ]; done) | (simp only [Act.put, List.setIfInBounds_toArray, List.set_cons_zero, List.set_cons_succ]; rfl), ?_⟩
              exact ⟨fun h => hF.out.f0 (by simpa using h), fun h => hF.out.f1 (by simpa using h), fun h => hF.out.f2 (by simpa using h), fun h => hF.out.f3 (by simpa using h), fun h => hF.out.f4 (by simpa using h), fun h => hF.out.f5 (by simpa using h), fun h => hF.out.f6 (by simpa using h), fun h => hF.out.f7 (by simpa using h), fun _ => rfl, fun h => by have := HD9.out; simp [this] at h, fun h => by have := HD10.out; simp [this] at h, fun h => hF.out.f11 (by simpa using h), fun h => hF.out.f12 (by simpa using h), fun h => by have := hF.out.o10_1 (by simpa using h); simpa using this, fun h => by have := hF.out.o5_3 (by simpa using h); simpa using this, fun h => by have := hF.out.o6_5 (by simpa using h); simpa using this, fun _ => by simpa using e8_6, fun _ => by simp, fun h => by have := hF.out.o10_9 (by simpa using h); simpa using this, fun h => by have := hF.out.o12_10 (by simpa using h); simpa using this, fun _ => hbw0.trans (hB.mono hbw0.size), fun _ _ => hbx, fun h => by have := HD9.out; simp [this] at h, fun h => by have := HD10.out; simp [this] at h, fun h => by have := HD12.out; simp [this] at h⟩
            · intro d a W hI hd hdep
              obtain ⟨p2, k2, a2, m2, c2, gb, ra, rm, rc, x27, x28, x29, x30, x31, x32, x33, x34, x35, x36, x37, x38, rfl, hF⟩ := hI
              have hd8 : d 8 = true := dep_of hdep 8 (by kernel_rfl)
              obtain rfl := hF.out.f8 hd8
              have e9_8 := hd8
              have HD10 : Hid (d 10 = false) := no_later (fun h => hF.out.o10_9 h) hd
              have HD12 : Hid (d 12 = false) := no_later (fun h => hF.out.o10_9 (hF.out.o12_10 h)) hd
              have hbw0 := hF.out.bw HD10.out
              have hr8 := hF.out.r8 hd8 HD10.out
              clear hdep hd hd8
              intro K hK
              simp only [Act.put, List.setIfInBounds_toArray, List.set_cons_zero, List.set_cons_succ]
              go_simp
              refine hK.out _ _ ⟨p2, k2, a2, m2, c2, W.heap.size, ra, rm, rc, x27, x28, x29, x30, x31, x32, x33, x34, (.agg #[.int .i64 p2, .int .i64 k2, .slice a2 m2 c2]), (.slice (some ⟨W.heap.size, 0, none⟩) 1 1), x37, x38, by first | (simp only [Act.put, List.setIfInBounds_toArray, List.set_cons_zero, List.set_cons_succ]; done) | (simp only [Act.put, List.setIfInBounds_toArray, List.set_cons_zero, List.set_cons_succ]; rfl), ?_⟩
              have hB := below_alloc W (Obj.cells #[.int .i64 p2, .int .i64 k2, .slice a2 m2 c2] 27)
              exact ⟨fun h => hF.out.f0 (by simpa using h), fun h => hF.out.f1 (by simpa using h), fun h => hF.out.f2 (by simpa using h), fun h => hF.out.f3 (by simpa using h), fun h => hF.out.f4 (by simpa using h), fun h => hF.out.f5 (by simpa using h), fun h => hF.out.f6 (by simpa using h), fun h => hF.out.f7 (by simpa using h), fun h => hF.out.f8 (by simpa using h), fun _ => rfl, fun h => by have := HD10.out; simp [this] at h, fun h => hF.out.f11 (by simpa using h), fun h => hF.out.f12 (by simpa using h), fun h => by have := hF.out.o10_1 (by simpa using h); simpa using this, fun h => by have := hF.out.o5_3 (by simpa using h); simpa using this, fun h => by have := hF.out.o6_5 (by simpa using h); simpa using this, fun h => by have := hF.out.o8_6 (by simpa using h); simpa using this, fun _ => by simpa using e9_8, fun _ => by simp, fun h => by have := hF.out.o12_10 (by simpa using h); simpa using this, fun _ => hbw0.trans (hB.mono hbw0.size), fun _ _ => hr8.bel hB, fun _ _ => heap_alloc_new _ _, fun h => by have := HD10.out; simp [this] at h, fun h => by have := HD12.out; simp [this] at h⟩
            · intro d a W hI hd hdep
              obtain ⟨p2, k2, a2, m2, c2, gb, ra, rm, rc, x27, x28, x29, x30, x31, x32, x33, x34, x35, x36, x37, x38, rfl, hF⟩ := hI
              have hd1 : d 1 = true := dep_of hdep 1 (by kernel_rfl)
              have hd9 : d 9 = true := dep_of hdep 9 (by kernel_rfl)
              obtain rfl := hF.out.f1 hd1
              obtain rfl := hF.out.f9 hd9
              have e10_1 := hd1
              have e10_9 := hd9
              have HD12 : Hid (d 12 = false) := no_later hF.out.o12_10 hd
              have hbw0 := hF.out.bw hd
              have hr8 := hF.out.r8 (hF.out.o9_8 hd9) hd
              have hr9 := hF.out.r9 hd9 hd
              have hdt := HDT.out.next hbw0
              have hxp : Tx W (Pw w0 (.slice sa sn sc)) (.agg #[.int .i64 p2, .int .i64 k2, .slice a2 m2 c2]) xk := hr8.mono fun b _ hp => ⟨Nat.le_trans HDT.out.bel.size hp, fun e => by have h1 := (HDT.out.own.lt b e.symm).2; have hp2 : wr.heap.size ≤ b := hp; omega⟩
              obtain ⟨ra9, rm9, rc9, W2, hrun, hdv⟩ := hdt.app2 hr9 hxp HKL.out
              clear hdt hxp hbw0
              clear hdep hd hd1 hd9
              intro K hK
              refine tstep_call_append (sv := .slice sa sn sc) (xv := .slice (some ⟨gb, 0, none⟩) 1 1) (v := .slice ra9 rm9 rc9) (W1 := W2) (by rfl) _ _ 25 (by rfl) (by first | (simp only [Act.put, List.setIfInBounds_toArray, List.set_cons_zero, List.set_cons_succ]; done) | (simp only [Act.put, List.setIfInBounds_toArray, List.set_cons_zero, List.set_cons_succ]; rfl)) (by first | (simp only [Act.put, List.setIfInBounds_toArray, List.set_cons_zero, List.set_cons_succ]; done) | (simp only [Act.put, List.setIfInBounds_toArray, List.set_cons_zero, List.set_cons_succ]; rfl)) (by exact hrun) ?_
              simp only [Act.put, List.setIfInBounds_toArray, List.set_cons_zero, List.set_cons_succ]
              refine hK.out _ _ ⟨p2, k2, a2, m2, c2, gb, ra9, rm9, rc9, x27, (.slice sa sn sc), x29, x30, x31, x32, x33, x34, x35, (.slice (some ⟨gb, 0, none⟩) 1 1), (.slice ra9 rm9 rc9), x38, by first | (simp only [Act.put, List.setIfInBounds_toArray, List.set_cons_zero, List.set_cons_succ]; done) | (simp only [Act.put, List.setIfInBounds_toArray, List.set_cons_zero, List.set_cons_succ]; rfl), ?_⟩
              exact ⟨fun h => hF.out.f0 (by simpa using h), fun h => hF.out.f1 (by simpa using h), fun h => hF.out.f2 (by simpa using h), fun h => hF.out.f3 (by simpa using h), fun h => hF.out.f4 (by simpa using h), fun h => hF.out.f5 (by simpa using h), fun h => hF.out.f6 (by simpa using h), fun h => hF.out.f7 (by simpa using h), fun h => hF.out.f8 (by simpa using h), fun h => hF.out.f9 (by simpa using h), fun _ => rfl, fun h => hF.out.f11 (by simpa using h), fun h => hF.out.f12 (by simpa using h), fun _ => by simpa using e10_1, fun h => by have := hF.out.o5_3 (by simpa using h); simpa using this, fun h => by have := hF.out.o6_5 (by simpa using h); simpa using this, fun h => by have := hF.out.o8_6 (by simpa using h); simpa using this, fun h => by have := hF.out.o9_8 (by simpa using h); simpa using this, fun _ => by simpa using e10_9, fun _ => by simp, fun h => by simp at h, fun _ h => by simp at h, fun _ h => by simp at h, fun _ _ => hdv, fun h => by have := HD12.out; simp [this] at h⟩
            · intro d a W hI hd hdep
              obtain ⟨p2, k2, a2, m2, c2, gb, ra, rm, rc, x27, x28, x29, x30, x31, x32, x33, x34, x35, x36, x37, x38, rfl, hF⟩ := hI
              clear hdep hd
              intro K hK
              simp only [Act.put, List.setIfInBounds_toArray, List.set_cons_zero, List.set_cons_succ]
              go_simp
              refine hK.out _ _ ⟨p2, k2, a2, m2, c2, gb, ra, rm, rc, x27, x28, x29, x30, x31, x32, x33, x34, x35, x36, x37, (.pointer (some ⟨ob, 2, none⟩)), by first | (simp only [Act.put, List.setIfInBounds_toArray, List.set_cons_zero, List.set_cons_succ]; done) | (simp only [Act.put, List.setIfInBounds_toArray, List.set_cons_zero, List.set_cons_succ]; rfl), ?_⟩
              exact ⟨fun h => hF.out.f0 (by simpa using h), fun h => hF.out.f1 (by simpa using h), fun h => hF.out.f2 (by simpa using h), fun h => hF.out.f3 (by simpa using h), fun h => hF.out.f4 (by simpa using h), fun h => hF.out.f5 (by simpa using h), fun h => hF.out.f6 (by simpa using h), fun h => hF.out.f7 (by simpa using h), fun h => hF.out.f8 (by simpa using h), fun h => hF.out.f9 (by simpa using h), fun h => hF.out.f10 (by simpa using h), fun _ => rfl, fun h => hF.out.f12 (by simpa using h), fun h => by have := hF.out.o10_1 (by simpa using h); simpa using this, fun h => by have := hF.out.o5_3 (by simpa using h); simpa using this, fun h => by have := hF.out.o6_5 (by simpa using h); simpa using this, fun h => by have := hF.out.o8_6 (by simpa using h); simpa using this, fun h => by have := hF.out.o9_8 (by simpa using h); simpa using this, fun h => by have := hF.out.o10_9 (by simpa using h); simpa using this, fun h => by have := hF.out.o12_10 (by simpa using h); simpa using this, fun h => hF.out.bw (by simpa using h), fun h h2 => hF.out.r8 (by simpa using h) (by simpa using h2), fun h h2 => hF.out.r9 (by simpa using h) (by simpa using h2), fun h h2 => hF.out.r10 (by simpa using h) (by simpa using h2), fun h => hF.out.fin (by simpa using h)⟩
            · intro d a W hI hd hdep
              obtain ⟨p2, k2, a2, m2, c2, gb, ra, rm, rc, x27, x28, x29, x30, x31, x32, x33, x34, x35, x36, x37, x38, rfl, hF⟩ := hI
              have hd10 : d 10 = true := dep_of hdep 10 (by kernel_rfl)
              have hd11 : d 11 = true := dep_of hdep 11 (by kernel_rfl)
              obtain rfl := hF.out.f10 hd10
              obtain rfl := hF.out.f11 hd11
              have hd10x := hd10
              have e12_10 := hd10
              have hr10 := hF.out.r10 hd10 hd
              have hblk := (hr10.bel.block ob HOS.out.1).trans HOS.out.2
              have q0 := tcell_blk hblk 2
              have f0 := tfrozen_blk hblk 2
              simp only [List.getElem?_toArray, List.getElem?_cons_zero, List.getElem?_cons_succ] at q0
              clear hdep hd hd10 hd11
              intro K hK
              simp only [Act.put, List.setIfInBounds_toArray, List.set_cons_zero, List.set_cons_succ]
              go_simp
              refine hK.out _ _ ⟨p2, k2, a2, m2, c2, gb, ra, rm, rc, x27, x28, x29, x30, x31, x32, x33, x34, x35, x36, (.slice ra rm rc), (.pointer (some ⟨ob, 2, none⟩)), by first | (simp only [Act.put, List.setIfInBounds_toArray, List.set_cons_zero, List.set_cons_succ]; done) | (simp only [Act.put, List.setIfInBounds_toArray, List.set_cons_zero, List.set_cons_succ]; rfl), ?_⟩
              exact ⟨fun h => hF.out.f0 (by simpa using h), fun h => hF.out.f1 (by simpa using h), fun h => hF.out.f2 (by simpa using h), fun h => hF.out.f3 (by simpa using h), fun h => hF.out.f4 (by simpa using h), fun h => hF.out.f5 (by simpa using h), fun h => hF.out.f6 (by simpa using h), fun h => hF.out.f7 (by simpa using h), fun h => hF.out.f8 (by simpa using h), fun h => hF.out.f9 (by simpa using h), fun h => hF.out.f10 (by simpa using h), fun h => hF.out.f11 (by simpa using h), fun _ => trivial, fun h => by have := hF.out.o10_1 (by simpa using h); simpa using this, fun h => by have := hF.out.o5_3 (by simpa using h); simpa using this, fun h => by have := hF.out.o6_5 (by simpa using h); simpa using this, fun h => by have := hF.out.o8_6 (by simpa using h); simpa using this, fun h => by have := hF.out.o9_8 (by simpa using h); simpa using this, fun h => by have := hF.out.o10_9 (by simpa using h); simpa using this, fun _ => by simpa using e12_10, fun h => by have := hd10x; simp [this] at h, fun _ h => by have := hd10x; simp [this] at h, fun _ h => by have := hd10x; simp [this] at h, fun _ h => by simp at h, fun _ => ⟨W, hr10, rfl⟩⟩
          · intro d a W hI hall
            obtain ⟨p2, k2, a2, m2, c2, gb, ra, rm, rc, x27, x28, x29, x30, x31, x32, x33, x34, x35, x36, x37, x38, rfl, hF⟩ := hI
            simp only [List.length_cons, List.length_nil] at hall
            obtain rfl := hF.out.f0 (hall 0 (by omega))
            obtain rfl := hF.out.f1 (hall 1 (by omega))
            obtain rfl := hF.out.f2 (hall 2 (by omega))
            obtain rfl := hF.out.f3 (hall 3 (by omega))
            obtain rfl := hF.out.f4 (hall 4 (by omega))
            obtain rfl := hF.out.f5 (hall 5 (by omega))
            obtain rfl := hF.out.f6 (hall 6 (by omega))
            obtain rfl := hF.out.f7 (hall 7 (by omega))
            obtain rfl := hF.out.f8 (hall 8 (by omega))
            obtain rfl := hF.out.f9 (hall 9 (by omega))
            obtain rfl := hF.out.f10 (hall 10 (by omega))
            obtain rfl := hF.out.f11 (hall 11 (by omega))
            obtain ⟨V, hdv, rfl⟩ := hF.out.fin (hall 12 (by omega))
            have HON : Hid (∃ w0 vs, MrH w g ob p 0 (some ⟨b2, o2, none⟩) tn cap ra rm rc w0 vs (mirL n (kids.drop i)) (V.setCell ⟨ob, 2, none⟩ (.slice ra rm rc))) := by
              refine ⟨w0.setCell ⟨ob, 2, none⟩ (.slice ra rm rc), vs ++ [(.agg #[.int .i64 p2, .int .i64 k2, .slice a2 m2 c2])], ?_⟩
              rw [HKS2.out]
              exact HOD.out.put hdv
            clear hF hall hdv
            simp only [Act.put, List.setIfInBounds_toArray, List.set_cons_zero, List.set_cons_succ]
            generalize V.setCell ⟨ob, 2, none⟩ (.slice ra rm rc) = w8 at HON ⊢
            go_wp2_with fail
            go_roundw
            case rel => exact ⟨i, (i : Int) - 1, _, _, _, by omega, rfl, by go_num, HON⟩
            case measure => first | (simp [intOf]; done) | (simp [intOf]; omega)
        · obtain rfl : q = 0 := by omega
          have hk1 : ¬ (0 : Int) ≤ Y := by omega
          clear hY
          rw [List.drop_zero] at HOD
          have HTX0 : Hid (Tx wr (fun b => w0.heap.size ≤ b) (.agg #[.int .i64 p, .int .i64 0, .slice sa sn sc]) (.mk p 0 (mirL n kids))) := tx_of_own p HOD.out.dt.own HOD.out.dt.len (by rw [mirL_length]; have := HKL0.out; omega) (fun i a b => (HOD.out.dt.tx i a b).mono fun b _ hp => hp.1) (fun b hb _ => hb)
          have HTXF : Hid (Tx (set3 wr (g + 1) (.int .i64 p) (.int .i64 0) (.slice sa sn sc)) (fun b => w.heap.size ≤ b) (.agg #[.int .i64 p, .int .i64 0, .slice sa sn sc]) (.mk p 0 (mirL n kids))) := by
            refine (HTX0.out.next (fun b _ hp => set3_apart2 ?_) (by simp [set3, World.setCell])).mono fun b _ hp => ?_
            · have := HOD.out.gt; have := HOD.out.sz; have hp2 : w0.heap.size ≤ b := hp; omega
            · have := HOD.out.b0.size; have hp2 : w0.heap.size ≤ b := hp; omega
          have HBOX : Hid (wr.heap[ob]? = some (.cells #[.int .i64 p, .int .i64 0, .slice sa sn sc] 27)) := (HOD.out.dt.bel.block _ (by have := HOD.out.sz; omega)).trans HOD.out.bx
          have HRES : Hid (wr.heap[g + 1]? = some (.cells #[.int .i64 0, .int .i64 0, .slice none 0 0] 27)) := (HOD.out.dt.bel.block _ (by have := HOD.out.sz; have := HOD.out.gt; omega)).trans HOD.out.t2
          have o0 := tcell_blk HBOX.out 0
          have o1 := tcell_blk HBOX.out 1
          have o2 := tcell_blk HBOX.out 2
          simp only [List.getElem?_toArray, List.getElem?_cons_zero, List.getElem?_cons_succ] at o0 o1 o2
          have HGR := HRES.out
          have HV := set3_blk HGR (.int .i64 p) (.int .i64 0) (.slice sa sn sc)
          have HBV : Hid (Below w.heap.size w (set3 wr (g + 1) (.int .i64 p) (.int .i64 0) (.slice sa sn sc))) := set3_bel HWR.out (by have := HGG.out; omega)
          have r0 := tcell_blk HGR 0
          have r1 := tcell_blk HGR 1
          have r2 := tcell_blk HGR 2
          have f0 := tfrozen_blk HGR 0
          have f1 := tfrozen_blk HGR 1
          have f2 := tfrozen_blk HGR 2
          simp only [List.getElem?_toArray, List.getElem?_cons_zero, List.getElem?_cons_succ] at r0 r1 r2
          go_wp2_with fail
          rw [← set3_eq]
          generalize set3 wr (g + 1) (.int .i64 p) (.int .i64 0) (.slice sa sn sc) = w9 at *
          have z0 := tcell_blk HV 0
          have z1 := tcell_blk HV 1
          have z2 := tcell_blk HV 2
          simp only [List.getElem?_toArray, List.getElem?_cons_zero, List.getElem?_cons_succ] at z0 z1 z2
          exact bodyPost_ret (v := .agg #[.int .i64 p, .int .i64 0, .slice sa sn sc]) (by simp [results, Try.results11, go_sem, z0, z1, z2]) rfl ⟨_, _, _, _, _, rfl, HBV.out, by rw [HMT.out]; exact HTXF.out⟩
end Go.Proofs.Ytldfiofgknmcgab
