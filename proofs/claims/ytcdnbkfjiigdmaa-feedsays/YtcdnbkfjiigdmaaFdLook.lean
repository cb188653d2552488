/-
  The contracts of feed.isEnd, feed.lookAt and pushref.stuck.
-/
import Derived.Test.YtcdnbkfjiigdmaaLxLong
import Derived.Test.YtcdnbkfjiigdmaaFdMath
namespace Go.Proofs.Ytcdnbkfjiigdmaa
open Go.RowKit
open Dfa

set_option maxHeartbeats 1600000 in
set_option maxRecDepth 20000 in
theorem isEnd_any (v : Value) (L : Nat → Nat) (X : Nat → Nat → Int) (q : Nat) (w : World) (h : Ts w v (L q) (X q)) (hy : ∀ t, t < L q → -1 ≤ X q t) :
    Calls Try.prog 23 #[v] w fun e w' => e = .returned (.bool (dead L X q)) ∧ w' = w := by
  obtain ⟨ao, cap, rfl, hm, -, hcs⟩ := h
  obtain ⟨ans, HA⟩ : ∃ a, Hid (dead L X q = a) := ⟨_, (rfl : _ = _)⟩
  rw [HA.out]
  have HY : Hid (∀ t, t < L q → -1 ≤ X q t) := hy
  have HD0 : Hid ((∀ t, t < L q → X q t < 0) → ans = true) := fun h => by rw [← HA.out]; exact dead_true h
  have HD1 : Hid (∀ t, t < L q → ¬ X q t < 0 → ans = false) := fun t h h2 => by rw [← HA.out]; exact dead_false h h2
  obtain ⟨k, HK⟩ : ∃ a, Hid (L q = a) := ⟨_, (rfl : _ = _)⟩
  rw [HK.out] at HY HD0 HD1 hcs hm ⊢
  clear hy HA
  go_enter Try.func23, Try.ntmps23
  go_wp2_with fail
  go_loopw [7] (fun z wr => ∃ j : Nat, j ≤ k ∧ z = .int .i64 (j : Int) ∧ Hid (∀ t, t < j → X q t < 0) ∧ wr = w) (fun z _ => k - (intOf z).toNat)
  case atStart => exact ⟨0, by omega, rfl, fun t ht => by omega, rfl⟩
  case round =>
    obtain ⟨j, hj, rfl, HJ, rfl⟩ := hrel
    by_cases hlt : j < k
    · obtain ⟨b, o, rfl, hb, hc⟩ := hcs.resolve_left (by omega)
      have y0 := hc j hlt
      have hj0 : (0 : Int) ≤ (j : Int) := by omega
      have hj1 : (j : Int) < (k : Int) := by omega
      have h1 := HY.out j hlt
      obtain ⟨y, HYY⟩ : ∃ a, Hid (X q j = a) := ⟨_, (rfl : _ = _)⟩
      rw [HYY.out] at y0 h1
      clear hc hcs
      by_cases hy : y = -1
      · subst hy
        go_wp2_with fail
        go_roundw
        case rel => exact ⟨j + 1, by omega, by go_num, fun t ht => by
          by_cases e : t = j
          · subst e; rw [HYY.out]; omega
          · exact HJ.out t (by omega), trivial⟩
        case measure => simp [intOf]; omega
      · have hyb : (y == -1) = false := by simp [hy]
        have HE : Hid (ans = false) := HD1.out j hlt (by rw [HYY.out]; omega)
        go_wp2_with fail
        go_ret
        exact ⟨by rw [HE.out]; rfl, rfl⟩
    · have hj1 : ¬ (j : Int) < (k : Int) := by omega
      have HE : Hid (ans = true) := HD0.out fun t ht => HJ.out t (by omega)
      go_wp2_with fail
      go_ret
      exact ⟨by rw [HE.out]; rfl, rfl⟩

set_option maxHeartbeats 4000000 in
set_option maxRecDepth 20000 in
theorem lookAt_any (O : Nat → Nat) (nv tv : Value) (n : Nat) (L : Nat → Nat) (X : Nat → Nat → Int) (T : Nat → Int) (s : ByteArray) (w : World) (hO : ∀ j, O j < 256) (hx : Nx w nv n L X) (ht : Ts w tv n T) (hok : chkP n n O L X T = 0) (hs : s.size ≤ 2000) :
    Calls Try.prog 15 #[.agg (pl O nv tv).toArray, .string s] w fun e w' => e = .returned (.agg #[.int .i64 (lng (RR n O X) T s.data.toList).1, .int .i64 ((lng (RR n O X) T s.data.toList).2 : Int), .bool (stk (RR n O X) L X s.data.toList)]) ∧ Below w.heap.size w w' := by
  obtain ⟨hn0, hn1, -, hcols, hsts, htgs⟩ := chkP_zero hok
  have HX0 : Hid (Nx w nv n L X) := hx
  have HT0 : Hid (Ts w tv n T) := ht
  have HCO : Hid (∀ i j, i < n → j < 256 → O j < L i ∧ -1 ≤ X i (O j) ∧ X i (O j) ≤ (n : Int) - 1) := fun i j hi hj => by
    obtain ⟨g1, g2, g3⟩ := cols_at hcols
    have h2 : O j < L i := by rw [g1 i hi]; exact g3 j hj
    exact ⟨h2, states_at hsts i (O j) hi h2⟩
  have HST : Hid (∀ i t, i < n → t < L i → -1 ≤ X i t) := fun i t hi ht => (states_at hsts i t hi ht).1
  have HTG : Hid (∀ i, i < n → -1 ≤ T i ∧ T i ≤ 19) := fun i hi => up_at htgs i hi
  have HO : Hid (∀ j, O j < 256) := hO
  obtain ⟨l, HLL⟩ : ∃ l, Hid (pl O nv tv = l) := ⟨_, (rfl : pl O nv tv = pl O nv tv)⟩
  have HP : Hid (Px w w.heap.size O nv tv n n L X T l (w.alloc (Obj.cells l.toArray 26))) := Px.box HLL.out hx ht
  rw [HLL.out]
  obtain ⟨ao, cap, rfl, hn, hxc⟩ := id hx
  obtain ⟨b, o, rfl, hbw, -⟩ := hxc.resolve_left (by omega)
  obtain ⟨ao', cap2, rfl, hm, hwf, htc⟩ := id ht
  obtain ⟨b2, o2, rfl, hb2w, -⟩ := htc.resolve_left (by omega)
  have hG := Goes.start (RR n O X) T s.data.toList
  have hZ := Gz.start (RR n O X) s.data.toList
  obtain ⟨ans, HA⟩ : ∃ a, Hid (lng (RR n O X) T s.data.toList = a) := ⟨_, (rfl : lng _ _ _ = lng _ _ _)⟩
  have HSK : Hid (stk (RR n O X) L X s.data.toList = stkOf L X (en (RR n O X) 0 s.data.toList)) := (rfl : _ = _)
  rw [HSK.out]
  obtain ⟨an2, HA2⟩ : ∃ a, Hid (en (RR n O X) 0 s.data.toList = a) := ⟨_, (rfl : _ = _)⟩
  rw [HA.out] at hG ⊢
  rw [HA2.out] at hZ ⊢
  obtain ⟨ce, HCE⟩ : ∃ a, Hid (stkOf L X an2 = a) := ⟨_, (rfl : _ = _)⟩
  rw [HCE.out]
  obtain ⟨w3, HW3⟩ : ∃ q, Hid (((w.alloc (Obj.cells l.toArray 26)).alloc (Obj.cells #[.int .i64 0, .int .i64 0, .bool false] 45)).alloc (Obj.cells #[.int .i64 0, .int .i64 0, .bool false] 45) = q) := ⟨_, (rfl : _ = _)⟩
  have HP1 : Hid (Px w w.heap.size O (.slice (some ⟨b, o, none⟩) n cap) (.slice (some ⟨b2, o2, none⟩) n cap2) n n L X T l w3) := by rw [← HW3.out]; exact (HP.out.step ((Below.refl _ _).alloc (Nat.le_refl _) _)).step ((Below.refl _ _).alloc (Nat.le_refl _) _)
  have HBK1 : Hid (w3.heap[w.heap.size + 1]? = some (.cells #[.int .i64 0, .int .i64 0, .bool false] 45 (0, 0))) := by
    have := heap_alloc_new (w.alloc (Obj.cells l.toArray 26)) (Obj.cells #[.int .i64 0, .int .i64 0, .bool false] 45)
    rw [World.size_alloc] at this
    rw [← HW3.out]
    exact (Below.heap_alloc _ _ _ (by simp)).trans this
  have HBK2 : Hid (w3.heap[w.heap.size + 2]? = some (.cells #[.int .i64 0, .int .i64 0, .bool false] 45 (0, 0))) := by
    have := heap_alloc_new ((w.alloc (Obj.cells l.toArray 26)).alloc (Obj.cells #[.int .i64 0, .int .i64 0, .bool false] 45)) (Obj.cells #[.int .i64 0, .int .i64 0, .bool false] 45)
    rw [World.size_alloc, World.size_alloc] at this
    rw [← HW3.out]
    exact this
  have hsz : w.heap.size + 2 < w3.heap.size := by rw [← HW3.out]; simp
  clear hcols hsts htgs hO hx ht hxc htc hwf HP hok HSK
  go_enter Try.func15, Try.ntmps15
  go_wp2_with fail
  rw [HW3.out]
  go_loopw [6, 11] (fun qv av wr => ∃ (k z p : Nat) (r : Int), k ≤ s.size ∧ z ≤ k ∧ p < n ∧ qv = .int .i64 (p : Int) ∧ av = .int .i64 (k : Int) ∧ Goes (RR n O X) T s.data.toList k (p : Int) r z ans ∧ Gz (RR n O X) s.data.toList k (p : Int) an2 ∧ w.heap.size + 2 < wr.heap.size ∧ wr.heap[w.heap.size + 1]? = some (.cells #[.int .i64 0, .int .i64 0, .bool false] 45 (0, 0)) ∧ wr.heap[w.heap.size + 2]? = some (.cells #[.int .i64 r, .int .i64 (z : Int), .bool false] 45 (0, 0)) ∧
      Px w w.heap.size O (.slice (some ⟨b, o, none⟩) n cap) (.slice (some ⟨b2, o2, none⟩) n cap2) n n L X T l wr) (fun _ av _ => s.size - (intOf av).toNat)
  case atStart => exact ⟨0, 0, 0, 0, by omega, by omega, by omega, rfl, rfl, hG, hZ, hsz, HBK1.out, HBK2.out, HP1.out⟩
  case round =>
    obtain ⟨k, z, p, r, hk, hz, hp, rfl, rfl, hgo, hgz, hws, hbk1, hbk2, hpx⟩ := hrel
    have HG : Hid (Goes (RR n O X) T s.data.toList k (p : Int) r z ans) := hgo
    have HGZ : Hid (Gz (RR n O X) s.data.toList k (p : Int) an2) := hgz
    have HB1 : Hid (wr.heap[w.heap.size + 1]? = some (.cells #[.int .i64 0, .int .i64 0, .bool false] 45 (0, 0))) := hbk1
    have HB : Hid (wr.heap[w.heap.size + 2]? = some (.cells #[.int .i64 r, .int .i64 (z : Int), .bool false] 45 (0, 0))) := hbk2
    have HPX : Hid (Px w w.heap.size O (.slice (some ⟨b, o, none⟩) n cap) (.slice (some ⟨b2, o2, none⟩) n cap2) n n L X T l wr) := hpx
    clear hgo hgz hbk1 hbk2 hpx hG hZ HP1 HBK1 HBK2 hsz HW3
    have x0 := block_cell HB.out 0
    have x1 := block_cell HB.out 1
    have x2 := block_cell HB.out 2
    have f0 := block_free HB.out 0
    have f1 := block_free HB.out 1
    have f2 := block_free HB.out 2
    have v0 := block_cell HB1.out 0
    have v1 := block_cell HB1.out 1
    have v2 := block_cell HB1.out 2
    have t0 := block_free HB1.out 0
    have t1 := block_free HB1.out 1
    have t2 := block_free HB1.out 2
    simp only [List.getElem?_toArray, List.getElem?_cons_zero, List.getElem?_cons_succ] at x0 x1 x2 v0 v1 v2
    by_cases hlt : k < s.size
    · have hk1 : (k : Int) < (s.size : Int) := by omega
      have hp1 : (p : Int) < (n : Int) := by omega
      have hp0 : (0 : Int) ≤ (p : Int) := by omega
      have hbr := byte_run s k hlt
      have HXX : Hid (s.data.toList.drop k = s[k] :: s.data.toList.drop (k + 1)) := drop_cons s k hlt
      obtain ⟨x, HX⟩ : ∃ x, Hid (s[k] = x) := ⟨_, (rfl : s[k] = s[k])⟩
      rw [HX.out] at hbr HXX
      have hx : x.toNat < 256 := x.toNat_lt
      have hx1 : (x.toNat : Int) < 256 := by omega
      obtain ⟨h1, h2, h3⟩ := HCO.out p x.toNat hp hx
      have hre : RR n O X p x.toNat = X p (O x.toNat) := by unfold RR; rw [if_pos ⟨hp, hx⟩]
      have HN : Hid (tagOf T (X p (O x.toNat)) < 0 → Goes (RR n O X) T s.data.toList (k + 1) (X p (O x.toNat)) r z ans) := fun h => by
        have := HG.out.none (T := T) HXX.out (by rw [hre]; exact h)
        rwa [hre] at this
      have HM : Hid (¬ tagOf T (X p (O x.toNat)) < 0 → Goes (RR n O X) T s.data.toList (k + 1) (X p (O x.toNat)) (tagOf T (X p (O x.toNat))) (k + 1) ans) := fun h => by
        have := HG.out.some (T := T) HXX.out (by rw [hre]; exact h)
        rwa [hre] at this
      have HZN : Hid (Gz (RR n O X) s.data.toList (k + 1) (X p (O x.toNat)) an2) := by
        have := HGZ.out.next HXX.out
        rwa [hre] at this
      obtain ⟨a1, c1, cu, -, hu⟩ := HPX.out.next.cells p hp
      obtain ⟨bk, ok, rfl, -⟩ := hu.place (by omega)
      have cx := hu.cells (O x.toNat) h1
      have co := HPX.out.of x.toNat hx
      have ho := HO.out x.toNat
      obtain ⟨oj, HOJ⟩ : ∃ j, Hid (O x.toNat = j) := ⟨_, (rfl : O x.toNat = O x.toNat)⟩
      rw [HOJ.out] at h1 h2 h3 HN HM HZN cx co ho
      obtain ⟨lk, HLK⟩ : ∃ j, Hid (L p = j) := ⟨_, (rfl : L p = L p)⟩
      rw [HLK.out] at h1 cu
      have h1' : (oj : Int) < (lk : Int) := by omega
      have d1 := HPX.out.c1
      have d2 := HPX.out.c2
      obtain ⟨y, HY⟩ : ∃ y, Hid (X p oj = y) := ⟨_, (rfl : X p oj = X p oj)⟩
      rw [HY.out] at h2 h3 HN HM HZN cx
      clear hu hre
      by_cases hy : y = -1
      · subst hy
        have HE : Hid (ans = (r, z)) := (HN.out (by show (if (-1 : Int) < 0 then _ else _) < (0 : Int); rw [if_pos (by omega)]; omega)).over (Or.inr (by omega))
        have HE2 : Hid (ce = true) := by show _ = _; rw [← HCE.out, HZN.out.over (by omega)]; rfl
        go_wp2_with (go_quiet (fail))
        have y0 := block_cell (three (w := (wr.drewN nq).setCell ⟨w.heap.size + 2, 2, none⟩ (.bool true)) ((Below.heap_setCell _ _ _ _ (by simp)).trans HB1.out) (.int .i64 r) (.int .i64 (z : Int)) (.bool true)) 0
        have y1 := block_cell (three (w := (wr.drewN nq).setCell ⟨w.heap.size + 2, 2, none⟩ (.bool true)) ((Below.heap_setCell _ _ _ _ (by simp)).trans HB1.out) (.int .i64 r) (.int .i64 (z : Int)) (.bool true)) 1
        have y2 := block_cell (three (w := (wr.drewN nq).setCell ⟨w.heap.size + 2, 2, none⟩ (.bool true)) ((Below.heap_setCell _ _ _ _ (by simp)).trans HB1.out) (.int .i64 r) (.int .i64 (z : Int)) (.bool true)) 2
        simp only [List.getElem?_toArray, List.getElem?_cons_zero, List.getElem?_cons_succ] at y0 y1 y2
        exact bodyPost_ret (v := .agg #[.int .i64 r, .int .i64 (z : Int), .bool true]) (by simp [results, Try.results15, go_sem, y0, y1, y2]) rfl ⟨by rw [HE.out, HE2.out], (((((HPX.out.drew nq).below).setCell (by simp <;> omega) _).setCell (by simp <;> omega) _).setCell (by simp <;> omega) _).setCell (by simp <;> omega) _⟩
      · obtain ⟨t, rfl⟩ : ∃ t : Nat, y = (t : Int) := ⟨y.toNat, by omega⟩
        have htn : t < n := by omega
        have ht1 : (t : Int) < (n : Int) := by omega
        have ht0 : ((t : Int) == -1) = false := by simp
        have hTa : tagOf T (t : Int) = T t := by unfold tagOf; rw [if_neg (by omega)]; rfl
        have e2 := HPX.out.tags.cells t htn
        obtain ⟨g1, g2⟩ := HTG.out t htn
        rw [hTa] at HN HM
        clear hTa
        obtain ⟨u, HU⟩ : ∃ u, Hid (T t = u) := ⟨_, (rfl : T t = T t)⟩
        rw [HU.out] at e2 g1 g2 HN HM
        by_cases hu : u = -1
        · subst hu
          go_wp2_with (go_quiet (fail))
          go_roundw
          case rel => exact ⟨k + 1, z, t, r, by omega, by omega, htn, rfl, by go_num, HN.out (by omega), HZN.out, hws, HB1.out, HB.out, HPX.out.drew nq⟩
          case measure => simp [intOf]; omega
        · have hu1 : (u == -1) = false := by simp [hu]
          go_wp2_with (go_quiet (fail))
          go_roundw
          case rel => exact ⟨k + 1, k + 1, t, u, by omega, by omega, htn, rfl, by go_num, HM.out (by omega), HZN.out, by rw [(same_two (wr.drewN nq) _ _ _).1]; exact hws, ((same_two (wr.drewN nq) (w.heap.size + 2) _ _).2.2.2.2 _ (by omega)).trans HB1.out, block_store (i := 1) (block_store (i := 0) (w := wr.drewN nq) HB.out _) _, (HPX.out.drew nq).set HX0.out HT0.out (same_two (wr.drewN nq) (w.heap.size + 2) _ _) (by omega) (by omega)⟩
          case measure => simp [intOf]; omega
    · have hk1 : ¬ (k : Int) < (s.size : Int) := by omega
      have HE : Hid (ans = (r, z)) := HG.out.over (Or.inl (drop_all s k (by omega)))
      have HE2 : Hid (ce = dead L X p) := by show _ = _; rw [← HCE.out, HGZ.out.ends (drop_all s k (by omega))]; rfl
      have hp1 : (p : Int) < (n : Int) := by omega
      have hp0 : (0 : Int) ≤ (p : Int) := by omega
      obtain ⟨a1, c1, cu, -, hu⟩ := HPX.out.next.cells p hp
      have d1 := HPX.out.c1
      have hie := isEnd_any _ L X p wr hu (fun t ht => HST.out p t hp ht)
      rw [← HE2.out] at hie
      clear hu
      go_wp2_with fail
      refine hie.mono ?_
      rintro _ w4 ⟨rfl, h4⟩
      rw [h4]
      clear h4 hie
      go_wp2_with fail
      have y0 := block_cell (three (w := wr.setCell ⟨w.heap.size + 2, 2, none⟩ (.bool ce)) ((Below.heap_setCell _ _ _ _ (by simp)).trans HB1.out) (.int .i64 r) (.int .i64 (z : Int)) (.bool ce)) 0
      have y1 := block_cell (three (w := wr.setCell ⟨w.heap.size + 2, 2, none⟩ (.bool ce)) ((Below.heap_setCell _ _ _ _ (by simp)).trans HB1.out) (.int .i64 r) (.int .i64 (z : Int)) (.bool ce)) 1
      have y2 := block_cell (three (w := wr.setCell ⟨w.heap.size + 2, 2, none⟩ (.bool ce)) ((Below.heap_setCell _ _ _ _ (by simp)).trans HB1.out) (.int .i64 r) (.int .i64 (z : Int)) (.bool ce)) 2
      simp only [List.getElem?_toArray, List.getElem?_cons_zero, List.getElem?_cons_succ] at y0 y1 y2
      exact bodyPost_ret (v := .agg #[.int .i64 r, .int .i64 (z : Int), .bool ce]) (by simp [results, Try.results15, go_sem, y0, y1, y2]) rfl ⟨by rw [HE.out], ((((HPX.out.below).setCell (by simp <;> omega) _).setCell (by simp <;> omega) _).setCell (by simp <;> omega) _).setCell (by simp <;> omega) _⟩

set_option maxHeartbeats 4000000 in
set_option maxRecDepth 20000 in
theorem stuck_any (O : Nat → Nat) (nv tv : Value) (n : Nat) (L : Nat → Nat) (X : Nat → Nat → Int) (T : Nat → Int) (s : ByteArray) (w : World) (hO : ∀ j, O j < 256) (hx : Nx w nv n L X) (ht : Ts w tv n T) (hok : chkP n n O L X T = 0) (hs : s.size ≤ 2000) :
    Calls Try.prog 18 #[.agg (pl O nv tv).toArray, .string s] w fun e w' => e = .returned (.bool (stk (RR n O X) L X s.data.toList)) ∧ Below w.heap.size w w' := by
  obtain ⟨hn0, hn1, -, hcols, hsts, htgs⟩ := chkP_zero hok
  have HCO : Hid (∀ i j, i < n → j < 256 → O j < L i ∧ -1 ≤ X i (O j) ∧ X i (O j) ≤ (n : Int) - 1) := fun i j hi hj => by
    obtain ⟨g1, g2, g3⟩ := cols_at hcols
    have h2 : O j < L i := by rw [g1 i hi]; exact g3 j hj
    exact ⟨h2, states_at hsts i (O j) hi h2⟩
  have HO : Hid (∀ j, O j < 256) := hO
  have HLB : Hid (∀ i, i < n → L i ≤ 256) := fun i hi => by obtain ⟨g1, g2, g3⟩ := cols_at hcols; rw [g1 i hi]; exact g2
  obtain ⟨l, HLL⟩ : ∃ l, Hid (pl O nv tv = l) := ⟨_, (rfl : pl O nv tv = pl O nv tv)⟩
  have HP : Hid (Px w w.heap.size O nv tv n n L X T l (w.alloc (Obj.cells l.toArray 26))) := Px.box HLL.out hx ht
  rw [HLL.out]
  obtain ⟨ao, cap, rfl, hn, hxc⟩ := id hx
  obtain ⟨b, o, rfl, hbw, -⟩ := hxc.resolve_left (by omega)
  have hZ := Gz.start (RR n O X) s.data.toList
  have HSK : Hid (stk (RR n O X) L X s.data.toList = stkOf L X (en (RR n O X) 0 s.data.toList)) := (rfl : _ = _)
  rw [HSK.out]
  obtain ⟨an2, HA2⟩ : ∃ a, Hid (en (RR n O X) 0 s.data.toList = a) := ⟨_, (rfl : _ = _)⟩
  rw [HA2.out] at hZ ⊢
  obtain ⟨ce, HCE⟩ : ∃ a, Hid (stkOf L X an2 = a) := ⟨_, (rfl : _ = _)⟩
  rw [HCE.out]
  clear hcols hsts htgs hO hx ht hxc hok HSK
  go_enter Try.func18, Try.ntmps18
  go_wp2_with fail
  go_loopw [5, 6] (fun qv av wr => ∃ (k p : Nat), k ≤ s.size ∧ p < n ∧ qv = .int .i64 (p : Int) ∧ av = .int .i64 (k : Int) ∧ Gz (RR n O X) s.data.toList k (p : Int) an2 ∧
      Px w w.heap.size O (.slice (some ⟨b, o, none⟩) n cap) tv n n L X T l wr) (fun _ av _ => s.size - (intOf av).toNat)
  case atStart => exact ⟨0, 0, by omega, by omega, rfl, rfl, hZ, HP.out⟩
  case round =>
    obtain ⟨k, p, hk, hp, rfl, rfl, hgz, hpx⟩ := hrel
    have HGZ : Hid (Gz (RR n O X) s.data.toList k (p : Int) an2) := hgz
    have HPX : Hid (Px w w.heap.size O (.slice (some ⟨b, o, none⟩) n cap) tv n n L X T l wr) := hpx
    clear hgz hpx hZ HP
    have hp1 : (p : Int) < (n : Int) := by omega
    have hp0 : (0 : Int) ≤ (p : Int) := by omega
    by_cases hlt : k < s.size
    · have hk1 : (k : Int) < (s.size : Int) := by omega
      have hbr := byte_run s k hlt
      have HXX : Hid (s.data.toList.drop k = s[k] :: s.data.toList.drop (k + 1)) := drop_cons s k hlt
      obtain ⟨x, HX⟩ : ∃ x, Hid (s[k] = x) := ⟨_, (rfl : s[k] = s[k])⟩
      rw [HX.out] at hbr HXX
      have hx : x.toNat < 256 := x.toNat_lt
      have hx1 : (x.toNat : Int) < 256 := by omega
      obtain ⟨h1, h2, h3⟩ := HCO.out p x.toNat hp hx
      have hre : RR n O X p x.toNat = X p (O x.toNat) := by unfold RR; rw [if_pos ⟨hp, hx⟩]
      have HZN : Hid (Gz (RR n O X) s.data.toList (k + 1) (X p (O x.toNat)) an2) := by
        have := HGZ.out.next HXX.out
        rwa [hre] at this
      obtain ⟨a1, c1, cu, -, hu⟩ := HPX.out.next.cells p hp
      obtain ⟨bk, ok, rfl, -⟩ := hu.place (by omega)
      have cx := hu.cells (O x.toNat) h1
      have co := HPX.out.of x.toNat hx
      have ho := HO.out x.toNat
      obtain ⟨oj, HOJ⟩ : ∃ j, Hid (O x.toNat = j) := ⟨_, (rfl : O x.toNat = O x.toNat)⟩
      rw [HOJ.out] at h1 h2 h3 HZN cx co ho
      obtain ⟨lk, HLK⟩ : ∃ j, Hid (L p = j) := ⟨_, (rfl : L p = L p)⟩
      rw [HLK.out] at h1 cu
      have h1' : (oj : Int) < (lk : Int) := by omega
      have d1 := HPX.out.c1
      obtain ⟨y, HY⟩ : ∃ y, Hid (X p oj = y) := ⟨_, (rfl : X p oj = X p oj)⟩
      rw [HY.out] at h2 h3 HZN cx
      clear hu hre
      by_cases hy : y < 0
      · have HE2 : Hid (ce = true) := by show _ = _; rw [← HCE.out, HZN.out.over hy]; rfl
        go_wp2_with (go_quiet (fail))
        go_ret
        exact ⟨by rw [HE2.out]; rfl, (HPX.out.drew nq).below⟩
      · obtain ⟨t, rfl⟩ : ∃ t : Nat, y = (t : Int) := ⟨y.toNat, by omega⟩
        go_wp2_with (go_quiet (fail))
        go_roundw
        case rel => exact ⟨k + 1, t, by omega, by omega, rfl, by go_num, HZN.out, HPX.out.drew nq⟩
        case measure => simp [intOf]; omega
    · have hk1 : ¬ (k : Int) < (s.size : Int) := by omega
      have HE2 : Hid (ce = dead L X p) := by show _ = _; rw [← HCE.out, HGZ.out.ends (drop_all s k (by omega))]; rfl
      obtain ⟨a1, c1, cu, -, hu⟩ := HPX.out.next.cells p hp
      have d1 := HPX.out.c1
      have HUC : Hid (∀ t, t < L p → wr.cell? ⟨a1.getD ⟨0, 0, none⟩ |>.block, (a1.getD ⟨0, 0, none⟩).off + t, none⟩ = some (.int .i64 (X p t)) ∧ a1 = some ⟨(a1.getD ⟨0, 0, none⟩).block, (a1.getD ⟨0, 0, none⟩).off, none⟩) := fun t ht => by
        obtain ⟨bk, ok, rfl, -⟩ := hu.place (by omega)
        exact ⟨hu.cells t ht, rfl⟩
      have HLP : Hid (L p ≤ 256) := HLB.out p hp
      have HD0 : Hid ((∀ t, t < L p → X p t < 0) → ce = true) := fun h => by rw [HE2.out]; exact dead_true h
      have HD1 : Hid (∀ t, t < L p → ¬ X p t < 0 → ce = false) := fun t h h2 => by rw [HE2.out]; exact dead_false h h2
      have HBE : Hid (Below w.heap.size w wr) := HPX.out.below
      obtain ⟨lk, HLK⟩ : ∃ j, Hid (L p = j) := ⟨_, (rfl : L p = L p)⟩
      rw [HLK.out] at cu HUC HLP HD0 HD1
      clear hu HPX
      go_wp2_with fail
      go_loopw [7] (fun z wq => ∃ j : Nat, j ≤ lk ∧ z = .int .i64 (j : Int) ∧ Hid (∀ t, t < j → X p t < 0) ∧ wq = wr) (fun z _ => lk - (intOf z).toNat)
      case atStart => exact ⟨0, by omega, rfl, fun t ht => by omega, rfl⟩
      case round =>
        obtain ⟨j, hj, rfl, HJ, rfl⟩ := hrel
        have hl := HLP.out
        by_cases hlj : j < lk
        · have hj0 : (0 : Int) ≤ (j : Int) := by omega
          have hj1 : (j : Int) < (lk : Int) := by omega
          obtain ⟨y0, hae⟩ := HUC.out j hlj
          obtain ⟨bk, HBKK⟩ : ∃ q, Hid ((a1.getD ⟨0, 0, none⟩).block = q) := ⟨_, (rfl : _ = _)⟩
          obtain ⟨ok, HOKK⟩ : ∃ q, Hid ((a1.getD ⟨0, 0, none⟩).off = q) := ⟨_, (rfl : _ = _)⟩
          rw [HBKK.out, HOKK.out] at y0 hae
          have d2 := cu
          rw [hae] at d2
          obtain ⟨y, HYY⟩ : ∃ a, Hid (X p j = a) := ⟨_, (rfl : _ = _)⟩
          rw [HYY.out] at y0
          by_cases hy : y < 0
          · have hy1 : ¬ (0 : Int) ≤ y := by omega
            go_wp2_with fail
            go_roundw
            case rel => exact ⟨j + 1, by omega, by go_num, fun t ht => by
              by_cases e : t = j
              · subst e; rw [HYY.out]; omega
              · exact HJ.out t (by omega), trivial⟩
            case measure => simp [intOf]; omega
          · have hy1 : (0 : Int) ≤ y := by omega
            have HE : Hid (ce = false) := HD1.out j hlj (by rw [HYY.out]; omega)
            go_wp2_with fail
            go_ret
            exact ⟨by rw [HE.out]; rfl, HBE.out⟩
        · have hj1 : ¬ (j : Int) < (lk : Int) := by omega
          have HE : Hid (ce = true) := HD0.out fun t ht => HJ.out t (by omega)
          go_wp2_with fail
          go_ret
          exact ⟨by rw [HE.out]; rfl, HBE.out⟩
end Go.Proofs.Ytcdnbkfjiigdmaa
